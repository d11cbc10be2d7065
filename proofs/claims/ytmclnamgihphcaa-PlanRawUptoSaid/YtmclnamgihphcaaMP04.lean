/- The table of rows, in memory. -/
import Derived.Test.YtmclnamgihphcaaMP03
import Derived.Test.YtmclnamgihphcaaMP01
import Derived.Deep.RegionHeld3
set_option linter.unusedVariables false
set_option linter.unusedSimpArgs false
namespace Go.Proofs.Ytmclnamgihphcaa
open Go.RowKit

/-- a row, plain -/
structure RowD where
  head : Int
  name : List UInt8
  kind : Int
  lo : Int
  hi : Int
  cs : List (List UInt8)
  df : List UInt8
  cl : Int
def tableD : List RowD := [
  ⟨0, [114, 111, 117, 116, 101, 114, 45, 105, 100], 0, 0, 0, [], [], 6⟩,
  ⟨1, [99, 111, 115, 116], 2, 0, 65535, [], [49], 2⟩,
  ⟨1, [116, 121, 112, 101], 3, 0, 0, [[110, 111, 114, 109, 97, 108], [115, 116, 117, 98], [110, 115, 115, 97]], [110, 111, 114, 109, 97, 108], 3⟩,
  ⟨2, [97, 100, 100, 114, 101, 115, 115], 1, 0, 0, [], [], 4⟩,
  ⟨2, [97, 114, 101, 97], 0, 0, 0, [], [], 5⟩,
  ⟨2, [97, 117, 116, 104], 4, 0, 8, [], [], 3⟩,
  ⟨2, [99, 111, 115, 116], 2, 1, 65535, [], [49, 48], 2⟩,
  ⟨2, [100, 101, 97, 100], 2, 1, 65535, [], [52, 48], 3⟩,
  ⟨2, [104, 101, 108, 108, 111], 2, 1, 65535, [], [49, 48], 3⟩,
  ⟨2, [110, 101, 116, 119, 111, 114, 107], 3, 0, 0, [[98, 114, 111, 97, 100, 99, 97, 115, 116], [112, 111, 105, 110, 116, 45, 116, 111, 45, 112, 111, 105, 110, 116]], [98, 114, 111, 97, 100, 99, 97, 115, 116], 4⟩,
  ⟨2, [112, 114, 105, 111, 114, 105, 116, 121], 2, 0, 255, [], [49], 1⟩,
  ⟨2, [114, 101, 116, 114, 97, 110, 115, 109, 105, 116], 2, 1, 3600, [], [53], 0⟩]
def rowVals (r : RowD) (cv : Value) : List Value := [.int .i64 r.head, strv r.name, .int .i64 r.kind, .int .i64 r.lo, .int .i64 r.hi, cv, strv r.df, .int .i64 r.cl]
/-- a row lies at place o of block g -/
def RowAt (B : Nat) (w : World) (g o : Nat) (r : RowD) : Prop := ∃ cv, w.rangeAt g o (rowVals r cv) ∧ StrsAt w cv r.cs ∧ ∀ k, cv.ownBlock = some k → B ≤ k
/-- the table lies in block g -/
def TableAt (B : Nat) (w : World) (g : Nat) : Prop := ∀ i r, tableD[i]? = some r → RowAt B w g (i * 8) r
theorem RowAt.keep {B : Nat} {w w' : World} {g o : Nat} {r : RowD} (h : RowAt B w g o r) (k : Keeps (fun _ => False) w w') : RowAt B w' g o r := by
  obtain ⟨cv, h1, h2, h3⟩ := h
  exact ⟨cv, k.rangeAt h1 id, h2.keep k (fun _ _ _ f => f), h3⟩
theorem TableAt.keep {B : Nat} {w w' : World} {g : Nat} (h : TableAt B w g) (k : Keeps (fun _ => False) w w') : TableAt B w' g := fun i r hr => (h i r hr).keep k

/-- the cells of the whole table, the choices at b1 and b2 -/
def tableCells (b1 b2 : Nat) : List Value :=
  (tableD.zipIdx.map fun x => rowVals x.1 (if x.2 = 2 then .slice (some ⟨b1, 0, none⟩) 3 3 else if x.2 = 9 then .slice (some ⟨b2, 0, none⟩) 2 2 else .slice none 0 0)).flatten
def choices1 : List (List UInt8) := [[110, 111, 114, 109, 97, 108], [115, 116, 117, 98], [110, 115, 115, 97]]
def choices2 : List (List UInt8) := [[98, 114, 111, 97, 100, 99, 97, 115, 116], [112, 111, 105, 110, 116, 45, 116, 111, 45, 112, 111, 105, 110, 116]]
theorem range_partM {w : World} {g : Nat} {L M : List Value} {o : Nat} (h : w.rangeAt g 0 L) (hm : ∀ j u, M[j]? = some u → L[o + j]? = some u) : w.rangeAt g o M := fun j u hu => by
  have := h (o + j) u (hm j u hu)
  simpa using this
theorem tableAt_of {B : Nat} {w : World} {g b1 b2 : Nat} (hB1 : B ≤ b1) (hB2 : B ≤ b2) (h : w.rangeAt g 0 (tableCells b1 b2)) (h1 : w.rangeAt b1 0 (choices1.map strv)) (h2 : w.rangeAt b2 0 (choices2.map strv)) : TableAt B w g := by
  intro i r hr
  have hi : i < 12 := (List.getElem?_eq_some_iff.1 hr).1
  have none_at : StrsAt w (.slice none 0 0) [] := ⟨none, 0, rfl, by simp⟩
  have none_b : ∀ k, (Value.slice none 0 0).ownBlock = some k → B ≤ k := fun k e => by cases e
  have b_at : ∀ b n c, B ≤ b → ∀ k, (Value.slice (some ⟨b, 0, none⟩) n c).ownBlock = some k → B ≤ k := fun b n c h k e => by
    have e : some b = some k := e
    injection e with e; omega
  match i, hi, hr with
  | 0, _, hr => (injection hr with hr; subst hr); exact ⟨_, range_partM (M := rowVals _ _) h (fun j u hu => by match j, hu with | 0, hu => exact hu | 1, hu => exact hu | 2, hu => exact hu | 3, hu => exact hu | 4, hu => exact hu | 5, hu => exact hu | 6, hu => exact hu | 7, hu => exact hu), none_at, none_b⟩
  | 1, _, hr => (injection hr with hr; subst hr); exact ⟨_, range_partM (M := rowVals _ _) h (fun j u hu => by match j, hu with | 0, hu => exact hu | 1, hu => exact hu | 2, hu => exact hu | 3, hu => exact hu | 4, hu => exact hu | 5, hu => exact hu | 6, hu => exact hu | 7, hu => exact hu), none_at, none_b⟩
  | 2, _, hr => (injection hr with hr; subst hr); exact ⟨_, range_partM (M := rowVals _ _) h (fun j u hu => by match j, hu with | 0, hu => exact hu | 1, hu => exact hu | 2, hu => exact hu | 3, hu => exact hu | 4, hu => exact hu | 5, hu => exact hu | 6, hu => exact hu | 7, hu => exact hu), ⟨some ⟨b1, 0, none⟩, 3, rfl, fun _ => ⟨b1, 0, rfl, h1⟩⟩, b_at b1 3 3 hB1⟩
  | 3, _, hr => (injection hr with hr; subst hr); exact ⟨_, range_partM (M := rowVals _ _) h (fun j u hu => by match j, hu with | 0, hu => exact hu | 1, hu => exact hu | 2, hu => exact hu | 3, hu => exact hu | 4, hu => exact hu | 5, hu => exact hu | 6, hu => exact hu | 7, hu => exact hu), none_at, none_b⟩
  | 4, _, hr => (injection hr with hr; subst hr); exact ⟨_, range_partM (M := rowVals _ _) h (fun j u hu => by match j, hu with | 0, hu => exact hu | 1, hu => exact hu | 2, hu => exact hu | 3, hu => exact hu | 4, hu => exact hu | 5, hu => exact hu | 6, hu => exact hu | 7, hu => exact hu), none_at, none_b⟩
  | 5, _, hr => (injection hr with hr; subst hr); exact ⟨_, range_partM (M := rowVals _ _) h (fun j u hu => by match j, hu with | 0, hu => exact hu | 1, hu => exact hu | 2, hu => exact hu | 3, hu => exact hu | 4, hu => exact hu | 5, hu => exact hu | 6, hu => exact hu | 7, hu => exact hu), none_at, none_b⟩
  | 6, _, hr => (injection hr with hr; subst hr); exact ⟨_, range_partM (M := rowVals _ _) h (fun j u hu => by match j, hu with | 0, hu => exact hu | 1, hu => exact hu | 2, hu => exact hu | 3, hu => exact hu | 4, hu => exact hu | 5, hu => exact hu | 6, hu => exact hu | 7, hu => exact hu), none_at, none_b⟩
  | 7, _, hr => (injection hr with hr; subst hr); exact ⟨_, range_partM (M := rowVals _ _) h (fun j u hu => by match j, hu with | 0, hu => exact hu | 1, hu => exact hu | 2, hu => exact hu | 3, hu => exact hu | 4, hu => exact hu | 5, hu => exact hu | 6, hu => exact hu | 7, hu => exact hu), none_at, none_b⟩
  | 8, _, hr => (injection hr with hr; subst hr); exact ⟨_, range_partM (M := rowVals _ _) h (fun j u hu => by match j, hu with | 0, hu => exact hu | 1, hu => exact hu | 2, hu => exact hu | 3, hu => exact hu | 4, hu => exact hu | 5, hu => exact hu | 6, hu => exact hu | 7, hu => exact hu), none_at, none_b⟩
  | 9, _, hr => (injection hr with hr; subst hr); exact ⟨_, range_partM (M := rowVals _ _) h (fun j u hu => by match j, hu with | 0, hu => exact hu | 1, hu => exact hu | 2, hu => exact hu | 3, hu => exact hu | 4, hu => exact hu | 5, hu => exact hu | 6, hu => exact hu | 7, hu => exact hu), ⟨some ⟨b2, 0, none⟩, 2, rfl, fun _ => ⟨b2, 0, rfl, h2⟩⟩, b_at b2 2 2 hB2⟩
  | 10, _, hr => (injection hr with hr; subst hr); exact ⟨_, range_partM (M := rowVals _ _) h (fun j u hu => by match j, hu with | 0, hu => exact hu | 1, hu => exact hu | 2, hu => exact hu | 3, hu => exact hu | 4, hu => exact hu | 5, hu => exact hu | 6, hu => exact hu | 7, hu => exact hu), none_at, none_b⟩
  | 11, _, hr => (injection hr with hr; subst hr); exact ⟨_, range_partM (M := rowVals _ _) h (fun j u hu => by match j, hu with | 0, hu => exact hu | 1, hu => exact hu | 2, hu => exact hu | 3, hu => exact hu | 4, hu => exact hu | 5, hu => exact hu | 6, hu => exact hu | 7, hu => exact hu), none_at, none_b⟩

def TablePost (w : World) (e : Ending) (w' : World) : Prop := ∃ g, e = .returned (.slice (some ⟨g, 0, none⟩) 12 12) ∧ w.heap.size ≤ g ∧ TableAt w.heap.size w' g ∧ Keeps (fun _ => False) w w'
theorem tablePost_of {w : World} {O1 O2 O3 : Array Value} (t1 t2 t3 : TypeId) (h1 : O1 = (choices1.map strv).toArray) (h2 : O2 = (choices2.map strv).toArray) (h3 : O3 = (tableCells w.heap.size (w.heap.size + 1)).toArray) :
    TablePost w (.returned (.slice (some ⟨w.heap.size + 2, 0, none⟩) 12 12)) (((w.alloc (.cells O1 t1)).alloc (.cells O2 t2)).alloc (.cells O3 t3)) := by
  have k1 : Keeps (fun _ => False) (w.alloc (.cells O1 t1)) (((w.alloc (.cells O1 t1)).alloc (.cells O2 t2)).alloc (.cells O3 t3)) := ((Keeps.refl _ _).alloc _).alloc _
  have k2 : Keeps (fun _ => False) ((w.alloc (.cells O1 t1)).alloc (.cells O2 t2)) (((w.alloc (.cells O1 t1)).alloc (.cells O2 t2)).alloc (.cells O3 t3)) := (Keeps.refl _ _).alloc _
  refine ⟨w.heap.size + 2, rfl, by omega, tableAt_of (b1 := w.heap.size) (b2 := w.heap.size + 1) (Nat.le_refl _) (by omega) ?_ ?_ ?_, (((Keeps.refl _ _).alloc _).alloc _).alloc _⟩
  · intro j u hu
    have := cells_new (w := (w.alloc (.cells O1 t1)).alloc (.cells O2 t2)) (n := w.heap.size + 2) (by simp) (tableCells w.heap.size (w.heap.size + 1)) t3 j u hu
    rw [Addr.add_mid] at this
    rw [h3]; exact this
  · refine k1.rangeAt ?_ id
    intro j u hu
    have := cells_new (w := w) (n := w.heap.size) rfl (choices1.map strv) t1 j u hu
    rw [Addr.add_mid] at this
    rw [h1]; exact this
  · refine k2.rangeAt ?_ id
    intro j u hu
    have := cells_new (w := w.alloc (.cells O1 t1)) (n := w.heap.size + 1) (by simp) (choices2.map strv) t2 j u hu
    rw [Addr.add_mid] at this
    rw [h2]; exact this
set_option maxRecDepth 100000 in
set_option maxHeartbeats 4000000 in
theorem table_any (w : World) : Calls Try.prog 40 #[] w (TablePost w) := by
  go_enter Try.func40, Try.ntmps40
  go_wp2
  go_ret
  exact tablePost_of _ _ _ rfl rfl rfl
end Go.Proofs.Ytmclnamgihphcaa
/- Find, walked. -/
namespace Go.Proofs.Ytmclnamgihphcaa
open Go.RowKit

theorem rowInfo : (Try.prog.info? 120).map (·.size) = some 8 := by kernel_rfl
def findD (head : Int) (name : List UInt8) : Option RowD := tableD.find? (fun r => decide (r.head = head ∧ r.name = name))
def zeroRow : Array Value := #[.int .i64 0, .string ⟨#[]⟩, .int .i64 0, .int .i64 0, .int .i64 0, .slice none 0 0, .string ⟨#[]⟩, .int .i64 0]
/-- what Find answers -/
def FindPost (f : Option RowD) (w : World) (e : Ending) (w' : World) : Prop :=
  match f with
  | some r => ∃ p cc, e = .returned (.tuple #[.agg #[.int .i64 r.head, strv r.name, .int .i64 r.kind, .int .i64 r.lo, .int .i64 r.hi, .slice p r.cs.length cc, strv r.df, .int .i64 r.cl], .bool true]) ∧ StrsAt w' (.slice p r.cs.length cc) r.cs ∧ Keeps (fun _ => False) w w'
  | none => e = .returned (.tuple #[.agg zeroRow, .bool false]) ∧ Keeps (fun _ => False) w w'

theorem row_one (a c d e h : Int) (n f : ByteArray) (p : Option Addr) (k m : Nat) : (#[.int .i64 a, .string n, .int .i64 c, .int .i64 d, .int .i64 e, .slice p k m, .string f, .int .i64 h] : Array Value).all (·.oneCell') = true := by simp; exact ⟨rfl, rfl, rfl, rfl, rfl, rfl, rfl, rfl⟩
theorem find_step {head : Int} {name : List UInt8} {k : Nat} {r : RowD} (hr : tableD[k]? = some r) (hno : ∀ (i : Nat) (q : RowD), i < k → tableD[i]? = some q → ¬ (q.head = head ∧ q.name = name)) (h : r.head = head ∧ r.name = name) : findD head name = some r := by
  unfold findD
  rw [List.find?_eq_some_iff_getElem]
  obtain ⟨hk, e⟩ := List.getElem?_eq_some_iff.1 hr
  exact ⟨by simpa using h, k, hk, e, fun j hj => by
    have := hno j _ hj (List.getElem?_eq_getElem (by omega))
    simpa only [decide_eq_true_eq, Bool.not_eq_true', decide_eq_false_iff_not] using this⟩
theorem find_none {head : Int} {name : List UInt8} (hno : ∀ (i : Nat) (q : RowD), i < 12 → tableD[i]? = some q → ¬ (q.head = head ∧ q.name = name)) : findD head name = none := by
  unfold findD
  rw [List.find?_eq_none]
  intro q hq
  obtain ⟨i, hi⟩ := List.getElem?_of_mem hq
  have := hno i q (List.getElem?_eq_some_iff.1 hi).1 hi
  simpa using this

theorem wpList_store_row_named {P : Program} {ops : Array Oper} {rest : List Oper} {o : Oper} {a : Act} {w : World} {Q : Exit → Act → World → Prop} (hgd : o.guard = none) (ty : TypeId) (x y : Operand) (ho : o.op = .store ty x y)
    (g : Nat) (cells : Array Value) (hx : a.eval x = .pointer (some ⟨g, 0, none⟩)) (hy : a.eval y = .agg cells)
    (t : TypeId) (old : Array Value) (hg : w.heap[g]? = some (.cells old t (0, 0))) (hi : (P.info? ty).map (·.size) = some cells.size)
    (hold : old.size = cells.size) (h1 : cells.all (·.oneCell') = true)
    (h : ∀ w1, w1 = w.setRow g cells → wpList P ops Q rest (a.put o.dst undef) w1) : wpList P ops Q (o :: rest) a w :=
  wpList_store_row hgd ty x y ho g cells hx hy t old hg hi hold h1 (h _ rfl)
set_option maxRecDepth 100000 in
set_option maxHeartbeats 2000000 in
theorem find_any (head : Int) (nm : ByteArray) (f : Option RowD) (w : World) (hf : Hid (findD head nm.data.toList = f)) :
    Calls Try.prog 69 #[.int .i64 head, .string nm] w (FindPost f w) := by
  go_enter Try.func69, Try.ntmps69
  go_wp2_with fail
  refine (table_any _).mono ?_
  rintro e w1 ⟨g, rfl, hg, ht, hk⟩
  have hb : w1.heap[w.heap.size]? = some (.cells zeroRow 120 (0, 0)) := by
    rw [hk.block _ (by simp) id]
    exact heap_alloc_last w _
  have hb' := Lib.hid hb; have ht' := Lib.hid (show TableAt (w.heap.size + 1) w1 g by simpa using ht); have hk' := Lib.hid (((Keeps.refl (fun _ => False) w).alloc _).trans hk)
  have hgs : w.heap.size + 1 ≤ g := by simpa using hg
  clear hb ht hk hg
  go_wp2_with fail
  go_loopw [10] (fun i wr => ∃ k : Nat, k ≤ 12 ∧ i = .int .i64 k ∧ Hid (∀ (i : Nat) (q : RowD), i < k → tableD[i]? = some q → ¬ (q.head = head ∧ q.name = nm.data.toList)) ∧ Hid (TableAt (w.heap.size + 1) wr g) ∧ Hid (wr.heap[w.heap.size]? = some (.cells zeroRow 120 (0, 0))) ∧ Hid (Keeps (fun _ => False) w wr)) (fun i _ => 12 - (intOf i).toNat)
  case atStart => exact ⟨0, by omega, rfl, Lib.hid (fun _ _ h => by omega), ht', hb', hk'⟩
  case round =>
    obtain ⟨k, hk12, rfl, hno, htr, hbr, hkr⟩ := hrel
    by_cases hlt : k < 12
    · obtain ⟨r, hr⟩ : ∃ r, tableD[k]? = some r := ⟨_, List.getElem?_eq_getElem (show k < tableD.length from hlt)⟩
      obtain ⟨cv, hrange, hcs, hbk⟩ := htr.out k r hr
      obtain ⟨p, cc, rfl, hcs0⟩ := hcs
      have hbkeep := Lib.hid hbk; clear hbk
      have hcs' : Hid (StrsAt wr (.slice p r.cs.length cc) r.cs) := Lib.hid ⟨p, cc, rfl, hcs0⟩
      obtain ⟨N, hN⟩ : ∃ N : ByteArray, N = ⟨r.name.toArray⟩ := ⟨_, rfl⟩
      obtain ⟨F, hF⟩ : ∃ F : ByteArray, F = ⟨r.df.toArray⟩ := ⟨_, rfl⟩
      have hra : Hid (wr.rangeAt g (k * 8) [.int .i64 r.head, .string N, .int .i64 r.kind, .int .i64 r.lo, .int .i64 r.hi, .slice p r.cs.length cc, .string F, .int .i64 r.cl]) := Lib.hid (by rw [hN, hF]; exact hrange)
      have hNl : N.toList = r.name := by rw [hN, Lib.toList_data]
      have hN' := Lib.hid hN; have hF' := Lib.hid hF; have hr' := Lib.hid hr
      clear hcs0 hrange hN hF hr
      by_cases hh : r.head = head
      · have e1 : (r.head == head) = true := by simpa using hh
        by_cases hn : r.name = nm.data.toList
        · have e2 : (N.toList == nm.toList) = true := by rw [hNl, Lib.toList_data, hn]; simp
          have hfr : Hid (f = some r) := Lib.hid (by rw [← hf.out]; exact find_step hr'.out hno.out ⟨hh, hn⟩)
          have hNl' := Lib.hid hNl; clear hh hn hNl
          have hnew : Hid ((wr.alloc (.cells #[.int .i64 r.head, .string N, .int .i64 r.kind, .int .i64 r.lo, .int .i64 r.hi, .slice p r.cs.length cc, .string F, .int .i64 r.cl] 120)).rangeAt wr.heap.size 0 [.int .i64 r.head, .string N, .int .i64 r.kind, .int .i64 r.lo, .int .i64 r.hi, .slice p r.cs.length cc, .string F, .int .i64 r.cl]) := Lib.hid (fun j u hu => by
            have := cells_new (w := wr) (n := wr.heap.size) rfl [.int .i64 r.head, .string N, .int .i64 r.kind, .int .i64 r.lo, .int .i64 r.hi, .slice p r.cs.length cc, .string F, .int .i64 r.cl] 120 j u hu
            rw [Addr.add_mid] at this; exact this)
          have k1 : Keeps (fun _ => False) wr (wr.alloc (.cells #[.int .i64 r.head, .string N, .int .i64 r.kind, .int .i64 r.lo, .int .i64 r.hi, .slice p r.cs.length cc, .string F, .int .i64 r.cl] 120)) := (Keeps.refl _ _).alloc _
          have hbn : Hid ((wr.alloc (.cells #[.int .i64 r.head, .string N, .int .i64 r.kind, .int .i64 r.lo, .int .i64 r.hi, .slice p r.cs.length cc, .string F, .int .i64 r.cl] 120)).heap[w.heap.size]? = some (.cells zeroRow 120 (0, 0))) := Lib.hid ((k1.block _ (lt_of_block hbr.out) id).trans hbr.out)
          have k1' := Lib.hid k1; clear k1
          go_wp2_with (first | ((with_reducible refine at_slot 13 ?_); refine wpList_load_mid rfl 120 (.tmp 12) rfl g (k * 8) rfl _ _ hra.out Try.underlying120 rfl rowInfo ?_) | ((with_reducible refine at_store 7 ?_); refine wpList_store_new rfl 120 (.tmp 7) (.tmp 13) rfl _ #[.int .i64 r.head, .string N, .int .i64 r.kind, .int .i64 r.lo, .int .i64 r.hi, .slice p r.cs.length cc, .string F, .int .i64 r.cl] rfl rfl rowInfo rfl (row_one _ _ _ _ _ _ _ _ _ _) ?_) | ((with_reducible refine at_slot 24 ?_); refine wpList_load_mid rfl 120 (.tmp 7) rfl wr.heap.size 0 rfl [.int .i64 r.head, .string N, .int .i64 r.kind, .int .i64 r.lo, .int .i64 r.hi, .slice p r.cs.length cc, .string F, .int .i64 r.cl] _ hnew.out Try.underlying120 rfl rowInfo ?_) | ((with_reducible refine at_store 4 ?_); refine wpList_store_row_named rfl 120 (.tmp 4) (.tmp 24) rfl w.heap.size #[.int .i64 r.head, .string N, .int .i64 r.kind, .int .i64 r.lo, .int .i64 r.hi, .slice p r.cs.length cc, .string F, .int .i64 r.cl] rfl rfl 120 zeroRow hbn.out rowInfo rfl (row_one _ _ _ _ _ _ _ _ _ _) ?_; intro W2 hW2; have hW2' := Lib.hid hW2; clear hW2))
          have hcell : ∀ j, W2.cell? ⟨w.heap.size, j, none⟩ = (#[.int .i64 r.head, .string N, .int .i64 r.kind, .int .i64 r.lo, .int .i64 r.hi, .slice p r.cs.length cc, .string F, .int .i64 r.cl] : Array Value)[j]? := fun j => by rw [hW2'.out]; exact cell_setRow_same _ _ _ _ _ _ _ hbn.out
          have c0 := hcell 0; have c1 := hcell 1; have c2 := hcell 2; have c3 := hcell 3; have c4 := hcell 4; have c5 := hcell 5; have c6 := hcell 6; have c7 := hcell 7
          have kall : Keeps (fun _ => False) w W2 := by rw [hW2'.out]; exact (hkr.out.trans k1'.out).setRow (.inr (Nat.le_refl _)) _
          have hcsW : StrsAt W2 (.slice p r.cs.length cc) r.cs := by
            have h1 := hcs'.out.keep k1'.out (fun _ _ _ f => f)
            rw [hW2'.out]
            refine h1.keep ((Keeps.refl (fun k => k = w.heap.size) _).setRow (.inl rfl) _) (fun h0 i e f => ?_)
            have := hbkeep.out i e
            omega
          have hcell' := Lib.hid hcell; clear hcell
          rw [hfr.out]
          refine bodyPost_ret (v := .tuple #[.agg #[.int .i64 r.head, .string N, .int .i64 r.kind, .int .i64 r.lo, .int .i64 r.hi, .slice p r.cs.length cc, .string F, .int .i64 r.cl], .bool true]) (by simp [results, Try.results69, go_sem, c0, c1, c2, c3, c4, c5, c6, c7]) rfl ⟨p, cc, ?_, hcsW, kall⟩
          rw [hN'.out, hF'.out]; rfl
        · have e2 : (N.toList == nm.toList) = false := by rw [hNl, Lib.toList_data]; simpa using hn
          have hno' : Hid (∀ (i : Nat) (q : RowD), i < k + 1 → tableD[i]? = some q → ¬ (q.head = head ∧ q.name = nm.data.toList)) := Lib.hid (fun i q hi hq => by
            by_cases e : i = k
            · subst e
              have : q = r := by rw [hr'.out] at hq; injection hq with hq; exact hq.symm
              subst this
              exact fun ⟨_, b⟩ => hn b
            · exact hno.out i q (by omega) hq)
          have hNl' := Lib.hid hNl; clear hh hn hNl
          go_wp2_with (first | ((with_reducible refine at_slot 13 ?_); refine wpList_load_mid rfl 120 (.tmp 12) rfl g (k * 8) rfl _ _ hra.out Try.underlying120 rfl rowInfo ?_) | ((with_reducible refine at_store 7 ?_); refine wpList_store_new rfl 120 (.tmp 7) (.tmp 13) rfl _ #[.int .i64 r.head, .string N, .int .i64 r.kind, .int .i64 r.lo, .int .i64 r.hi, .slice p r.cs.length cc, .string F, .int .i64 r.cl] rfl rfl rowInfo rfl (row_one _ _ _ _ _ _ _ _ _ _) ?_))
          have kr := hkr.out.alloc (.cells #[.int .i64 r.head, .string N, .int .i64 r.kind, .int .i64 r.lo, .int .i64 r.hi, .slice p r.cs.length cc, .string F, .int .i64 r.cl] 120)
          have k1 : Keeps (fun _ => False) wr (wr.alloc (.cells #[.int .i64 r.head, .string N, .int .i64 r.kind, .int .i64 r.lo, .int .i64 r.hi, .slice p r.cs.length cc, .string F, .int .i64 r.cl] 120)) := (Keeps.refl _ _).alloc _
          exact ⟨⟨k + 1, by omega, by go_num, hno', Lib.hid (htr.out.keep k1), Lib.hid ((k1.block _ (lt_of_block hbr.out) id).trans hbr.out), Lib.hid kr⟩, by simp [intOf]; omega⟩
      · have e1 : (r.head == head) = false := by simpa using hh
        have hno' : Hid (∀ (i : Nat) (q : RowD), i < k + 1 → tableD[i]? = some q → ¬ (q.head = head ∧ q.name = nm.data.toList)) := Lib.hid (fun i q hi hq => by
          by_cases e : i = k
          · subst e
            have : q = r := by rw [hr'.out] at hq; injection hq with hq; exact hq.symm
            subst this
            exact fun ⟨a, _⟩ => hh a
          · exact hno.out i q (by omega) hq)
        have hNl' := Lib.hid hNl; clear hh hNl
        go_wp2_with (first | ((with_reducible refine at_slot 13 ?_); refine wpList_load_mid rfl 120 (.tmp 12) rfl g (k * 8) rfl _ _ hra.out Try.underlying120 rfl rowInfo ?_) | ((with_reducible refine at_store 7 ?_); refine wpList_store_new rfl 120 (.tmp 7) (.tmp 13) rfl _ #[.int .i64 r.head, .string N, .int .i64 r.kind, .int .i64 r.lo, .int .i64 r.hi, .slice p r.cs.length cc, .string F, .int .i64 r.cl] rfl rfl rowInfo rfl (row_one _ _ _ _ _ _ _ _ _ _) ?_))
        have kr := hkr.out.alloc (.cells #[.int .i64 r.head, .string N, .int .i64 r.kind, .int .i64 r.lo, .int .i64 r.hi, .slice p r.cs.length cc, .string F, .int .i64 r.cl] 120)
        have k1 : Keeps (fun _ => False) wr (wr.alloc (.cells #[.int .i64 r.head, .string N, .int .i64 r.kind, .int .i64 r.lo, .int .i64 r.hi, .slice p r.cs.length cc, .string F, .int .i64 r.cl] 120)) := (Keeps.refl _ _).alloc _
        exact ⟨⟨k + 1, by omega, by go_num, hno', Lib.hid (htr.out.keep k1), Lib.hid ((k1.block _ (lt_of_block hbr.out) id).trans hbr.out), Lib.hid kr⟩, by simp [intOf]; omega⟩
    · obtain rfl : k = 12 := by omega
      have hfn : Hid (f = none) := Lib.hid (by rw [← hf.out]; exact find_none hno.out)
      go_wp2_with ((with_reducible refine at_store 4 ?_); refine wpList_store_row_named rfl 120 (.tmp 4) (.tmp 26) rfl w.heap.size zeroRow rfl rfl 120 zeroRow hbr.out rowInfo rfl (row_one _ _ _ _ _ _ _ _ _ _) ?_; intro W2 hW2; have hW2' := Lib.hid hW2; clear hW2)
      have hcell : ∀ j, W2.cell? ⟨w.heap.size, j, none⟩ = zeroRow[j]? := fun j => by rw [hW2'.out]; exact cell_setRow_same _ _ _ _ _ _ _ hbr.out
      have c0 := hcell 0; have c1 := hcell 1; have c2 := hcell 2; have c3 := hcell 3; have c4 := hcell 4; have c5 := hcell 5; have c6 := hcell 6; have c7 := hcell 7
      have kall : Keeps (fun _ => False) w W2 := by rw [hW2'.out]; exact hkr.out.setRow (.inr (Nat.le_refl _)) _
      rw [hfn.out]
      refine bodyPost_ret (v := .tuple #[.agg zeroRow, .bool false]) (by simp [results, Try.results69, go_sem, c0, c1, c2, c3, c4, c5, c6, c7, zeroRow]) rfl ⟨rfl, kall⟩
end Go.Proofs.Ytmclnamgihphcaa
/- The document's table and its Find, walked. -/
namespace Go.Proofs.Ytmclnamgihphcaa
open Go.RowKit

theorem rowInfo4 : (Try.prog.info? 83).map (·.size) = some 8 := by kernel_rfl
set_option maxRecDepth 100000 in
set_option maxHeartbeats 4000000 in
theorem rTable_any (w : World) : Calls Try.prog 59 #[] w (TablePost w) := by
  go_enter Try.func59, Try.ntmps59
  go_wp2
  go_ret
  exact tablePost_of _ _ _ rfl rfl rfl

/-- what the document's Find answers; its row's choices lie in a new block -/
def FindPostF (f : Option RowD) (w : World) (e : Ending) (w' : World) : Prop :=
  match f with
  | some r => ∃ p cc, e = .returned (.tuple #[.agg #[.int .i64 r.head, strv r.name, .int .i64 r.kind, .int .i64 r.lo, .int .i64 r.hi, .slice p r.cs.length cc, strv r.df, .int .i64 r.cl], .bool true]) ∧ StrsAt w' (.slice p r.cs.length cc) r.cs ∧ (∀ i, (Value.slice p r.cs.length cc).ownBlock = some i → w.heap.size ≤ i) ∧ Keeps (fun _ => False) w w'
  | none => e = .returned (.tuple #[.agg zeroRow, .bool false]) ∧ Keeps (fun _ => False) w w'
set_option maxRecDepth 100000 in
set_option maxHeartbeats 2000000 in
theorem rFind_new (head : Int) (nm : ByteArray) (f : Option RowD) (w : World) (hf : Hid (findD head nm.data.toList = f)) :
    Calls Try.prog 36 #[.int .i64 head, .string nm] w (FindPostF f w) := by
  go_enter Try.func36, Try.ntmps36
  go_wp2_with fail
  refine (rTable_any _).mono ?_
  rintro e w1 ⟨g, rfl, hg, ht, hk⟩
  have hb : w1.heap[w.heap.size]? = some (.cells zeroRow 83 (0, 0)) := by
    rw [hk.block _ (by simp) id]
    exact heap_alloc_last w _
  have hb' := Lib.hid hb; have ht' := Lib.hid (show TableAt (w.heap.size + 1) w1 g by simpa using ht); have hk' := Lib.hid (((Keeps.refl (fun _ => False) w).alloc _).trans hk)
  have hgs : w.heap.size + 1 ≤ g := by simpa using hg
  clear hb ht hk hg
  go_wp2_with fail
  go_loopw [7] (fun i wr => ∃ k : Nat, k ≤ 12 ∧ i = .int .i64 k ∧ Hid (∀ (i : Nat) (q : RowD), i < k → tableD[i]? = some q → ¬ (q.head = head ∧ q.name = nm.data.toList)) ∧ Hid (TableAt (w.heap.size + 1) wr g) ∧ Hid (wr.heap[w.heap.size]? = some (.cells zeroRow 83 (0, 0))) ∧ Hid (Keeps (fun _ => False) w wr)) (fun i _ => 12 - (intOf i).toNat)
  case atStart => exact ⟨0, by omega, rfl, Lib.hid (fun _ _ h => by omega), ht', hb', hk'⟩
  case round =>
    obtain ⟨k, hk12, rfl, hno, htr, hbr, hkr⟩ := hrel
    by_cases hlt : k < 12
    · obtain ⟨r, hr⟩ : ∃ r, tableD[k]? = some r := ⟨_, List.getElem?_eq_getElem (show k < tableD.length from hlt)⟩
      obtain ⟨cv, hrange, hcs, hbk⟩ := htr.out k r hr
      obtain ⟨p, cc, rfl, hcs0⟩ := hcs
      have hbkeep := Lib.hid hbk; clear hbk
      have hcs' : Hid (StrsAt wr (.slice p r.cs.length cc) r.cs) := Lib.hid ⟨p, cc, rfl, hcs0⟩
      obtain ⟨N, hN⟩ : ∃ N : ByteArray, N = ⟨r.name.toArray⟩ := ⟨_, rfl⟩
      obtain ⟨F, hF⟩ : ∃ F : ByteArray, F = ⟨r.df.toArray⟩ := ⟨_, rfl⟩
      have hra : Hid (wr.rangeAt g (k * 8) [.int .i64 r.head, .string N, .int .i64 r.kind, .int .i64 r.lo, .int .i64 r.hi, .slice p r.cs.length cc, .string F, .int .i64 r.cl]) := Lib.hid (by rw [hN, hF]; exact hrange)
      have a0 : wr.cell? ⟨g, k * 8, none⟩ = some (.int .i64 r.head) := hra.out 0 _ rfl
      have a1 : wr.cell? ⟨g, k * 8 + 1, none⟩ = some (.string N) := hra.out 1 _ rfl
      have hNl : N.toList = r.name := by rw [hN, Lib.toList_data]
      have hN' := Lib.hid hN; have hF' := Lib.hid hF; have hr' := Lib.hid hr
      clear hcs0 hrange hN hF hr
      by_cases hh : r.head = head
      · have e1 : (r.head == head) = true := by simpa using hh
        by_cases hn : r.name = nm.data.toList
        · have e2 : (N.toList == nm.toList) = true := by rw [hNl, Lib.toList_data, hn]; simp
          have hfr : Hid (f = some r) := Lib.hid (by rw [← hf.out]; exact find_step hr'.out hno.out ⟨hh, hn⟩)
          have hNl' := Lib.hid hNl; clear hh hn hNl
          go_wp2_with (first | ((with_reducible refine at_slot 34 ?_); refine wpList_load_mid rfl 83 (.tmp 33) rfl g (k * 8) rfl _ _ hra.out Try.underlying83 rfl rowInfo4 ?_) | ((with_reducible refine at_store 4 ?_); refine wpList_store_row_named rfl 83 (.tmp 4) (.tmp 34) rfl w.heap.size #[.int .i64 r.head, .string N, .int .i64 r.kind, .int .i64 r.lo, .int .i64 r.hi, .slice p r.cs.length cc, .string F, .int .i64 r.cl] rfl rfl 83 zeroRow hbr.out rowInfo4 rfl (row_one _ _ _ _ _ _ _ _ _ _) ?_; intro W2 hW2; have hW2' := Lib.hid hW2; clear hW2))
          have hcell : ∀ j, W2.cell? ⟨w.heap.size, j, none⟩ = (#[.int .i64 r.head, .string N, .int .i64 r.kind, .int .i64 r.lo, .int .i64 r.hi, .slice p r.cs.length cc, .string F, .int .i64 r.cl] : Array Value)[j]? := fun j => by rw [hW2'.out]; exact cell_setRow_same _ _ _ _ _ _ _ hbr.out
          have c0 := hcell 0; have c1 := hcell 1; have c2 := hcell 2; have c3 := hcell 3; have c4 := hcell 4; have c5 := hcell 5; have c6 := hcell 6; have c7 := hcell 7
          have kall : Keeps (fun _ => False) w W2 := by rw [hW2'.out]; exact hkr.out.setRow (.inr (Nat.le_refl _)) _
          have hcsW : StrsAt W2 (.slice p r.cs.length cc) r.cs := by
            have h1 := hcs'.out
            rw [hW2'.out]
            refine h1.keep ((Keeps.refl (fun k => k = w.heap.size) _).setRow (.inl rfl) _) (fun h0 i e f => ?_)
            have := hbkeep.out i e
            omega
          have hcell' := Lib.hid hcell; clear hcell
          rw [hfr.out]
          refine bodyPost_ret (v := .tuple #[.agg #[.int .i64 r.head, .string N, .int .i64 r.kind, .int .i64 r.lo, .int .i64 r.hi, .slice p r.cs.length cc, .string F, .int .i64 r.cl], .bool true]) (by simp [results, Try.results36, go_sem, c0, c1, c2, c3, c4, c5, c6, c7]) rfl ⟨p, cc, ?_, hcsW, fun i e => by have := hbkeep.out i e; omega, kall⟩
          rw [hN'.out, hF'.out]; rfl
        · have e2 : (N.toList == nm.toList) = false := by rw [hNl, Lib.toList_data]; simpa using hn
          have hno' : Hid (∀ (i : Nat) (q : RowD), i < k + 1 → tableD[i]? = some q → ¬ (q.head = head ∧ q.name = nm.data.toList)) := Lib.hid (fun i q hi hq => by
            by_cases e : i = k
            · subst e
              have : q = r := by rw [hr'.out] at hq; injection hq with hq; exact hq.symm
              subst this
              exact fun ⟨_, b⟩ => hn b
            · exact hno.out i q (by omega) hq)
          have hNl' := Lib.hid hNl; clear hh hn hNl
          go_wp2
          exact ⟨⟨k + 1, by omega, by go_num, hno', htr, hbr, hkr⟩, by simp [intOf]; omega⟩
      · have e1 : (r.head == head) = false := by simpa using hh
        have hno' : Hid (∀ (i : Nat) (q : RowD), i < k + 1 → tableD[i]? = some q → ¬ (q.head = head ∧ q.name = nm.data.toList)) := Lib.hid (fun i q hi hq => by
          by_cases e : i = k
          · subst e
            have : q = r := by rw [hr'.out] at hq; injection hq with hq; exact hq.symm
            subst this
            exact fun ⟨a, _⟩ => hh a
          · exact hno.out i q (by omega) hq)
        have hNl' := Lib.hid hNl; clear hh hNl
        go_wp2
        exact ⟨⟨k + 1, by omega, by go_num, hno', htr, hbr, hkr⟩, by simp [intOf]; omega⟩
    · obtain rfl : k = 12 := by omega
      have hfn : Hid (f = none) := Lib.hid (by rw [← hf.out]; exact find_none hno.out)
      go_wp2_with ((with_reducible refine at_store 4 ?_); refine wpList_store_row_named rfl 83 (.tmp 4) (.tmp 35) rfl w.heap.size zeroRow rfl rfl 83 zeroRow hbr.out rowInfo4 rfl (row_one _ _ _ _ _ _ _ _ _ _) ?_; intro W2 hW2; have hW2' := Lib.hid hW2; clear hW2)
      have hcell : ∀ j, W2.cell? ⟨w.heap.size, j, none⟩ = zeroRow[j]? := fun j => by rw [hW2'.out]; exact cell_setRow_same _ _ _ _ _ _ _ hbr.out
      have c0 := hcell 0; have c1 := hcell 1; have c2 := hcell 2; have c3 := hcell 3; have c4 := hcell 4; have c5 := hcell 5; have c6 := hcell 6; have c7 := hcell 7
      have kall : Keeps (fun _ => False) w W2 := by rw [hW2'.out]; exact hkr.out.setRow (.inr (Nat.le_refl _)) _
      rw [hfn.out]
      refine bodyPost_ret (v := .tuple #[.agg zeroRow, .bool false]) (by simp [results, Try.results36, go_sem, c0, c1, c2, c3, c4, c5, c6, c7, zeroRow]) rfl ⟨rfl, kall⟩
theorem rFind_any (head : Int) (nm : ByteArray) (f : Option RowD) (w : World) (hf : Hid (findD head nm.data.toList = f)) :
    Calls Try.prog 36 #[.int .i64 head, .string nm] w (FindPost f w) :=
  (rFind_new head nm f w hf).mono fun e w' h => by
    cases f with
    | none => exact h
    | some r => obtain ⟨p, cc, he, hs, _, hk⟩ := h; exact ⟨p, cc, he, hs, hk⟩
end Go.Proofs.Ytmclnamgihphcaa
/- Less, the code's and the document's, walked. -/
namespace Go.Proofs.Ytmclnamgihphcaa
open Go.RowKit

/-- a line, plain -/
structure LineD where
  head : Int
  name : List UInt8
  leaf : List UInt8
  value : List UInt8
def lessB (a b : LineD) : Bool :=
  if a.head = b.head then (if a.name = b.name then Op.bytesLess a.leaf b.leaf else Op.bytesLess a.name b.name) else decide (a.head < b.head)

set_option maxRecDepth 100000 in
theorem less_any (h1 h2 : Int) (n1 l1 v1 n2 l2 v2 : ByteArray) (r : Bool) (w : World) (hr : Hid (lessB ⟨h1, n1.data.toList, l1.data.toList, v1.data.toList⟩ ⟨h2, n2.data.toList, l2.data.toList, v2.data.toList⟩ = r)) :
    Calls Try.prog 42 #[.agg #[.int .i64 h1, .string n1, .string l1, .string v1], .agg #[.int .i64 h2, .string n2, .string l2, .string v2]] w (NewRes (.bool r) w) := by
  have hq := hr.out
  unfold lessB at hq
  simp only at hq
  by_cases hh : h1 = h2
  · have e1 : (h1 != h2) = false := by simpa using hh
    rw [if_pos hh] at hq
    by_cases hn : n1.data.toList = n2.data.toList
    · have e2 : (n1.toList == n2.toList) = true := by rw [Lib.toList_data, Lib.toList_data, hn]; simp
      rw [if_pos hn, ← Lib.toList_data l1, ← Lib.toList_data l2] at hq
      have hq' := Lib.hid hq; clear hq hr hh hn
      go_enter Try.func42, Try.ntmps42
      go_wp2
      go_ret
      exact ⟨by rw [← hq'.out]; rfl, ((Keeps.refl _ _).alloc _).alloc _⟩
    · have e2 : (n1.toList == n2.toList) = false := by rw [Lib.toList_data, Lib.toList_data]; simpa using hn
      rw [if_neg hn, ← Lib.toList_data n1, ← Lib.toList_data n2] at hq
      have hq' := Lib.hid hq; clear hq hr hh hn
      go_enter Try.func42, Try.ntmps42
      go_wp2
      go_ret
      exact ⟨by rw [← hq'.out]; rfl, ((Keeps.refl _ _).alloc _).alloc _⟩
  · have e1 : (h1 != h2) = true := by simpa using hh
    rw [if_neg hh] at hq
    have hq' := Lib.hid hq; clear hq hr hh
    go_enter Try.func42, Try.ntmps42
    go_wp2
    go_ret
    exact ⟨by rw [← hq'.out]; rfl, ((Keeps.refl _ _).alloc _).alloc _⟩

set_option maxRecDepth 100000 in
theorem rLess_any (h1 h2 : Int) (n1 l1 v1 n2 l2 v2 : ByteArray) (r : Bool) (w : World) (hr : Hid (lessB ⟨h1, n1.data.toList, l1.data.toList, v1.data.toList⟩ ⟨h2, n2.data.toList, l2.data.toList, v2.data.toList⟩ = r)) :
    Calls Try.prog 21 #[.agg #[.int .i64 h1, .string n1, .string l1, .string v1], .agg #[.int .i64 h2, .string n2, .string l2, .string v2]] w (NewRes (.bool r) w) := by
  have hq := hr.out
  unfold lessB at hq
  simp only at hq
  by_cases hh : h1 = h2
  · have e1 : (h1 != h2) = false := by simpa using hh
    rw [if_pos hh] at hq
    by_cases hn : n1.data.toList = n2.data.toList
    · have e2 : (n1.toList == n2.toList) = true := by rw [Lib.toList_data, Lib.toList_data, hn]; simp
      rw [if_pos hn, ← Lib.toList_data l1, ← Lib.toList_data l2] at hq
      have hq' := Lib.hid hq; clear hq hr hh hn
      go_enter Try.func21, Try.ntmps21
      go_wp2
      go_ret
      exact ⟨by rw [← hq'.out]; rfl, ((Keeps.refl _ _).alloc _).alloc _⟩
    · have e2 : (n1.toList == n2.toList) = false := by rw [Lib.toList_data, Lib.toList_data]; simpa using hn
      rw [if_neg hn, ← Lib.toList_data n1, ← Lib.toList_data n2] at hq
      have hq' := Lib.hid hq; clear hq hr hh hn
      go_enter Try.func21, Try.ntmps21
      go_wp2
      go_ret
      exact ⟨by rw [← hq'.out]; rfl, ((Keeps.refl _ _).alloc _).alloc _⟩
  · have e1 : (h1 != h2) = true := by simpa using hh
    rw [if_neg hh] at hq
    have hq' := Lib.hid hq; clear hq hr hh
    go_enter Try.func21, Try.ntmps21
    go_wp2
    go_ret
    exact ⟨by rw [← hq'.out]; rfl, ((Keeps.refl _ _).alloc _).alloc _⟩
end Go.Proofs.Ytmclnamgihphcaa
/- Generic: steps through a region that draws its order; boxes and blocks of cells. -/
namespace Go.Proofs.Ytmclnamgihphcaa
open Go.RowKit

/-! steps through a region that draws its order, the operation read off the list -/
section
variable {P : Program} {l : List Oper} {Q : Exit → Act → World → Prop} {md : Region.Mode} {S : World → Prop}
theorem takeL (i : Nat) {oi : Oper} {v : Value} {fuel : Nat} {listed : Array Bool} {a : Act} {w : World} (hi : l[i]? = some oi)
    (hs : Region.noSelect l.toArray = true) (hf : Region.free md l.toArray listed i = true) (hr : (Region.ready md l.toArray listed).contains i = true)
    (hQ : ∀ c a w, Q (.panic c) (a.put oi.dst v) w → Q (.panic c) a w) (hy : YieldsIf P l.toArray S oi v a) (hS : S w)
    (h : wpAnyH P md l.toArray Q S fuel (listed.setIfInBounds i true) (a.put oi.dst v) w) : wpAnyH P md l.toArray Q S (fuel + 1) listed a w :=
  wpAnyH_take (i := i) (by simpa using hi) hs hf hr hQ hy hS h
theorem sA {α : Type} {l : List α} {i : Nat} {a : α} : l.toArray.setIfInBounds i a = (l.set i a).toArray := List.setIfInBounds_toArray ..
theorem sZ {α : Type} {xs : List α} {b a : α} : (a :: xs).set 0 b = b :: xs := rfl
theorem sS {α : Type} {xs : List α} {n : Nat} {b a : α} : (a :: xs).set (n + 1) b = a :: xs.set n b := rfl
theorem tk (i : Nat) {oi : Oper} {v : Value} {fuel : Nat} {listed : Array Bool} {a a' : Act} {w : World} (hi : l[i]? = some oi) (h : wpAnyH P md l.toArray Q S fuel (listed.setIfInBounds i true) a' w)
    (hs : Region.noSelect l.toArray = true := by kernel_rfl) (hf : Region.free md l.toArray listed i = true := by kernel_rfl) (hr : (Region.ready md l.toArray listed).contains i = true := by kernel_rfl)
    (hw : Region.wanted oi (yielded l.toArray a.tmps) = true := by rfl) (hy : ∀ w, S w → (execOp a.eval oi).run P w = .ok (.value v) w := by (intro wS hSw; go_simp; try with_reducible rfl))
    (ha : a.put oi.dst v = a' := by (try simp only [Act.put, sA, sZ, sS]; rfl))
    (hQ : ∀ c a w, Q (.panic c) (a.put oi.dst v) w → Q (.panic c) a w := by exact fun _ _ _ h => h) (hS : S w := by assumption) : wpAnyH P md l.toArray Q S (fuel + 1) listed a w :=
  takeL i hi hs hf hr hQ (Or.inl ⟨hw, hy⟩) hS (by rw [ha]; exact h)
theorem tkS (i : Nat) {oi : Oper} {fuel : Nat} {listed : Array Bool} {a a' : Act} {w : World} (hi : l[i]? = some oi) (h : wpAnyH P md l.toArray Q S fuel (listed.setIfInBounds i true) a' w)
    (hs : Region.noSelect l.toArray = true := by kernel_rfl) (hf : Region.free md l.toArray listed i = true := by kernel_rfl) (hr : (Region.ready md l.toArray listed).contains i = true := by kernel_rfl)
    (hw : Region.wanted oi (yielded l.toArray a.tmps) = false := by rfl)
    (ha : a.put oi.dst undef = a' := by (try simp only [Act.put, sA, sZ, sS]; rfl))
    (hQ : ∀ c a w, Q (.panic c) (a.put oi.dst undef) w → Q (.panic c) a w := by exact fun _ _ _ h => h) (hS : S w := by assumption) : wpAnyH P md l.toArray Q S (fuel + 1) listed a w :=
  takeL i hi hs hf hr hQ (Or.inr ⟨hw, rfl⟩) hS (by rw [ha]; exact h)
theorem tkL (i : Nat) {oi : Oper} {v : Value} {fuel : Nat} {listed : Array Bool} {a a' : Act} {w : World} (hi : l[i]? = some oi) (hy : YieldsIf P l.toArray S oi v a) (h : wpAnyH P md l.toArray Q S fuel (listed.setIfInBounds i true) a' w)
    (hs : Region.noSelect l.toArray = true := by kernel_rfl) (hf : Region.free md l.toArray listed i = true := by kernel_rfl) (hr : (Region.ready md l.toArray listed).contains i = true := by kernel_rfl)
    (ha : a.put oi.dst v = a' := by (try simp only [Act.put, sA, sZ, sS]; rfl))
    (hQ : ∀ c a w, Q (.panic c) (a.put oi.dst v) w → Q (.panic c) a w := by exact fun _ _ _ h => h) (hS : S w := by assumption) : wpAnyH P md l.toArray Q S (fuel + 1) listed a w :=
  takeL i hi hs hf hr hQ hy hS (by rw [ha]; exact h)
theorem step2L (i j : Nat) {fuel : Nat} {listed : Array Bool} {a : Act} {w : World} {o u : Oper} (ho : l[i]? = some o) (hu : l[j]? = some u) (hr : Region.ready md l.toArray listed = [i, j])
    (h : ∀ K' : Act → World → Prop, Shut (∀ a w, S w → (S w → wpAnyH P md l.toArray Q S fuel (listed.setIfInBounds i true) a w) → K' a w) → if Region.wanted o (yielded l.toArray a.tmps) = true then Oper.wp P o a w K' Q else K' (a.put o.dst undef) w)
    (h2 : ∀ K' : Act → World → Prop, Shut (∀ a w, S w → (S w → wpAnyH P md l.toArray Q S fuel (listed.setIfInBounds j true) a w) → K' a w) → if Region.wanted u (yielded l.toArray a.tmps) = true then Oper.wp P u a w K' Q else K' (a.put u.dst undef) w) :
    wpAnyH P md l.toArray Q S (fuel + 1) listed a w :=
  wpAnyH_ready hr (by simp) (AllReadyH.cons (by simpa using ho) h (AllReadyH.cons (by simpa using hu) h2 AllReadyH.nil))
theorem stepL (i : Nat) {fuel : Nat} {listed : Array Bool} {a : Act} {w : World} {o : Oper} (ho : l[i]? = some o) (hr : Region.ready md l.toArray listed = [i])
    (h : ∀ K' : Act → World → Prop, Shut (∀ a w, S w → (S w → wpAnyH P md l.toArray Q S fuel (listed.setIfInBounds i true) a w) → K' a w) → if Region.wanted o (yielded l.toArray a.tmps) = true then Oper.wp P o a w K' Q else K' (a.put o.dst undef) w) :
    wpAnyH P md l.toArray Q S (fuel + 1) listed a w :=
  wpAnyH_ready hr (by simp) (AllReadyH.cons (by simpa using ho) h AllReadyH.nil)
end

theorem heap_put {w : World} {b : Nat} {cs : Array Value} {t : TypeId} (h : w.heap[b]? = some (.cells cs t (0, 0))) (o : Nat) (v : Value) : (w.setCell ⟨b, o, none⟩ v).heap[b]? = some (.cells (cs.setIfInBounds o v) t (0, 0)) :=
  heap_setCell_same w b o cs t v h
theorem rangeAt_cell {w : World} {g : Nat} {cs : List Value} (h : w.rangeAt g 0 cs) (j : Nat) (v : Value) (hv : cs[j]? = some v) : w.cell? ⟨g, j, none⟩ = some v := by
  have := h j v hv; rwa [Nat.zero_add] at this
theorem yieldsIf_load_cell {P : Program} {ops : Array Oper} {S : World → Prop} {op : Oper} {a : Act} (hw : Region.wanted op (yielded ops a.tmps) = true) (ty : TypeId) (x : Operand) (ho : op.op = .load ty x)
    (b o : Nat) (hx : a.eval x = .pointer (some ⟨b, o, none⟩)) (v : Value) (hS : ∀ w, S w → w.cell? ⟨b, o, none⟩ = some v)
    (hl : ∀ w, w.cell? ⟨b, o, none⟩ = some v → (loadVar ty ⟨b, o, none⟩).run P w = .ok v w) : YieldsIf P ops S op v a :=
  .inl ⟨hw, fun w hw' => by
    unfold execOp
    simp only [ho, hx, Instr.loadAt, Instr.sureAddr, Sem.run_bind, Sem.run_pure, Result.andThen_ok, hl w (hS w hw')]⟩
/-- a box of cells, and what was there, are as they were -/
structure Boxed (B : Nat) (cs : List Value) (w0 W : World) : Prop where
  r : W.rangeAt B 0 cs
  k : Keeps (fun _ => False) w0 W
theorem Boxed.next {B : Nat} {cs : List Value} {w0 W W' : World} (s : Boxed B cs w0 W) (k : Keeps (fun _ => False) W W') : Boxed B cs w0 W' := ⟨k.rangeAt s.r id, s.k.trans k⟩
theorem Boxed.cell {B : Nat} {cs : List Value} {w0 W : World} (s : Boxed B cs w0 W) (j : Nat) (v : Value) (h : cs[j]? = some v) : W.cell? ⟨B, j, none⟩ = some v := by
  have := s.r j v h; rwa [Nat.zero_add] at this
theorem new_rangeb (w : World) (L : List Value) (t : TypeId) : (w.alloc (.cells L.toArray t)).rangeAt w.heap.size 0 L := fun j u hu => by
  have := cells_new (w := w) (n := w.heap.size) rfl L t j u hu
  rw [Addr.add_mid] at this; exact this
theorem boxed_new0 (w : World) (cs : List Value) (t : TypeId) : Boxed w.heap.size cs (w.alloc (.cells cs.toArray t)) (w.alloc (.cells cs.toArray t)) := ⟨fun j u hu => by
  have := cells_new (w := w) (n := w.heap.size) rfl cs t j u hu
  rw [Addr.add_mid] at this; exact this, Keeps.refl _ _⟩
theorem boxed_new (w : World) (cs : List Value) (t : TypeId) : Boxed w.heap.size cs w (w.alloc (.cells cs.toArray t)) := ⟨fun j u hu => by
  have := cells_new (w := w) (n := w.heap.size) rfl cs t j u hu
  rw [Addr.add_mid] at this; exact this, (Keeps.refl _ _).alloc _⟩
/-- a block that is these cells -/
def BlkAt (W : World) (B : Nat) (t : TypeId) (cs : List Value) : Prop := W.heap[B]? = some (.cells cs.toArray t (0, 0))
theorem BlkAt.keep {F : Nat → Prop} {w w' : World} {g : Nat} {t : TypeId} {x : List Value} (h : BlkAt w g t x) (k : Keeps F w w') (hF : ¬ F g) : BlkAt w' g t x := by
  unfold BlkAt; rw [k.block g (lt_of_block h) hF]; exact h
theorem BlkAt.range {w : World} {g : Nat} {t : TypeId} {x : List Value} (h : BlkAt w g t x) : w.rangeAt g 0 x := fun j u hu => by
  have h : w.heap[g]? = _ := h
  simp [World.cell?, h]; simpa using hu
theorem BlkAt.rng {w : World} {g : Nat} {t : TypeId} {x y : List Value} (h : BlkAt w g t x) (e : x = y) : w.rangeAt g 0 y := by rw [← e]; exact h.range
theorem BlkAt.cell {w : World} {g : Nat} {t : TypeId} {x : List Value} (h : BlkAt w g t x) (j : Nat) (v : Value) (hv : x[j]? = some v) : w.cell? ⟨g, j, none⟩ = some v := rangeAt_cell h.range j v hv
theorem BlkAt.frozen {w : World} {g : Nat} {t : TypeId} {x : List Value} (h : BlkAt w g t x) (o : Nat) : w.frozen? ⟨g, o, none⟩ = false := by
  have h : w.heap[g]? = _ := h
  simp [World.frozen?, h]
theorem BlkAt.set {w : World} {g : Nat} {t : TypeId} {x : List Value} (h : BlkAt w g t x) (i : Nat) (v : Value) : BlkAt (w.setCell ⟨g, i, none⟩ v) g t (x.set i v) := by
  unfold BlkAt
  rw [heap_put h]
  simp
theorem BlkAt.there {w : World} {g : Nat} {t : TypeId} {x : List Value} (h : BlkAt w g t x) (o n : Nat) (hn : o + n ≤ x.length) : w.there g o n := fun j hj => by
  have h : w.heap[g]? = _ := h
  refine ⟨?_, ?_⟩
  · simp [World.cell?, h]; omega
  · simp [World.frozen?, h]
theorem BlkAt.new (w : World) (t : TypeId) (x : List Value) : BlkAt (w.alloc (.cells x.toArray t)) w.heap.size t x := heap_alloc_last w _
theorem BlkAt.alloc {w : World} {g : Nat} {t : TypeId} {x : List Value} (h : BlkAt w g t x) (o : Obj) : BlkAt (w.alloc o) g t x := h.keep ((Keeps.refl (fun _ => False) w).alloc o) id
theorem wpList_store_blk {P : Program} {ops : Array Oper} {rest : List Oper} {op : Oper} {a : Act} {w : World} {Q : Exit → Act → World → Prop} (hgd : op.guard = none) (ty : TypeId) (x y : Operand) (ho : op.op = .store ty x y)
    (b : Nat) (cells : Array Value) (hx : a.eval x = .pointer (some ⟨b, 0, none⟩)) (hy : a.eval y = .agg cells)
    (ht : w.there b 0 cells.size) (hi : (P.info? ty).map (·.size) = some cells.size) (h1 : cells.all (·.oneCell') = true)
    (h : ∀ w1, Hid (w1.rangeAt b 0 cells.toList) → Hid (Keeps (fun i => i = b) w w1) → wpList P ops Q rest (a.put op.dst undef) w1) : wpList P ops Q (op :: rest) a w :=
  wpList_store_mid hgd ty x y ho b 0 cells hx hy ht hi h1 (h _ (Lib.hid (World.rangeAt_setCells_same _ _ _ _ (by simpa using ht))) (Lib.hid (Keeps.setCells (F := fun i => i = b) (.inl rfl) _ _ _ (Keeps.refl _ _))))
theorem slice_one (p : Option Addr) (n c : Nat) : (Value.slice p n c).oneCell' = true := rfl
/-- a guarded load of a struct -/
theorem wpList_load_mid_gd {P : Program} {ops : Array Oper} {rest : List Oper} {op : Oper} {a : Act} {w : World} {Q : Exit → Act → World → Prop} (hgd : Region.wanted op (yielded ops a.tmps) = true) (ty : TypeId) (x : Operand) (ho : op.op = .load ty x)
    (b o : Nat) (hx : a.eval x = .pointer (some ⟨b, o, none⟩)) (cs : List Value) (d : TypeDesc) (hc : w.rangeAt b o cs)
    (hu : P.underlying ty = some d) (hd : d.isRow = true) (hi : (P.info? ty).map (·.size) = some cs.length)
    (h : wpList P ops Q rest (a.put op.dst (.agg cs.toArray)) w) : wpList P ops Q (op :: rest) a w :=
  wpList_step fun K hK => by rw [if_pos hgd]; exact wp_load_mid ty x ho b o hx cs d hc hu hd hi (hK _ _ h)
end Go.Proofs.Ytmclnamgihphcaa
/- canBe, walked. -/
namespace Go.Proofs.Ytmclnamgihphcaa
open Go.RowKit

theorem load_int (w : World) (b o : Nat) (v : Value) (h : w.cell? ⟨b, o, none⟩ = some v) : (loadVar 3 ⟨b, o, none⟩).run Try.prog w = .ok v w := by
  simp [go_sem, h]
theorem load_str (w : World) (b o : Nat) (v : Value) (h : w.cell? ⟨b, o, none⟩ = some v) : (loadVar 9 ⟨b, o, none⟩).run Try.prog w = .ok v w := by
  simp [go_sem, h]
/-- may a line be -/
def lineB (l : LineD) : Bool := match findD l.head l.leaf with
  | some r => namedB l.head l.name && rightB r.kind r.lo r.hi r.cs l.value
  | none => false
/-- what the region of a found row keeps -/
structure CanS (g o : Nat) (L : List Value) (p : Option Addr) (n c : Nat) (cs : List (List UInt8)) (B : Nat) (h : Int) (N F V : ByteArray) (w0 W : World) : Prop where
  r : W.rangeAt g o L
  s : StrsAt W (.slice p n c) cs
  b0 : W.cell? ⟨B, 0, none⟩ = some (.int .i64 h)
  b1 : W.cell? ⟨B, 1, none⟩ = some (.string N)
  b2 : W.cell? ⟨B, 2, none⟩ = some (.string F)
  b3 : W.cell? ⟨B, 3, none⟩ = some (.string V)
  k : Keeps (fun _ => False) w0 W
theorem CanS.next {g o : Nat} {L : List Value} {p : Option Addr} {n c : Nat} {cs : List (List UInt8)} {B : Nat} {h : Int} {N F V : ByteArray} {w0 W W' : World} (s : CanS g o L p n c cs B h N F V w0 W) (k : Keeps (fun _ => False) W W') : CanS g o L p n c cs B h N F V w0 W' :=
  ⟨k.rangeAt s.r id, s.s.keep k (fun _ _ _ f => f), (k.cell (p := ⟨B, 0, none⟩) (World.block_lt_of_cell? W _ s.b0) id).trans s.b0, (k.cell (p := ⟨B, 1, none⟩) (World.block_lt_of_cell? W _ s.b1) id).trans s.b1, (k.cell (p := ⟨B, 2, none⟩) (World.block_lt_of_cell? W _ s.b2) id).trans s.b2, (k.cell (p := ⟨B, 3, none⟩) (World.block_lt_of_cell? W _ s.b3) id).trans s.b3, s.k.trans k⟩

set_option maxRecDepth 100000 in
set_option maxHeartbeats 4000000 in
theorem canBe_any (h : Int) (N F V : ByteArray) (g Bt : Nat) (z : Bool) (w : World) (hn : N.size ≤ 9223372036854775807) (hv : V.size ≤ 9223372036854775807) (ht : Hid (TableAt Bt w g))
    (hz : Hid (lineB ⟨h, N.data.toList, F.data.toList, V.data.toList⟩ = z)) :
    Calls Try.prog 41 #[.agg #[.int .i64 h, .string N, .string F, .string V], .slice (some ⟨g, 0, none⟩) 12 12] w (NewRes (.bool z) w) := by
  go_enter Try.func41, Try.ntmps41
  go_wp2
  go_loopw [8] (fun i wr => ∃ k : Nat, k ≤ 12 ∧ i = .int .i64 k ∧ Hid (∀ (i : Nat) (q : RowD), i < k → tableD[i]? = some q → ¬ (q.head = h ∧ q.name = F.data.toList)) ∧ Hid (∃ m, wr = (w.alloc (.cells #[.int .i64 h, .string N, .string F, .string V] 53)).drewN m)) (fun i _ => 12 - (intOf i).toNat)
  case atStart => exact ⟨0, by omega, rfl, Lib.hid (fun _ _ h => by omega), Lib.hid ⟨0, rfl⟩⟩
  case round =>
    obtain ⟨k, hk12, rfl, hno, hm⟩ := hrel
    have b0 : wr.cell? ⟨w.heap.size, 0, none⟩ = some (.int .i64 h) := by obtain ⟨m, rfl⟩ := hm.out; simp [go_sem]
    have b1 : wr.cell? ⟨w.heap.size, 1, none⟩ = some (.string N) := by obtain ⟨m, rfl⟩ := hm.out; simp [go_sem]
    have b2 : wr.cell? ⟨w.heap.size, 2, none⟩ = some (.string F) := by obtain ⟨m, rfl⟩ := hm.out; simp [go_sem]
    have b3 : wr.cell? ⟨w.heap.size, 3, none⟩ = some (.string V) := by obtain ⟨m, rfl⟩ := hm.out; simp [go_sem]
    have kw : Keeps (fun _ => False) w wr := by obtain ⟨m, rfl⟩ := hm.out; exact ((Keeps.refl _ _).alloc _).drewN m
    by_cases hlt : k < 12
    · obtain ⟨r, hr⟩ : ∃ r, tableD[k]? = some r := ⟨_, List.getElem?_eq_getElem (show k < tableD.length from hlt)⟩
      obtain ⟨cv, hrange, hcs, -⟩ := (ht.out.keep kw) k r hr
      obtain ⟨p, cc, rfl, hcs0⟩ := hcs
      obtain ⟨Nm, hNm⟩ : ∃ Nm : ByteArray, Nm = ⟨r.name.toArray⟩ := ⟨_, rfl⟩
      obtain ⟨Df, hDf⟩ : ∃ Df : ByteArray, Df = ⟨r.df.toArray⟩ := ⟨_, rfl⟩
      have hra : wr.rangeAt g (k * 8) [.int .i64 r.head, .string Nm, .int .i64 r.kind, .int .i64 r.lo, .int .i64 r.hi, .slice p r.cs.length cc, .string Df, .int .i64 r.cl] := by rw [hNm, hDf]; exact hrange
      have a0 : wr.cell? ⟨g, k * 8, none⟩ = some (.int .i64 r.head) := hra 0 _ rfl
      have a1 : wr.cell? ⟨g, k * 8 + 1, none⟩ = some (.string Nm) := hra 1 _ rfl
      have hS0 : Hid (CanS g (k * 8) [.int .i64 r.head, .string Nm, .int .i64 r.kind, .int .i64 r.lo, .int .i64 r.hi, .slice p r.cs.length cc, .string Df, .int .i64 r.cl] p r.cs.length cc r.cs w.heap.size h N F V wr wr) := Lib.hid ⟨hra, ⟨p, cc, rfl, hcs0⟩, b0, b1, b2, b3, Keeps.refl _ _⟩
      have hNl : Nm.toList = r.name := by rw [hNm, Lib.toList_data]
      have hcl : r.cs.length ≤ 1000 := by
        have : ∀ q ∈ tableD, q.cs.length ≤ 1000 := by decide
        exact this r (List.mem_of_getElem? hr)
      have hr' := Lib.hid hr; have kw' := Lib.hid kw
      clear hra hrange hcs0 hNm hDf hr kw
      by_cases hh : r.head = h
      · have e1 : (r.head == h) = true := by simpa using hh
        by_cases hn2 : r.name = F.data.toList
        · have e2 : (Nm.toList == F.toList) = true := by rw [hNl, Lib.toList_data, hn2]; simp
          have hfr := find_step hr'.out hno.out ⟨hh, hn2⟩
          have hzz := hz.out
          unfold lineB at hzz
          simp only [hfr] at hzz
          have hzz' := Lib.hid hzz; clear hzz hfr hh hn2
          have hNl' := Lib.hid hNl; clear hNl
          go_wp2
          go_quiet (fail)
          go_wp2
          obtain ⟨zn, hzn⟩ : ∃ zn, namedB h N.data.toList = zn := ⟨_, rfl⟩
          obtain ⟨zr, hzr⟩ : ∃ zr, rightB r.kind r.lo r.hi r.cs V.data.toList = zr := ⟨_, rfl⟩
          have hzq : (zn && zr) = z := by rw [← hzz'.out, hzn, hzr]
          have hzn' := Lib.hid hzn; have hzr' := Lib.hid hzr
          clear hzn hzr
          cases zn with
          | true =>
            have hz2 : zr = z := hzq
            clear hzq
            subst hz2
            refine wp_region_noPanic ?_
            refine wp_region_held_drew (S := (fun W => CanS g (k * 8) [.int .i64 r.head, .string Nm, .int .i64 r.kind, .int .i64 r.lo, .int .i64 r.hi, .slice p r.cs.length cc, .string Df, .int .i64 r.cl] p r.cs.length cc r.cs w.heap.size h N F V wr W)) (by kernel_rfl) (hS0.out.next (((Keeps.refl _ _).drewN nq).drew)) (fun hHeld => ?_)
            refine tk 0 rfl ?_
            refine tkL 1 rfl (yieldsIf_load_cell (by rfl) 3 (.tmp 29) rfl w.heap.size 0 rfl _ (fun _ s => s.b0) (fun w s => load_int w _ _ _ s)) ?_
            refine tk 2 rfl ?_
            refine tkL 3 rfl (yieldsIf_load_cell (by rfl) 9 (.tmp 31) rfl w.heap.size 1 rfl _ (fun _ s => s.b1) (fun w s => load_str w _ _ _ s)) ?_
            refine stepL 4 rfl (by kernel_rfl) (fun K hK => ?_)
            go_simp
            (refine (named_any h N true _ hn hzn').mono ?_; rintro e w4 ⟨rfl, m4, rfl⟩)
            go_wp2_with fail
            refine hK.out _ _ (hHeld.next ⟨rfl, rfl, rfl, Nat.le_refl _, fun _ _ _ => rfl⟩) (fun hHeld => ?_)
            clear hK K
            try simp only [Act.put, sA, sZ, sS]
            refine tk 5 rfl ?_
            refine tk 6 rfl ?_
            refine tk 7 rfl ?_
            refine tk 8 rfl ?_
            refine tkL 9 rfl (yieldsIf_load_mid (by rfl) 120 (.tmp 37) rfl g (k * 8) rfl [.int .i64 r.head, .string Nm, .int .i64 r.kind, .int .i64 r.lo, .int .i64 r.hi, .slice p r.cs.length cc, .string Df, .int .i64 r.cl] _ (fun _ s => s.r) Try.underlying120 rfl rowInfo) ?_
            refine tk 10 rfl ?_
            refine tkL 11 rfl (yieldsIf_load_cell (by rfl) 9 (.tmp 39) rfl w.heap.size 3 rfl _ (fun _ s => s.b3) (fun w s => load_str w _ _ _ s)) ?_
            refine stepL 12 rfl (by kernel_rfl) (fun K hK => ?_)
            go_simp
            (refine (right_any r.head Nm Df r.kind r.lo r.hi r.cl p cc r.cs V zr _ hv hcl (Lib.hid hHeld.s) hzr').mono ?_; rintro e w5 ⟨rfl, hk5⟩)
            go_wp2_with fail
            refine hK.out _ _ (hHeld.next hk5) (fun hHeld => ?_)
            clear hK K
            try simp only [Act.put, sA, sZ, sS]
            refine tk 13 rfl ?_
            refine tk 14 rfl ?_
            refine wpAnyH_done (by kernel_rfl) (NoPanic.normal ?_) _
            have hkk := Lib.hid (kw'.out.trans hHeld.k)
            clear hHeld
            go_wp2
            go_ret
            exact ⟨rfl, hkk.out⟩
          | false =>
            have hz2 : false = z := hzq
            clear hzq
            subst hz2
            refine wp_region_noPanic ?_
            refine wp_region_held_drew (S := (fun W => CanS g (k * 8) [.int .i64 r.head, .string Nm, .int .i64 r.kind, .int .i64 r.lo, .int .i64 r.hi, .slice p r.cs.length cc, .string Df, .int .i64 r.cl] p r.cs.length cc r.cs w.heap.size h N F V wr W)) (by kernel_rfl) (hS0.out.next (((Keeps.refl _ _).drewN nq).drew)) (fun hHeld => ?_)
            refine tk 0 rfl ?_
            refine tkL 1 rfl (yieldsIf_load_cell (by rfl) 3 (.tmp 29) rfl w.heap.size 0 rfl _ (fun _ s => s.b0) (fun w s => load_int w _ _ _ s)) ?_
            refine tk 2 rfl ?_
            refine tkL 3 rfl (yieldsIf_load_cell (by rfl) 9 (.tmp 31) rfl w.heap.size 1 rfl _ (fun _ s => s.b1) (fun w s => load_str w _ _ _ s)) ?_
            refine stepL 4 rfl (by kernel_rfl) (fun K hK => ?_)
            go_simp
            (refine (named_any h N false _ hn hzn').mono ?_; rintro e w4 ⟨rfl, m4, rfl⟩)
            go_wp2_with fail
            refine hK.out _ _ (hHeld.next ⟨rfl, rfl, rfl, Nat.le_refl _, fun _ _ _ => rfl⟩) (fun hHeld => ?_)
            clear hK K
            try simp only [Act.put, sA, sZ, sS]
            refine tk 5 rfl ?_
            refine tkS 6 rfl ?_
            refine tkS 7 rfl ?_
            refine tkS 8 rfl ?_
            refine tkS 9 rfl ?_
            refine tkS 10 rfl ?_
            refine tkS 11 rfl ?_
            refine tkS 12 rfl ?_
            refine tk 13 rfl ?_
            refine tk 14 rfl ?_
            refine wpAnyH_done (by kernel_rfl) (NoPanic.normal ?_) _
            have hkk := Lib.hid (kw'.out.trans hHeld.k)
            clear hHeld
            go_wp2
            go_ret
            exact ⟨rfl, hkk.out⟩
        · have e2 : (Nm.toList == F.toList) = false := by rw [hNl, Lib.toList_data]; simpa using hn2
          have hno' : Hid (∀ (i : Nat) (q : RowD), i < k + 1 → tableD[i]? = some q → ¬ (q.head = h ∧ q.name = F.data.toList)) := Lib.hid (fun i q hi hq => by
            by_cases e : i = k
            · subst e
              have : q = r := by rw [hr'.out] at hq; injection hq with hq; exact hq.symm
              subst this
              exact fun ⟨_, b⟩ => hn2 b
            · exact hno.out i q (by omega) hq)
          have hNl' := Lib.hid hNl; clear hh hn2 hNl
          go_wp2
          go_quiet (fail)
          go_wp2
          exact ⟨⟨k + 1, by omega, by go_num, hno', by obtain ⟨m, rfl⟩ := hm.out; exact Lib.hid ⟨m + nq, by rw [World.drewN_drewN]⟩⟩, by simp [intOf]; omega⟩
      · have e1 : (r.head == h) = false := by simpa using hh
        have hno' : Hid (∀ (i : Nat) (q : RowD), i < k + 1 → tableD[i]? = some q → ¬ (q.head = h ∧ q.name = F.data.toList)) := Lib.hid (fun i q hi hq => by
          by_cases e : i = k
          · subst e
            have : q = r := by rw [hr'.out] at hq; injection hq with hq; exact hq.symm
            subst this
            exact fun ⟨a, _⟩ => hh a
          · exact hno.out i q (by omega) hq)
        have hNl' := Lib.hid hNl; clear hh hNl
        go_wp2
        go_quiet (fail)
        go_wp2
        exact ⟨⟨k + 1, by omega, by go_num, hno', by obtain ⟨m, rfl⟩ := hm.out; exact Lib.hid ⟨m + nq, by rw [World.drewN_drewN]⟩⟩, by simp [intOf]; omega⟩
    · obtain rfl : k = 12 := by omega
      have hfn := find_none hno.out
      have hz1 : Hid (z = false) := Lib.hid (by
        rw [← hz.out]
        unfold lineB
        simp only [hfn])
      have kw' := Lib.hid kw
      clear hfn kw
      go_wp2
      go_ret
      exact ⟨by rw [hz1.out]; rfl, kw'.out⟩
end Go.Proofs.Ytmclnamgihphcaa
