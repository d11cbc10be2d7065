/- strings.Builder: copyCheck, WriteString, by hand; String by the shelf (ShelfB). -/
import Derived.Test.YtdjmhjgfjbcdkaaU07
import Derived.Shelf.Strings.Builder1
import Derived.Test.YtdjmhjgfjbcdkaaProg
import Derived.Test.YtdjmhjgfjbcdkaaU10
set_option linter.unusedVariables false
set_option linter.unusedSimpArgs false
set_option linter.unusedVariables false
set_option linter.unusedSimpArgs false
namespace Go.Proofs.Ytdjmhjgfjbcdkaa
open Go.RowKit

theorem sizeB : (Try.prog.info? 83).map (·.size) = some 2 := by kernel_rfl
theorem liesB : liesAt Try.prog Try.prog.depth 83 (2 / Try.prog.cellsOf 83) 0 83 1 = true := by kernel_rfl
theorem infoB : (Try.prog.info? 5).map (fun i => (i.zero, i.size, i.bytes)) = some (some (.int .u8 0), 1, 1) := by kernel_rfl
set_option maxHeartbeats 1000000 in
set_option maxRecDepth 100000 in
theorem cc_used (b : Nat) (w : World) (h0 : w.cell? ⟨b, 0, none⟩ = some (.pointer (some ⟨b, 0, none⟩))) :
    Calls Try.prog 52 #[.pointer (some ⟨b, 0, none⟩)] w fun e w' => e = .returned (.tuple #[]) ∧ w' = w := by
  obtain ⟨j, hj, _⟩ := Option.map_eq_some_iff.1 sizeB
  go_enter Try.func52, Try.ntmps52
  go_wp2
  rw [Lib.run_neq_ptr_same w _ Try.underlying81 hj]
  go_wp2
  go_end0
  exact ⟨rfl, rfl⟩
set_option maxHeartbeats 1000000 in
set_option maxRecDepth 100000 in
theorem cc_fresh (b : Nat) (w : World) (h0 : w.cell? ⟨b, 0, none⟩ = some (.pointer none)) (hsh : w.shape? b = some (83, 2)) (hfz : w.frozen? ⟨b, 0, none⟩ = false) :
    Calls Try.prog 52 #[.pointer (some ⟨b, 0, none⟩)] w fun e w' => e = .returned (.tuple #[]) ∧ w' = w.setCell ⟨b, 0, none⟩ (.pointer (some ⟨b, 0, none⟩)) := by
  obtain ⟨j, hj, hjs⟩ := Option.map_eq_some_iff.1 sizeB
  go_enter Try.func52, Try.ntmps52
  go_wp2
  rw [Lib.run_to_unsafe w ⟨b, 0, none⟩ Try.underlying81 Try.underlying109 hj (by rw [hjs]; decide) hsh (Nat.zero_lt_succ 1)]
  simp only [Result.andThen]
  rw [Oper.upon_value]
  go_wp2
  rw [run_callFunc_extern Try.func64 (by kernel_rfl) (by kernel_rfl) (by kernel_rfl) (e := Extern.AbiNoEscape.same) (by kernel_rfl)]
  rw [Lib.run_noEscape]
  simp only [Result.andThen]
  rw [Oper.upon_value]
  go_wp2
  rw [Lib.run_from_unsafe w ⟨b, 0, none⟩ Try.underlying109 Try.underlying81 hj hsh liesB]
  simp only [Result.andThen]
  rw [Oper.upon_value]
  go_wp2
  go_end0
  exact ⟨rfl, rfl⟩
/-- what is older than B stays, and so do blocks of other types -/
structure KeepsT (B : Nat) (w w' : World) : Prop where
  k : Keeps (fun i => B ≤ i) w w'
  t : ∀ (x : Nat) (t : TypeId) (cs : Array Value), t ≠ 5 → t ≠ 83 → w.heap[x]? = some (.cells cs t (0, 0)) → w'.heap[x]? = some (.cells cs t (0, 0))
theorem KeepsT.trans {B : Nat} {a b c : World} (h : KeepsT B a b) (k : KeepsT B b c) : KeepsT B a c := ⟨h.k.trans k.k, fun x t cs h1 h2 h3 => k.t x t cs h1 h2 (h.t x t cs h1 h2 h3)⟩
theorem KeepsT.of {B : Nat} {w w' : World} (k : Keeps (fun _ => False) w w') : KeepsT B w w' := ⟨k.mono (fun _ e => e.elim), fun x t cs _ _ h => by
  have hx : x < w.heap.size := by
    rcases Nat.lt_or_ge x w.heap.size with h' | h'
    · exact h'
    · simp [Array.getElem?_eq_none h'] at h
  rw [k.block x hx id]; exact h⟩
theorem KeepsT.blk {B : Nat} {w w' : World} (k : KeepsT B w w') {x : Nat} {t : TypeId} {cs : List Value} (h : BlkAt w x t cs) (h1 : t ≠ 5) (h2 : t ≠ 83) : BlkAt w' x t cs := k.t x t _ h1 h2 h
def IsB (B b : Nat) (bs : List Value) (w : World) : Prop := Lib.IsBuilder 83 5 B b bs w
theorem cc_any (B b : Nat) (bs : List Value) (w : World) (h : IsB B b bs w) :
    Calls Try.prog 52 #[.pointer (some ⟨b, 0, none⟩)] w fun e w' => e = .returned (.tuple #[]) ∧ (Lib.BuilderAt 83 5 B b (.pointer (some ⟨b, 0, none⟩)) bs w' ∧ KeepsT B w w') := by
  rcases h with h | h
  · refine (cc_fresh b w h.cell0 h.shape h.frozen0).mono ?_
    rintro e w' ⟨rfl, rfl⟩
    obtain ⟨hB, v, hbk, hown, hne⟩ := h
    refine ⟨rfl, Lib.BuilderAt.used (p := .pointer none) ⟨hB, v, hbk, hown, hne⟩ _, (Keeps.refl _ _).setCell (p := ⟨b, 0, none⟩) (.inl hB) _, fun x t cs h1 h2 h3 => ?_⟩
    rw [heap_setCell_other _ _ _ _ (fun e => by
      have e : x = b := e
      subst e; rw [hbk] at h3; injection h3 with h3; injection h3 with h4 h5 h6; exact h2 h5.symm)]
    exact h3
  · refine (cc_used b w h.cell0).mono ?_
    rintro e w' ⟨rfl, rfl⟩
    exact ⟨rfl, h, KeepsT.of (Keeps.refl _ _)⟩
set_option maxHeartbeats 2000000 in
set_option maxRecDepth 100000 in
theorem writeString_any (B b : Nat) (l : List UInt8) (s : ByteArray) (w : World) (h : IsB B b (Lib.byteCells l) w) (hlen : l.length + s.size ≤ 1000000000) (hBw : B ≤ w.heap.size) :
    Calls Try.prog 41 #[.pointer (some ⟨b, 0, none⟩), .string s] w fun e w' => e = .returned (.tuple #[.int .i64 s.size, .nilIface]) ∧ (IsB B b (Lib.byteCells (l ++ s.data.toList)) w' ∧ KeepsT B w w') := by
  obtain ⟨i0, hi, hz0, hz1, hz2⟩ := info_parts infoB
  have hl : (Lib.byteCells l).length = l.length := Lib.byteCells_length l
  go_enter Try.func41, Try.ntmps41
  go_wp2_with fail
  refine (cc_any B b (Lib.byteCells l) _ h).mono ?_
  rintro e w1 ⟨rfl, h1, hb1⟩
  obtain ⟨hB, v, hbk, hown, hne⟩ := h1
  have c0 : w1.cell? ⟨b, 0, none⟩ = some (.pointer (some ⟨b, 0, none⟩)) := by rw [Lib.cell_of_heap hbk]; rfl
  have c1 : w1.cell? ⟨b, 1, none⟩ = some v := by rw [Lib.cell_of_heap hbk]; rfl
  go_wp2_with (at_builtin; refine Lib.wpList_append_own_string _ rfl _ _ 50 9 rfl B 5 i0 Try.underlying50 Try.underlying9 hi hz0 hz1 hz2 _ _ _ rfl hown s rfl ?c3 ?c4 ?c5 ?_)
  case c3 => unfold maxLen; omega
  case c4 => omega
  case c5 => have := hb1.k.size; omega
  intro v' w2 hown' hgrow _
  have hlt : b < w1.heap.size := by
    rcases Nat.lt_or_ge b w1.heap.size with h' | h'
    · exact h'
    · simp [Array.getElem?_eq_none h'] at hbk
  have hb2 : w2.heap[b]? = some (.cells #[.pointer (some ⟨b, 0, none⟩), v] 83 (0, 0)) := by
    rw [hgrow.block b hlt (fun e => hne e.symm)]
    exact hbk
  have d0 : w2.cell? ⟨b, 0, none⟩ = some (.pointer (some ⟨b, 0, none⟩)) := by rw [Lib.cell_of_heap hb2]; rfl
  have d1 : w2.cell? ⟨b, 1, none⟩ = some v := by rw [Lib.cell_of_heap hb2]; rfl
  have f1 : w2.frozen? ⟨b, 1, none⟩ = false := Lib.frozen_of_heap hb2 1
  obtain ⟨ao, n', cap, rfl⟩ : ∃ ao n' cap, v' = .slice ao n' cap := by
    rcases hown'.2 with ⟨hv, _⟩ | ⟨g, cap, cur, hv, _⟩
    · exact ⟨_, _, _, hv⟩
    · exact ⟨_, _, _, hv⟩
  go_wp2
  go_ret2
  refine ⟨rfl, .inr ?_, ?_⟩
  · have e : Lib.byteCells (l ++ s.data.toList) = Lib.byteCells l ++ Lib.strCells s := by simp [Lib.byteCells, Lib.strCells]
    rw [e]
    exact Lib.BuilderAt.put (T := 83) (e := 5) hB hb2 (bs' := Lib.byteCells l ++ Lib.strCells s) (by rw [List.length_append, Lib.strCells_length, hl]; exact hown') (by decide)
  · refine hb1.trans ⟨((Keeps.refl _ _).grown hgrow (fun k hk => .inl ((hown.lt k hk).1))).setCell (p := ⟨b, 1, none⟩) (.inl hB) _, fun x t cs h1 h2 h3 => ?_⟩
    have hx : x < w1.heap.size := by
      rcases Nat.lt_or_ge x w1.heap.size with h' | h'
      · exact h'
      · simp [Array.getElem?_eq_none h'] at h3
    rw [heap_setCell_other _ _ _ _ (fun e => by
      have e : x = b := e
      subst e; rw [hbk] at h3; injection h3 with h3; injection h3 with h4 h5 h6; exact h2 h5.symm)]
    rw [hgrow.block x hx (fun e => by
      rcases hown.2 with ⟨hv, _⟩ | ⟨g, cap, cur, hv, _, hg, _⟩
      · subst hv; cases e
      · subst hv
        simp only [Value.ownBlock, Option.some.injEq] at e
        subst e
        rw [hg] at h3; injection h3 with h3; injection h3 with h4 h5 h6; exact h1 h5.symm)]
    exact h3
end Go.Proofs.Ytdjmhjgfjbcdkaa
/- (*strings.Builder).String at this program, laid in plain words: only for the seat of the five laws of layer 5 (numbers). -/
namespace Go.Proofs.Ytdjmhjgfjbcdkaa
open Go.Shelf
def Try.lays169_ren : Go.Shelf.Ren := ⟨fun | 169 => 44 | n => n, fun | 70 => 81 | 9 => 9 | 0 => 0 | 72 => 83 | 37 => 50 | 127 => 97 | 3 => 3 | 5 => 5 | n => n, fun | n => n⟩
theorem Try.lays169 : Go.Proofs.Lays.n169 Try.prog Try.lays169_ren := {
  mixed := by kernel_rfl
  f169 := Try.func44.trans (congrArg some (by kernel_rfl))
  t0 := Try.underlying0
  a0 := Try.isAgg0
  z0 := Try.sizeOf0
  v0 := Try.zeroValue0
  t3 := Try.underlying3
  a3 := Try.isAgg3
  z3 := Try.sizeOf3
  v3 := Try.zeroValue3
  t9 := Try.underlying9
  a9 := Try.isAgg9
  z9 := Try.sizeOf9
  v9 := Try.zeroValue9
  t37 := Try.underlying50
  a37 := Try.isAgg50
  z37 := Try.sizeOf50
  v37 := Try.zeroValue50
  t70 := Try.underlying81
  a70 := Try.isAgg81
  z70 := Try.sizeOf81
  v70 := Try.zeroValue81
  t72 := Try.underlying83
  a72 := Try.isAgg83
  z72 := Try.sizeOf83
  v72 := Try.zeroValue83
  t127 := Try.underlying97
  a127 := Try.isAgg97
  z127 := Try.sizeOf97
  v127 := Try.zeroValue97 }
theorem Try.Builder_Extra_169 : Builder.Extra Try.prog Try.lays169_ren := {
  sizeBuilder := by kernel_rfl
  liesBuilder := by kernel_rfl
  t5 := Try.underlying5
  a5 := Try.isAgg5
  z5 := Try.sizeOf5
  v5 := Try.zeroValue5
  infoByte := by kernel_rfl
  cellsByte := by kernel_rfl
  sizeByte := by kernel_rfl
  neB5 := by decide }
open Go.RowKit in
theorem Try.Builder_String (B b : Nat) (l : List UInt8) (w : World) (h : Lib.IsBuilder 83 5 B b (Lib.byteCells l) w) (h0 : l ≠ []) :
    Calls Try.prog 44 #[.pointer (some ⟨b, 0, none⟩)] w fun e w' => e = .returned (.string ⟨l.toArray⟩) ∧ Below B w w' := Any.Builder_String Try.lays169 Try.Builder_Extra_169 B b l w h h0
open Go.RowKit in
theorem Try.Builder_String_empty (B b : Nat) (w : World) (h : Lib.IsBuilder 83 5 B b [] w) (hBw : B ≤ w.heap.size) :
    Calls Try.prog 44 #[.pointer (some ⟨b, 0, none⟩)] w fun e w' => e = .returned (.string ⟨#[]⟩) ∧ Below B w w' := Any.Builder_String_empty Try.lays169 Try.Builder_Extra_169 B b w h hBw
open Go.RowKit in
theorem Try.Builder_String_any (B b : Nat) (l : List UInt8) (w : World) (h : Lib.IsBuilder 83 5 B b (Lib.byteCells l) w) (hBw : B ≤ w.heap.size) :
    Calls Try.prog 44 #[.pointer (some ⟨b, 0, none⟩)] w fun e w' => e = .returned (.string ⟨l.toArray⟩) ∧ Below B w w' := Any.Builder_String_any Try.lays169 Try.Builder_Extra_169 B b l w h hBw
end Go.Proofs.Ytdjmhjgfjbcdkaa
/- conf.Text of one line of head 1 (gen_cft.py). -/
set_option linter.unusedVariables false
set_option linter.unusedSimpArgs false
namespace Go.Proofs.Ytdjmhjgfjbcdkaa
open Go.RowKit

set_option maxRecDepth 100000 in
theorem written_any (h : Int) (N F V T : ByteArray) (w : World) (hF : F.size ≤ 100000) (hV : V.size ≤ 100000) (hT : Hid (T = F ++ ⟨#[32]⟩ ++ V ++ ⟨#[59, 10]⟩)) :
    Calls Try.prog 42 #[.agg #[.int .i64 h, .string N, .string F, .string V]] w (NewRes (.string T) w) := by
  go_enter Try.func42, Try.ntmps42
  go_wp2
  go_ret
  exact ⟨by rw [hT.out]; rfl, (Keeps.refl _ _).alloc _⟩
theorem headWord_one (w : World) : Calls Try.prog 43 #[.int .i64 1] w (NewRes (.string ⟨#[97, 114, 101, 97]⟩) w) := by
  go_enter Try.func43, Try.ntmps43
  go_wp2
  go_ret
  exact ⟨rfl, Keeps.refl _ _⟩
theorem IsB.keep {B b : Nat} {bs : List Value} {w w' : World} (h : IsB B b bs w) (k : Keeps (fun _ => False) w w') : IsB B b bs w' := by
  have f : ∀ p, Lib.BuilderAt 83 5 B b p bs w → Lib.BuilderAt 83 5 B b p bs w' := fun p h => by
    obtain ⟨hB, v, hbk, hown, hne⟩ := h
    have hx : b < w.heap.size := by
      rcases Nat.lt_or_ge b w.heap.size with h' | h'
      · exact h'
      · simp [Array.getElem?_eq_none h'] at hbk
    exact ⟨hB, v, by rw [k.block b hx id]; exact hbk, k.ownsRow hown (fun _ _ f => f), hne⟩
  rcases h with h | h
  · exact .inl (f _ h)
  · exact .inr (f _ h)
theorem IsB.new (w : World) : IsB w.heap.size w.heap.size (Lib.byteCells []) (w.alloc (.cells #[.pointer none, .slice none 0 0] 83)) :=
  .inl ⟨Nat.le_refl _, .slice none 0 0, heap_alloc_last w _, ⟨rfl, .inl ⟨rfl, rfl⟩⟩, by simp [Value.ownBlock]⟩
theorem Below.keepsB {B : Nat} {w w' : World} (h : Below B w w') : Keeps (fun i => B ≤ i) w w' := ⟨h.os, h.tape, h.output, h.size, fun k hk hn => h.block k (by omega)⟩

set_option maxRecDepth 100000 in
set_option maxHeartbeats 4000000 in
theorem text_one (g o c : Nat) (N F V T1 T2 T3 T : ByteArray) (w : World) (hrow : Hid (w.rangeAt g o [.int .i64 1, .string N, .string F, .string V])) (hr : Hid (rightC [⟨1, N.data.toList, F.data.toList, V.data.toList⟩] = true))
    (hN : N.size ≤ 100) (hF : F.size ≤ 100) (hV : V.size ≤ 100) (h1 : Hid (T1 = ⟨#[97, 114, 101, 97]⟩ ++ ⟨#[32]⟩ ++ N ++ ⟨#[32, 123, 10]⟩)) (h2 : Hid (T2 = F ++ ⟨#[32]⟩ ++ V ++ ⟨#[59, 10]⟩)) (h3 : Hid (T3 = ⟨#[32, 32]⟩ ++ T2))
    (s1 : T1.size ≤ 1000) (s2 : T2.size ≤ 1000) (s3 : T3.size ≤ 1000) (hT : Hid (T = ⟨(T1.data.toList ++ T3.data.toList ++ [125, 10]).toArray⟩)) :
    Calls Try.prog 21 #[.slice (some ⟨g, o, none⟩) 1 c] w (NewRes (.string T) w) := by
  have hLn : Hid (LinesAt w (.slice (some ⟨g, o, none⟩) 1 c) [⟨1, N.data.toList, F.data.toList, V.data.toList⟩]) := Lib.hid ⟨_, c, rfl, fun _ => ⟨g, o, rfl, fun i l hl => by
    cases i with
    | zero => simp at hl; subst hl; rw [show o + 0 * 4 = o by omega]; exact hrow.out
    | succ i => simp at hl⟩⟩
  have hlt : Hid (LinesLt [⟨1, N.data.toList, F.data.toList, V.data.toList⟩] 9223372036854775807) := Lib.hid (fun l hl => by
    simp at hl; subst hl
    have e1 : N.data.toList.length = N.size := by simp
    have e2 : F.data.toList.length = F.size := by simp
    have e3 : V.data.toList.length = V.size := by simp
    exact ⟨by show N.data.toList.length ≤ _; omega, by show F.data.toList.length ≤ _; omega, by show V.data.toList.length ≤ _; omega⟩)
  go_enter Try.func21, Try.ntmps21
  go_wp2_with fail
  refine (right_c _ [⟨1, N.data.toList, F.data.toList, V.data.toList⟩] true _ hLn (by simp) hlt hr).mono ?_
  rintro e w2 ⟨rfl, k2⟩
  have k2' := Lib.hid k2
  have hg2 : g < w2.heap.size := World.block_lt_of_cell? w2 ⟨g, o + 0, none⟩ (k2.rangeAt hrow.out id 0 _ rfl)
  have hrow2 := Lib.hid (k2.rangeAt hrow.out id)
  clear k2 hLn hlt hr
  have hI0 := Lib.hid (IsB.new w2)
  have hK0 : Hid (KeepsT w2.heap.size w2 (w2.alloc (.cells #[.pointer none, .slice none 0 0] 83))) := Lib.hid (KeepsT.of ((Keeps.refl _ _).alloc _))
  go_wp2_with fail
  go_loopw [11] (fun iv wr => ∃ (k : Nat), k ≤ 1 ∧ iv = .int .i64 k ∧ Hid (IsB w2.heap.size w2.heap.size (Lib.byteCells (if k = 0 then [] else T1.data.toList ++ T3.data.toList ++ [125, 10])) wr) ∧ Hid (KeepsT w2.heap.size w2 wr)) (fun iv _ => 1 - (intOf iv).toNat)
  case atStart => exact ⟨0, by omega, rfl, hI0, hK0⟩
  case round =>
    obtain ⟨k, hk, rfl, hI, hKr⟩ := hrel
    by_cases hk0 : k = 0
    · subst hk0
      have hI1 : Hid (IsB w2.heap.size w2.heap.size (Lib.byteCells []) wr) := Lib.hid hI.out
      have hrw : Hid (wr.rangeAt g (o + 0 * 4) [.int .i64 1, .string N, .string F, .string V]) := Lib.hid (by rw [Nat.zero_mul, Nat.add_zero]; exact hKr.out.k.rangeAt hrow2.out (by omega))
      have hBx : Hid (BlkAt (wr.alloc (.cells #[.int .i64 1, .string N, .string F, .string V] 36)) wr.heap.size 36 [.int .i64 1, .string N, .string F, .string V]) := Lib.hid (BlkAt.new _ _ _)
      have hIx : Hid (IsB w2.heap.size w2.heap.size (Lib.byteCells []) (wr.alloc (.cells #[.int .i64 1, .string N, .string F, .string V] 36))) := Lib.hid (hI1.out.keep ((Keeps.refl _ _).alloc _))
      have hKx : Hid (KeepsT w2.heap.size w2 (wr.alloc (.cells #[.int .i64 1, .string N, .string F, .string V] 36))) := Lib.hid (hKr.out.trans (KeepsT.of ((Keeps.refl _ _).alloc _)))
      clear hI hI1 hKr hI0 hK0
      have c0 := hBx.out.cell 0 _ rfl
      go_upto_region 9 with (first | ((with_reducible refine at_slot 15 ?_); refine wpList_load_mid rfl 36 (.tmp 14) rfl g (o + 0 * 4) rfl [.int .i64 1, .string N, .string F, .string V] _ hrw.out Try.underlying36 rfl lineInfo ?_) | ((with_reducible refine at_store 5 ?_); refine wpList_store_new rfl 36 (.tmp 5) (.tmp 15) rfl _ #[.int .i64 1, .string N, .string F, .string V] rfl rfl lineInfo rfl (line_one _ _ _ _) ?_))
      clear c0
      generalize hgx : wr.heap.size = gx at hBx ⊢
      generalize hWx : wr.alloc (.cells #[.int .i64 1, .string N, .string F, .string V] 36) = Wx at hBx hIx hKx ⊢
      clear hgx hWx hrw
      refine wp_region_noPanic ?_
      refine wp_region_held_drew (S := (fun W => Keeps (fun _ => False) Wx W)) (by kernel_rfl) (((Keeps.refl _ _).drew)) (fun hHeld => ?_)
      refine tk 0 rfl ?_
      refine tk 1 rfl ?_
      refine tk 2 rfl ?_
      refine tkS 3 rfl ?_
      refine tkS 4 rfl ?_
      refine tkS 5 rfl ?_
      refine tkS 6 rfl ?_
      refine tkS 7 rfl ?_
      refine tkS 8 rfl ?_
      refine tkS 9 rfl ?_
      refine tkS 10 rfl ?_
      refine tk 11 rfl ?_
      refine wpAnyH_done (by kernel_rfl) (NoPanic.normal ?_) _
      have hB1 := Lib.hid (hBx.out.keep hHeld id)
      have hI1 := Lib.hid (hIx.out.keep hHeld)
      have hK1 := Lib.hid (hKx.out.trans (KeepsT.of hHeld))
      clear hHeld hBx hIx hKx
      go_upto_region 10 with fail
      generalize Wx.drew = Wy at hB1 hI1 hK1 ⊢
      refine wp_region_noPanic ?_
      refine wp_region_held_drew (S := (fun W => KeepsT w2.heap.size Wy W)) (by kernel_rfl) ((KeepsT.of (Keeps.refl _ _).drew)) (fun hHeld => ?_)
      refine tk 0 rfl ?_
      refine tkL 1 rfl (yieldsIf_load_cell (by rfl) 3 (.tmp 34) rfl gx 0 rfl _ (fun _ s => (KeepsT.blk s hB1.out (by decide) (by decide)).cell 0 _ rfl) (fun w s => load_int w _ _ _ s)) ?_
      refine tk 4 rfl ?_
      refine tkL 5 rfl (yieldsIf_load_cell (by rfl) 9 (.tmp 38) rfl gx 1 rfl _ (fun _ s => (KeepsT.blk s hB1.out (by decide) (by decide)).cell 1 _ rfl) (fun w s => load_str w _ _ _ s)) ?_
      refine stepL 2 rfl (by kernel_rfl) (fun K hK => ?_)
      go_simp
      (refine (headWord_one _).mono ?_; rintro e w4 ⟨rfl, k4⟩; have k4' := Lib.hid k4; have hI4 := Lib.hid (hI1.out.keep (((Keeps.refl _ _).drew).trans k4)); clear k4)
      go_wp2_with fail
      refine hK.out _ _ ((KeepsT.trans hHeld (KeepsT.of k4'.out))) (fun hHeld => ?_)
      clear hK K
      try simp only [Act.put, sA, sZ, sS]
      refine tk 3 rfl ?_
      refine tk 6 (v := .string (⟨#[97, 114, 101, 97]⟩ ++ ⟨#[32]⟩ ++ N)) (hy := fun wS hSw => by go_simp; omega) rfl ?_
      refine tk 7 (v := .string T1) (hy := fun wS hSw => by rw [h1.out]; go_simp; omega) rfl ?_
      refine stepL 8 rfl (by kernel_rfl) (fun K hK => ?_)
      go_simp
      (refine (writeString_any _ _ [] T1 _ hI4.out (by simp; omega) (by have := hK1.out.k.size; have := hHeld.k.size; omega)).mono ?_; rintro e w5 ⟨rfl, i5, k5⟩; have k5' := Lib.hid k5; have hI5 := Lib.hid i5; clear k5 i5 hI4)
      go_wp2_with fail
      refine hK.out _ _ ((KeepsT.trans hHeld k5'.out)) (fun hHeld => ?_)
      clear hK K
      try simp only [Act.put, sA, sZ, sS]
      refine wpAnyH_done (by kernel_rfl) (NoPanic.normal ?_) _
      have hB5 := Lib.hid (hHeld.blk hB1.out (by decide) (by decide))
      have hK5 := Lib.hid (hK1.out.trans hHeld)
      clear hHeld hB1 hI1 hK1 k4' k5'
      go_wp2_with ((with_reducible refine at_slot 43 ?_); refine wpList_load_mid rfl 36 (.tmp 5) rfl gx 0 rfl [.int .i64 1, .string N, .string F, .string V] _ hB5.out.range Try.underlying36 rfl lineInfo ?_)
      refine (written_any 1 N F V T2 _ (by omega) (by omega) h2).mono ?_
      rintro e w6 ⟨rfl, k6⟩
      have hI6 := Lib.hid (hI5.out.keep k6)
      have hK6 := Lib.hid (hK5.out.trans (KeepsT.of k6))
      clear k6 hI5 hK5 hB5
      go_wp2_with fail
      rw [← h3.out]
      refine (writeString_any _ _ _ T3 _ hI6.out (by simp; omega) (by have := hK6.out.k.size; omega)).mono ?_
      rintro e w7 ⟨rfl, i7, k7⟩
      have hI7 := Lib.hid i7
      have hK7 := Lib.hid (hK6.out.trans k7)
      clear i7 k7 hI6 hK6
      go_wp2_with fail
      refine wp_region_noPanic ?_
      refine wp_region_held_drew (S := (fun W => Keeps (fun _ => False) w7 W)) (by kernel_rfl) (((Keeps.refl _ _).drew)) (fun hHeld => ?_)
      refine tk 0 rfl ?_
      refine tk 1 rfl ?_
      refine tk 2 rfl ?_
      refine tk 3 rfl ?_
      refine tk 4 rfl ?_
      refine tk 5 rfl ?_
      refine tkS 6 rfl ?_
      refine tkS 7 rfl ?_
      refine tkS 8 rfl ?_
      refine tkS 9 rfl ?_
      refine tkS 10 rfl ?_
      refine tkS 11 rfl ?_
      refine tkS 12 rfl ?_
      refine tkS 13 rfl ?_
      refine tk 14 rfl ?_
      refine wpAnyH_done (by kernel_rfl) (NoPanic.normal ?_) _
      generalize w7.drew = W8 at hHeld ⊢
      have hI8 := Lib.hid (hI7.out.keep hHeld)
      have hK8 := Lib.hid (hK7.out.trans (KeepsT.of hHeld))
      clear hHeld hI7 hK7
      clear hHeld
      clear hHeld
      go_upto_region 13 with fail
      have hlW : (([] : List UInt8) ++ T1.data.toList ++ T3.data.toList).length + (⟨#[125, 10]⟩ : ByteArray).size ≤ 1000000000 := by
        have e1 : T1.data.toList.length = T1.size := by simp
        have e3 : T3.data.toList.length = T3.size := by simp
        rw [List.length_append, List.length_append, e1, e3]
        show 0 + T1.size + T3.size + 2 ≤ _
        omega
      have hbW : w2.heap.size ≤ W8.heap.size := hK8.out.k.size
      have hwc := Lib.hid (writeString_any _ _ _ ⟨#[125, 10]⟩ _ hI8.out hlW hbW)
      clear hlW hbW hI8
      go_wp2_with (go_at_call 41; refine hwc.out.mono ?_; rintro e w9 ⟨rfl, i9, k9⟩; have hI9 := Lib.hid i9; have hK9 := Lib.hid (hK8.out.trans k9); clear i9 k9 hK8 hwc)
      exact ⟨⟨1, by omega, by rfl, Lib.hid hI9.out, hK9⟩, by simp [intOf]⟩
    · obtain rfl : k = 1 := by omega
      have hI1 : Hid (IsB w2.heap.size w2.heap.size (Lib.byteCells (T1.data.toList ++ T3.data.toList ++ [125, 10])) wr) := Lib.hid hI.out
      clear hI hI0 hK0 hk hk0
      go_wp2_with fail
      refine (Try.Builder_String_any _ _ _ _ hI1.out (by have := hKr.out.k.size; omega)).mono ?_
      rintro e w3 ⟨rfl, b3⟩
      have b3' := Lib.hid b3
      clear b3
      rw [← hT.out]
      go_wp2_with fail
      go_ret
      exact ⟨rfl, k2'.out.trans ((hKr.out.k.trans (Below.keepsB b3'.out)).mono (fun i hi => .inr hi))⟩
end Go.Proofs.Ytdjmhjgfjbcdkaa
