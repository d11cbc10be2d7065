/- The table of rows, in memory. -/
import Derived.Test.YtdjmhjgfjbcdkaaSCL
namespace Go.Proofs.Ytdjmhjgfjbcdkaa
open Go.RowKit

/-- a row, plain -/
structure RowD where
  head : Int
  name : List UInt8
  kind : Int
  lo : Int
  hi : Int
  cs : List (List UInt8)
  df : List UInt8
  cl : Int
def tableD : List RowD := [
  ⟨0, [114, 111, 117, 116, 101, 114, 45, 105, 100], 0, 0, 0, [], [], 6⟩,
  ⟨1, [99, 111, 115, 116], 2, 0, 65535, [], [49], 2⟩,
  ⟨1, [116, 121, 112, 101], 3, 0, 0, [[110, 111, 114, 109, 97, 108], [115, 116, 117, 98], [110, 115, 115, 97]], [110, 111, 114, 109, 97, 108], 3⟩,
  ⟨2, [97, 100, 100, 114, 101, 115, 115], 1, 0, 0, [], [], 4⟩,
  ⟨2, [97, 114, 101, 97], 0, 0, 0, [], [], 5⟩,
  ⟨2, [97, 117, 116, 104], 4, 0, 8, [], [], 3⟩,
  ⟨2, [99, 111, 115, 116], 2, 1, 65535, [], [49, 48], 2⟩,
  ⟨2, [100, 101, 97, 100], 2, 1, 65535, [], [52, 48], 3⟩,
  ⟨2, [104, 101, 108, 108, 111], 2, 1, 65535, [], [49, 48], 3⟩,
  ⟨2, [110, 101, 116, 119, 111, 114, 107], 3, 0, 0, [[98, 114, 111, 97, 100, 99, 97, 115, 116], [112, 111, 105, 110, 116, 45, 116, 111, 45, 112, 111, 105, 110, 116]], [98, 114, 111, 97, 100, 99, 97, 115, 116], 4⟩,
  ⟨2, [112, 114, 105, 111, 114, 105, 116, 121], 2, 0, 255, [], [49], 1⟩,
  ⟨2, [114, 101, 116, 114, 97, 110, 115, 109, 105, 116], 2, 1, 3600, [], [53], 0⟩]
def rowVals (r : RowD) (cv : Value) : List Value := [.int .i64 r.head, strv r.name, .int .i64 r.kind, .int .i64 r.lo, .int .i64 r.hi, cv, strv r.df, .int .i64 r.cl]
/-- a row lies at place o of block g -/
def RowAt (B : Nat) (w : World) (g o : Nat) (r : RowD) : Prop := ∃ cv, w.rangeAt g o (rowVals r cv) ∧ StrsAt w cv r.cs ∧ ∀ k, cv.ownBlock = some k → B ≤ k
/-- the table lies in block g -/
def TableAt (B : Nat) (w : World) (g : Nat) : Prop := ∀ i r, tableD[i]? = some r → RowAt B w g (i * 8) r
theorem RowAt.keep {B : Nat} {w w' : World} {g o : Nat} {r : RowD} (h : RowAt B w g o r) (k : Keeps (fun _ => False) w w') : RowAt B w' g o r := by
  obtain ⟨cv, h1, h2, h3⟩ := h
  exact ⟨cv, k.rangeAt h1 id, h2.keep k (fun _ _ _ f => f), h3⟩
theorem TableAt.keep {B : Nat} {w w' : World} {g : Nat} (h : TableAt B w g) (k : Keeps (fun _ => False) w w') : TableAt B w' g := fun i r hr => (h i r hr).keep k

/-- the cells of the whole table, the choices at b1 and b2 -/
def tableCells (b1 b2 : Nat) : List Value :=
  (tableD.zipIdx.map fun x => rowVals x.1 (if x.2 = 2 then .slice (some ⟨b1, 0, none⟩) 3 3 else if x.2 = 9 then .slice (some ⟨b2, 0, none⟩) 2 2 else .slice none 0 0)).flatten
def choices1 : List (List UInt8) := [[110, 111, 114, 109, 97, 108], [115, 116, 117, 98], [110, 115, 115, 97]]
def choices2 : List (List UInt8) := [[98, 114, 111, 97, 100, 99, 97, 115, 116], [112, 111, 105, 110, 116, 45, 116, 111, 45, 112, 111, 105, 110, 116]]
theorem range_partM {w : World} {g : Nat} {L M : List Value} {o : Nat} (h : w.rangeAt g 0 L) (hm : ∀ j u, M[j]? = some u → L[o + j]? = some u) : w.rangeAt g o M := fun j u hu => by
  have := h (o + j) u (hm j u hu)
  simpa using this
theorem tableAt_of {B : Nat} {w : World} {g b1 b2 : Nat} (hB1 : B ≤ b1) (hB2 : B ≤ b2) (h : w.rangeAt g 0 (tableCells b1 b2)) (h1 : w.rangeAt b1 0 (choices1.map strv)) (h2 : w.rangeAt b2 0 (choices2.map strv)) : TableAt B w g := by
  intro i r hr
  have hi : i < 12 := (List.getElem?_eq_some_iff.1 hr).1
  have none_at : StrsAt w (.slice none 0 0) [] := ⟨none, 0, rfl, by simp⟩
  have none_b : ∀ k, (Value.slice none 0 0).ownBlock = some k → B ≤ k := fun k e => by cases e
  have b_at : ∀ b n c, B ≤ b → ∀ k, (Value.slice (some ⟨b, 0, none⟩) n c).ownBlock = some k → B ≤ k := fun b n c h k e => by
    have e : some b = some k := e
    injection e with e; omega
  match i, hi, hr with
  | 0, _, hr => (injection hr with hr; subst hr); exact ⟨_, range_partM (M := rowVals _ _) h (fun j u hu => by match j, hu with | 0, hu => exact hu | 1, hu => exact hu | 2, hu => exact hu | 3, hu => exact hu | 4, hu => exact hu | 5, hu => exact hu | 6, hu => exact hu | 7, hu => exact hu), none_at, none_b⟩
  | 1, _, hr => (injection hr with hr; subst hr); exact ⟨_, range_partM (M := rowVals _ _) h (fun j u hu => by match j, hu with | 0, hu => exact hu | 1, hu => exact hu | 2, hu => exact hu | 3, hu => exact hu | 4, hu => exact hu | 5, hu => exact hu | 6, hu => exact hu | 7, hu => exact hu), none_at, none_b⟩
  | 2, _, hr => (injection hr with hr; subst hr); exact ⟨_, range_partM (M := rowVals _ _) h (fun j u hu => by match j, hu with | 0, hu => exact hu | 1, hu => exact hu | 2, hu => exact hu | 3, hu => exact hu | 4, hu => exact hu | 5, hu => exact hu | 6, hu => exact hu | 7, hu => exact hu), ⟨some ⟨b1, 0, none⟩, 3, rfl, fun _ => ⟨b1, 0, rfl, h1⟩⟩, b_at b1 3 3 hB1⟩
  | 3, _, hr => (injection hr with hr; subst hr); exact ⟨_, range_partM (M := rowVals _ _) h (fun j u hu => by match j, hu with | 0, hu => exact hu | 1, hu => exact hu | 2, hu => exact hu | 3, hu => exact hu | 4, hu => exact hu | 5, hu => exact hu | 6, hu => exact hu | 7, hu => exact hu), none_at, none_b⟩
  | 4, _, hr => (injection hr with hr; subst hr); exact ⟨_, range_partM (M := rowVals _ _) h (fun j u hu => by match j, hu with | 0, hu => exact hu | 1, hu => exact hu | 2, hu => exact hu | 3, hu => exact hu | 4, hu => exact hu | 5, hu => exact hu | 6, hu => exact hu | 7, hu => exact hu), none_at, none_b⟩
  | 5, _, hr => (injection hr with hr; subst hr); exact ⟨_, range_partM (M := rowVals _ _) h (fun j u hu => by match j, hu with | 0, hu => exact hu | 1, hu => exact hu | 2, hu => exact hu | 3, hu => exact hu | 4, hu => exact hu | 5, hu => exact hu | 6, hu => exact hu | 7, hu => exact hu), none_at, none_b⟩
  | 6, _, hr => (injection hr with hr; subst hr); exact ⟨_, range_partM (M := rowVals _ _) h (fun j u hu => by match j, hu with | 0, hu => exact hu | 1, hu => exact hu | 2, hu => exact hu | 3, hu => exact hu | 4, hu => exact hu | 5, hu => exact hu | 6, hu => exact hu | 7, hu => exact hu), none_at, none_b⟩
  | 7, _, hr => (injection hr with hr; subst hr); exact ⟨_, range_partM (M := rowVals _ _) h (fun j u hu => by match j, hu with | 0, hu => exact hu | 1, hu => exact hu | 2, hu => exact hu | 3, hu => exact hu | 4, hu => exact hu | 5, hu => exact hu | 6, hu => exact hu | 7, hu => exact hu), none_at, none_b⟩
  | 8, _, hr => (injection hr with hr; subst hr); exact ⟨_, range_partM (M := rowVals _ _) h (fun j u hu => by match j, hu with | 0, hu => exact hu | 1, hu => exact hu | 2, hu => exact hu | 3, hu => exact hu | 4, hu => exact hu | 5, hu => exact hu | 6, hu => exact hu | 7, hu => exact hu), none_at, none_b⟩
  | 9, _, hr => (injection hr with hr; subst hr); exact ⟨_, range_partM (M := rowVals _ _) h (fun j u hu => by match j, hu with | 0, hu => exact hu | 1, hu => exact hu | 2, hu => exact hu | 3, hu => exact hu | 4, hu => exact hu | 5, hu => exact hu | 6, hu => exact hu | 7, hu => exact hu), ⟨some ⟨b2, 0, none⟩, 2, rfl, fun _ => ⟨b2, 0, rfl, h2⟩⟩, b_at b2 2 2 hB2⟩
  | 10, _, hr => (injection hr with hr; subst hr); exact ⟨_, range_partM (M := rowVals _ _) h (fun j u hu => by match j, hu with | 0, hu => exact hu | 1, hu => exact hu | 2, hu => exact hu | 3, hu => exact hu | 4, hu => exact hu | 5, hu => exact hu | 6, hu => exact hu | 7, hu => exact hu), none_at, none_b⟩
  | 11, _, hr => (injection hr with hr; subst hr); exact ⟨_, range_partM (M := rowVals _ _) h (fun j u hu => by match j, hu with | 0, hu => exact hu | 1, hu => exact hu | 2, hu => exact hu | 3, hu => exact hu | 4, hu => exact hu | 5, hu => exact hu | 6, hu => exact hu | 7, hu => exact hu), none_at, none_b⟩

def TablePost (w : World) (e : Ending) (w' : World) : Prop := ∃ g, e = .returned (.slice (some ⟨g, 0, none⟩) 12 12) ∧ w.heap.size ≤ g ∧ TableAt w.heap.size w' g ∧ Keeps (fun _ => False) w w'
theorem tablePost_of {w : World} {O1 O2 O3 : Array Value} (t1 t2 t3 : TypeId) (h1 : O1 = (choices1.map strv).toArray) (h2 : O2 = (choices2.map strv).toArray) (h3 : O3 = (tableCells w.heap.size (w.heap.size + 1)).toArray) :
    TablePost w (.returned (.slice (some ⟨w.heap.size + 2, 0, none⟩) 12 12)) (((w.alloc (.cells O1 t1)).alloc (.cells O2 t2)).alloc (.cells O3 t3)) := by
  have k1 : Keeps (fun _ => False) (w.alloc (.cells O1 t1)) (((w.alloc (.cells O1 t1)).alloc (.cells O2 t2)).alloc (.cells O3 t3)) := ((Keeps.refl _ _).alloc _).alloc _
  have k2 : Keeps (fun _ => False) ((w.alloc (.cells O1 t1)).alloc (.cells O2 t2)) (((w.alloc (.cells O1 t1)).alloc (.cells O2 t2)).alloc (.cells O3 t3)) := (Keeps.refl _ _).alloc _
  refine ⟨w.heap.size + 2, rfl, by omega, tableAt_of (b1 := w.heap.size) (b2 := w.heap.size + 1) (Nat.le_refl _) (by omega) ?_ ?_ ?_, (((Keeps.refl _ _).alloc _).alloc _).alloc _⟩
  · intro j u hu
    have := cells_new (w := (w.alloc (.cells O1 t1)).alloc (.cells O2 t2)) (n := w.heap.size + 2) (by simp) (tableCells w.heap.size (w.heap.size + 1)) t3 j u hu
    rw [Addr.add_mid] at this
    rw [h3]; exact this
  · refine k1.rangeAt ?_ id
    intro j u hu
    have := cells_new (w := w) (n := w.heap.size) rfl (choices1.map strv) t1 j u hu
    rw [Addr.add_mid] at this
    rw [h1]; exact this
  · refine k2.rangeAt ?_ id
    intro j u hu
    have := cells_new (w := w.alloc (.cells O1 t1)) (n := w.heap.size + 1) (by simp) (choices2.map strv) t2 j u hu
    rw [Addr.add_mid] at this
    rw [h2]; exact this
set_option maxRecDepth 100000 in
set_option maxHeartbeats 4000000 in
theorem table_any (w : World) : Calls Try.prog 36 #[] w (TablePost w) := by
  go_enter Try.func36, Try.ntmps36
  go_wp2
  go_ret
  exact tablePost_of _ _ _ rfl rfl rfl
end Go.Proofs.Ytdjmhjgfjbcdkaa
