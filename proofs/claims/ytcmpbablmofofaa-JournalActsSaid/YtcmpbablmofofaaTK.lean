/- Generic: steps through a region that draws its order; boxes and blocks of cells. -/
import Derived.Test.YtcmpbablmofofaaS
import Derived.Deep.RegionHeld3
namespace Go.Proofs.Ytcmpbablmofofaa
open Go.RowKit

/-! steps through a region that draws its order, the operation read off the list -/
section
variable {P : Program} {l : List Oper} {Q : Exit → Act → World → Prop} {md : Region.Mode} {S : World → Prop}
theorem takeL (i : Nat) {oi : Oper} {v : Value} {fuel : Nat} {listed : Array Bool} {a : Act} {w : World} (hi : l[i]? = some oi)
    (hs : Region.noSelect l.toArray = true) (hf : Region.free md l.toArray listed i = true) (hr : (Region.ready md l.toArray listed).contains i = true)
    (hQ : ∀ c a w, Q (.panic c) (a.put oi.dst v) w → Q (.panic c) a w) (hy : YieldsIf P l.toArray S oi v a) (hS : S w)
    (h : wpAnyH P md l.toArray Q S fuel (listed.setIfInBounds i true) (a.put oi.dst v) w) : wpAnyH P md l.toArray Q S (fuel + 1) listed a w :=
  wpAnyH_take (i := i) (by simpa using hi) hs hf hr hQ hy hS h
theorem sA {α : Type} {l : List α} {i : Nat} {a : α} : l.toArray.setIfInBounds i a = (l.set i a).toArray := List.setIfInBounds_toArray ..
theorem sZ {α : Type} {xs : List α} {b a : α} : (a :: xs).set 0 b = b :: xs := rfl
theorem sS {α : Type} {xs : List α} {n : Nat} {b a : α} : (a :: xs).set (n + 1) b = a :: xs.set n b := rfl
theorem tk (i : Nat) {oi : Oper} {v : Value} {fuel : Nat} {listed : Array Bool} {a a' : Act} {w : World} (hi : l[i]? = some oi) (h : wpAnyH P md l.toArray Q S fuel (listed.setIfInBounds i true) a' w)
    (hs : Region.noSelect l.toArray = true := by kernel_rfl) (hf : Region.free md l.toArray listed i = true := by kernel_rfl) (hr : (Region.ready md l.toArray listed).contains i = true := by kernel_rfl)
    (hw : Region.wanted oi (yielded l.toArray a.tmps) = true := by rfl) (hy : ∀ w, S w → (execOp a.eval oi).run P w = .ok (.value v) w := by (intro wS hSw; go_simp; try with_reducible rfl))
    (ha : a.put oi.dst v = a' := by (try simp only [Act.put, sA, sZ, sS]; rfl))
    (hQ : ∀ c a w, Q (.panic c) (a.put oi.dst v) w → Q (.panic c) a w := by exact fun _ _ _ h => h) (hS : S w := by assumption) : wpAnyH P md l.toArray Q S (fuel + 1) listed a w :=
  takeL i hi hs hf hr hQ (Or.inl ⟨hw, hy⟩) hS (by rw [ha]; exact h)
theorem tkS (i : Nat) {oi : Oper} {fuel : Nat} {listed : Array Bool} {a a' : Act} {w : World} (hi : l[i]? = some oi) (h : wpAnyH P md l.toArray Q S fuel (listed.setIfInBounds i true) a' w)
    (hs : Region.noSelect l.toArray = true := by kernel_rfl) (hf : Region.free md l.toArray listed i = true := by kernel_rfl) (hr : (Region.ready md l.toArray listed).contains i = true := by kernel_rfl)
    (hw : Region.wanted oi (yielded l.toArray a.tmps) = false := by rfl)
    (ha : a.put oi.dst undef = a' := by (try simp only [Act.put, sA, sZ, sS]; rfl))
    (hQ : ∀ c a w, Q (.panic c) (a.put oi.dst undef) w → Q (.panic c) a w := by exact fun _ _ _ h => h) (hS : S w := by assumption) : wpAnyH P md l.toArray Q S (fuel + 1) listed a w :=
  takeL i hi hs hf hr hQ (Or.inr ⟨hw, rfl⟩) hS (by rw [ha]; exact h)
theorem tkL (i : Nat) {oi : Oper} {v : Value} {fuel : Nat} {listed : Array Bool} {a a' : Act} {w : World} (hi : l[i]? = some oi) (hy : YieldsIf P l.toArray S oi v a) (h : wpAnyH P md l.toArray Q S fuel (listed.setIfInBounds i true) a' w)
    (hs : Region.noSelect l.toArray = true := by kernel_rfl) (hf : Region.free md l.toArray listed i = true := by kernel_rfl) (hr : (Region.ready md l.toArray listed).contains i = true := by kernel_rfl)
    (ha : a.put oi.dst v = a' := by (try simp only [Act.put, sA, sZ, sS]; rfl))
    (hQ : ∀ c a w, Q (.panic c) (a.put oi.dst v) w → Q (.panic c) a w := by exact fun _ _ _ h => h) (hS : S w := by assumption) : wpAnyH P md l.toArray Q S (fuel + 1) listed a w :=
  takeL i hi hs hf hr hQ hy hS (by rw [ha]; exact h)
theorem step2L (i j : Nat) {fuel : Nat} {listed : Array Bool} {a : Act} {w : World} {o u : Oper} (ho : l[i]? = some o) (hu : l[j]? = some u) (hr : Region.ready md l.toArray listed = [i, j])
    (h : ∀ K' : Act → World → Prop, Shut (∀ a w, S w → (S w → wpAnyH P md l.toArray Q S fuel (listed.setIfInBounds i true) a w) → K' a w) → if Region.wanted o (yielded l.toArray a.tmps) = true then Oper.wp P o a w K' Q else K' (a.put o.dst undef) w)
    (h2 : ∀ K' : Act → World → Prop, Shut (∀ a w, S w → (S w → wpAnyH P md l.toArray Q S fuel (listed.setIfInBounds j true) a w) → K' a w) → if Region.wanted u (yielded l.toArray a.tmps) = true then Oper.wp P u a w K' Q else K' (a.put u.dst undef) w) :
    wpAnyH P md l.toArray Q S (fuel + 1) listed a w :=
  wpAnyH_ready hr (by simp) (AllReadyH.cons (by simpa using ho) h (AllReadyH.cons (by simpa using hu) h2 AllReadyH.nil))
theorem stepL (i : Nat) {fuel : Nat} {listed : Array Bool} {a : Act} {w : World} {o : Oper} (ho : l[i]? = some o) (hr : Region.ready md l.toArray listed = [i])
    (h : ∀ K' : Act → World → Prop, Shut (∀ a w, S w → (S w → wpAnyH P md l.toArray Q S fuel (listed.setIfInBounds i true) a w) → K' a w) → if Region.wanted o (yielded l.toArray a.tmps) = true then Oper.wp P o a w K' Q else K' (a.put o.dst undef) w) :
    wpAnyH P md l.toArray Q S (fuel + 1) listed a w :=
  wpAnyH_ready hr (by simp) (AllReadyH.cons (by simpa using ho) h AllReadyH.nil)
end

theorem heap_put {w : World} {b : Nat} {cs : Array Value} {t : TypeId} (h : w.heap[b]? = some (.cells cs t (0, 0))) (o : Nat) (v : Value) : (w.setCell ⟨b, o, none⟩ v).heap[b]? = some (.cells (cs.setIfInBounds o v) t (0, 0)) :=
  heap_setCell_same w b o cs t v h
theorem rangeAt_cell {w : World} {g : Nat} {cs : List Value} (h : w.rangeAt g 0 cs) (j : Nat) (v : Value) (hv : cs[j]? = some v) : w.cell? ⟨g, j, none⟩ = some v := by
  have := h j v hv; rwa [Nat.zero_add] at this
theorem yieldsIf_load_cell {P : Program} {ops : Array Oper} {S : World → Prop} {op : Oper} {a : Act} (hw : Region.wanted op (yielded ops a.tmps) = true) (ty : TypeId) (x : Operand) (ho : op.op = .load ty x)
    (b o : Nat) (hx : a.eval x = .pointer (some ⟨b, o, none⟩)) (v : Value) (hS : ∀ w, S w → w.cell? ⟨b, o, none⟩ = some v)
    (hl : ∀ w, w.cell? ⟨b, o, none⟩ = some v → (loadVar ty ⟨b, o, none⟩).run P w = .ok v w) : YieldsIf P ops S op v a :=
  .inl ⟨hw, fun w hw' => by
    unfold execOp
    simp only [ho, hx, Instr.loadAt, Instr.sureAddr, Sem.run_bind, Sem.run_pure, Result.andThen_ok, hl w (hS w hw')]⟩
/-- a box of cells, and what was there, are as they were -/
structure Boxed (B : Nat) (cs : List Value) (w0 W : World) : Prop where
  r : W.rangeAt B 0 cs
  k : Keeps (fun _ => False) w0 W
theorem Boxed.next {B : Nat} {cs : List Value} {w0 W W' : World} (s : Boxed B cs w0 W) (k : Keeps (fun _ => False) W W') : Boxed B cs w0 W' := ⟨k.rangeAt s.r id, s.k.trans k⟩
theorem Boxed.cell {B : Nat} {cs : List Value} {w0 W : World} (s : Boxed B cs w0 W) (j : Nat) (v : Value) (h : cs[j]? = some v) : W.cell? ⟨B, j, none⟩ = some v := by
  have := s.r j v h; rwa [Nat.zero_add] at this
theorem new_rangeb (w : World) (L : List Value) (t : TypeId) : (w.alloc (.cells L.toArray t)).rangeAt w.heap.size 0 L := fun j u hu => by
  have := cells_new (w := w) (n := w.heap.size) rfl L t j u hu
  rw [Addr.add_mid] at this; exact this
theorem boxed_new0 (w : World) (cs : List Value) (t : TypeId) : Boxed w.heap.size cs (w.alloc (.cells cs.toArray t)) (w.alloc (.cells cs.toArray t)) := ⟨fun j u hu => by
  have := cells_new (w := w) (n := w.heap.size) rfl cs t j u hu
  rw [Addr.add_mid] at this; exact this, Keeps.refl _ _⟩
theorem boxed_new (w : World) (cs : List Value) (t : TypeId) : Boxed w.heap.size cs w (w.alloc (.cells cs.toArray t)) := ⟨fun j u hu => by
  have := cells_new (w := w) (n := w.heap.size) rfl cs t j u hu
  rw [Addr.add_mid] at this; exact this, (Keeps.refl _ _).alloc _⟩
/-- a block that is these cells -/
def BlkAt (W : World) (B : Nat) (t : TypeId) (cs : List Value) : Prop := W.heap[B]? = some (.cells cs.toArray t (0, 0))
theorem BlkAt.keep {F : Nat → Prop} {w w' : World} {g : Nat} {t : TypeId} {x : List Value} (h : BlkAt w g t x) (k : Keeps F w w') (hF : ¬ F g) : BlkAt w' g t x := by
  unfold BlkAt; rw [k.block g (lt_of_block h) hF]; exact h
theorem BlkAt.range {w : World} {g : Nat} {t : TypeId} {x : List Value} (h : BlkAt w g t x) : w.rangeAt g 0 x := fun j u hu => by
  have h : w.heap[g]? = _ := h
  simp [World.cell?, h]; simpa using hu
theorem BlkAt.rng {w : World} {g : Nat} {t : TypeId} {x y : List Value} (h : BlkAt w g t x) (e : x = y) : w.rangeAt g 0 y := by rw [← e]; exact h.range
theorem BlkAt.cell {w : World} {g : Nat} {t : TypeId} {x : List Value} (h : BlkAt w g t x) (j : Nat) (v : Value) (hv : x[j]? = some v) : w.cell? ⟨g, j, none⟩ = some v := rangeAt_cell h.range j v hv
theorem BlkAt.frozen {w : World} {g : Nat} {t : TypeId} {x : List Value} (h : BlkAt w g t x) (o : Nat) : w.frozen? ⟨g, o, none⟩ = false := by
  have h : w.heap[g]? = _ := h
  simp [World.frozen?, h]
theorem BlkAt.set {w : World} {g : Nat} {t : TypeId} {x : List Value} (h : BlkAt w g t x) (i : Nat) (v : Value) : BlkAt (w.setCell ⟨g, i, none⟩ v) g t (x.set i v) := by
  unfold BlkAt
  rw [heap_put h]
  simp
theorem BlkAt.there {w : World} {g : Nat} {t : TypeId} {x : List Value} (h : BlkAt w g t x) (o n : Nat) (hn : o + n ≤ x.length) : w.there g o n := fun j hj => by
  have h : w.heap[g]? = _ := h
  refine ⟨?_, ?_⟩
  · simp [World.cell?, h]; omega
  · simp [World.frozen?, h]
theorem BlkAt.new (w : World) (t : TypeId) (x : List Value) : BlkAt (w.alloc (.cells x.toArray t)) w.heap.size t x := heap_alloc_last w _
theorem BlkAt.alloc {w : World} {g : Nat} {t : TypeId} {x : List Value} (h : BlkAt w g t x) (o : Obj) : BlkAt (w.alloc o) g t x := h.keep ((Keeps.refl (fun _ => False) w).alloc o) id
theorem wpList_store_blk {P : Program} {ops : Array Oper} {rest : List Oper} {op : Oper} {a : Act} {w : World} {Q : Exit → Act → World → Prop} (hgd : op.guard = none) (ty : TypeId) (x y : Operand) (ho : op.op = .store ty x y)
    (b : Nat) (cells : Array Value) (hx : a.eval x = .pointer (some ⟨b, 0, none⟩)) (hy : a.eval y = .agg cells)
    (ht : w.there b 0 cells.size) (hi : (P.info? ty).map (·.size) = some cells.size) (h1 : cells.all (·.oneCell') = true)
    (h : ∀ w1, Hid (w1.rangeAt b 0 cells.toList) → Hid (Keeps (fun i => i = b) w w1) → wpList P ops Q rest (a.put op.dst undef) w1) : wpList P ops Q (op :: rest) a w :=
  wpList_store_mid hgd ty x y ho b 0 cells hx hy ht hi h1 (h _ (Lib.hid (World.rangeAt_setCells_same _ _ _ _ (by simpa using ht))) (Lib.hid (Keeps.setCells (F := fun i => i = b) (.inl rfl) _ _ _ (Keeps.refl _ _))))
theorem slice_one (p : Option Addr) (n c : Nat) : (Value.slice p n c).oneCell' = true := rfl
/-- a guarded load of a struct -/
theorem wpList_load_mid_gd {P : Program} {ops : Array Oper} {rest : List Oper} {op : Oper} {a : Act} {w : World} {Q : Exit → Act → World → Prop} (hgd : Region.wanted op (yielded ops a.tmps) = true) (ty : TypeId) (x : Operand) (ho : op.op = .load ty x)
    (b o : Nat) (hx : a.eval x = .pointer (some ⟨b, o, none⟩)) (cs : List Value) (d : TypeDesc) (hc : w.rangeAt b o cs)
    (hu : P.underlying ty = some d) (hd : d.isRow = true) (hi : (P.info? ty).map (·.size) = some cs.length)
    (h : wpList P ops Q rest (a.put op.dst (.agg cs.toArray)) w) : wpList P ops Q (op :: rest) a w :=
  wpList_step fun K hK => by rw [if_pos hgd]; exact wp_load_mid ty x ho b o hx cs d hc hu hd hi (hK _ _ h)
end Go.Proofs.Ytcmpbablmofofaa
