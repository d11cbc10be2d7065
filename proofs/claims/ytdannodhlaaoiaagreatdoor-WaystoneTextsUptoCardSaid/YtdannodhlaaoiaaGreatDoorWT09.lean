/- Generic: steps through a region that draws its order; boxes and blocks of cells. -/
import Derived.Test.YtdannodhlaaoiaaGreatDoorWT01
import Derived.Deep.RegionHeld3
import Derived.Test.YtdannodhlaaoiaaGreatDoorWT08
set_option linter.unusedVariables false
set_option linter.unusedSimpArgs false
namespace Go.Proofs.YtdannodhlaaoiaaGreatDoor
open Go.RowKit

/-! steps through a region that draws its order, the operation read off the list -/
section
variable {P : Program} {l : List Oper} {Q : Exit → Act → World → Prop} {md : Region.Mode} {S : World → Prop}
theorem takeL (i : Nat) {oi : Oper} {v : Value} {fuel : Nat} {listed : Array Bool} {a : Act} {w : World} (hi : l[i]? = some oi)
    (hs : Region.noSelect l.toArray = true) (hf : Region.free md l.toArray listed i = true) (hr : (Region.ready md l.toArray listed).contains i = true)
    (hQ : ∀ c a w, Q (.panic c) (a.put oi.dst v) w → Q (.panic c) a w) (hy : YieldsIf P l.toArray S oi v a) (hS : S w)
    (h : wpAnyH P md l.toArray Q S fuel (listed.setIfInBounds i true) (a.put oi.dst v) w) : wpAnyH P md l.toArray Q S (fuel + 1) listed a w :=
  wpAnyH_take (i := i) (by simpa using hi) hs hf hr hQ hy hS h
theorem sA {α : Type} {l : List α} {i : Nat} {a : α} : l.toArray.setIfInBounds i a = (l.set i a).toArray := List.setIfInBounds_toArray ..
theorem sZ {α : Type} {xs : List α} {b a : α} : (a :: xs).set 0 b = b :: xs := rfl
theorem sS {α : Type} {xs : List α} {n : Nat} {b a : α} : (a :: xs).set (n + 1) b = a :: xs.set n b := rfl
theorem tk (i : Nat) {oi : Oper} {v : Value} {fuel : Nat} {listed : Array Bool} {a a' : Act} {w : World} (hi : l[i]? = some oi) (h : wpAnyH P md l.toArray Q S fuel (listed.setIfInBounds i true) a' w)
    (hs : Region.noSelect l.toArray = true := by kernel_rfl) (hf : Region.free md l.toArray listed i = true := by kernel_rfl) (hr : (Region.ready md l.toArray listed).contains i = true := by kernel_rfl)
    (hw : Region.wanted oi (yielded l.toArray a.tmps) = true := by rfl) (hy : ∀ w, S w → (execOp a.eval oi).run P w = .ok (.value v) w := by (intro wS hSw; go_simp; try with_reducible rfl))
    (ha : a.put oi.dst v = a' := by (try simp only [Act.put, sA, sZ, sS]; rfl))
    (hQ : ∀ c a w, Q (.panic c) (a.put oi.dst v) w → Q (.panic c) a w := by exact fun _ _ _ h => h) (hS : S w := by assumption) : wpAnyH P md l.toArray Q S (fuel + 1) listed a w :=
  takeL i hi hs hf hr hQ (Or.inl ⟨hw, hy⟩) hS (by rw [ha]; exact h)
theorem tkS (i : Nat) {oi : Oper} {fuel : Nat} {listed : Array Bool} {a a' : Act} {w : World} (hi : l[i]? = some oi) (h : wpAnyH P md l.toArray Q S fuel (listed.setIfInBounds i true) a' w)
    (hs : Region.noSelect l.toArray = true := by kernel_rfl) (hf : Region.free md l.toArray listed i = true := by kernel_rfl) (hr : (Region.ready md l.toArray listed).contains i = true := by kernel_rfl)
    (hw : Region.wanted oi (yielded l.toArray a.tmps) = false := by rfl)
    (ha : a.put oi.dst undef = a' := by (try simp only [Act.put, sA, sZ, sS]; rfl))
    (hQ : ∀ c a w, Q (.panic c) (a.put oi.dst undef) w → Q (.panic c) a w := by exact fun _ _ _ h => h) (hS : S w := by assumption) : wpAnyH P md l.toArray Q S (fuel + 1) listed a w :=
  takeL i hi hs hf hr hQ (Or.inr ⟨hw, rfl⟩) hS (by rw [ha]; exact h)
theorem tkL (i : Nat) {oi : Oper} {v : Value} {fuel : Nat} {listed : Array Bool} {a a' : Act} {w : World} (hi : l[i]? = some oi) (hy : YieldsIf P l.toArray S oi v a) (h : wpAnyH P md l.toArray Q S fuel (listed.setIfInBounds i true) a' w)
    (hs : Region.noSelect l.toArray = true := by kernel_rfl) (hf : Region.free md l.toArray listed i = true := by kernel_rfl) (hr : (Region.ready md l.toArray listed).contains i = true := by kernel_rfl)
    (ha : a.put oi.dst v = a' := by (try simp only [Act.put, sA, sZ, sS]; rfl))
    (hQ : ∀ c a w, Q (.panic c) (a.put oi.dst v) w → Q (.panic c) a w := by exact fun _ _ _ h => h) (hS : S w := by assumption) : wpAnyH P md l.toArray Q S (fuel + 1) listed a w :=
  takeL i hi hs hf hr hQ hy hS (by rw [ha]; exact h)
theorem step2L (i j : Nat) {fuel : Nat} {listed : Array Bool} {a : Act} {w : World} {o u : Oper} (ho : l[i]? = some o) (hu : l[j]? = some u) (hr : Region.ready md l.toArray listed = [i, j])
    (h : ∀ K' : Act → World → Prop, Shut (∀ a w, S w → (S w → wpAnyH P md l.toArray Q S fuel (listed.setIfInBounds i true) a w) → K' a w) → if Region.wanted o (yielded l.toArray a.tmps) = true then Oper.wp P o a w K' Q else K' (a.put o.dst undef) w)
    (h2 : ∀ K' : Act → World → Prop, Shut (∀ a w, S w → (S w → wpAnyH P md l.toArray Q S fuel (listed.setIfInBounds j true) a w) → K' a w) → if Region.wanted u (yielded l.toArray a.tmps) = true then Oper.wp P u a w K' Q else K' (a.put u.dst undef) w) :
    wpAnyH P md l.toArray Q S (fuel + 1) listed a w :=
  wpAnyH_ready hr (by simp) (AllReadyH.cons (by simpa using ho) h (AllReadyH.cons (by simpa using hu) h2 AllReadyH.nil))
theorem stepL (i : Nat) {fuel : Nat} {listed : Array Bool} {a : Act} {w : World} {o : Oper} (ho : l[i]? = some o) (hr : Region.ready md l.toArray listed = [i])
    (h : ∀ K' : Act → World → Prop, Shut (∀ a w, S w → (S w → wpAnyH P md l.toArray Q S fuel (listed.setIfInBounds i true) a w) → K' a w) → if Region.wanted o (yielded l.toArray a.tmps) = true then Oper.wp P o a w K' Q else K' (a.put o.dst undef) w) :
    wpAnyH P md l.toArray Q S (fuel + 1) listed a w :=
  wpAnyH_ready hr (by simp) (AllReadyH.cons (by simpa using ho) h AllReadyH.nil)
end

theorem heap_put {w : World} {b : Nat} {cs : Array Value} {t : TypeId} (h : w.heap[b]? = some (.cells cs t (0, 0))) (o : Nat) (v : Value) : (w.setCell ⟨b, o, none⟩ v).heap[b]? = some (.cells (cs.setIfInBounds o v) t (0, 0)) :=
  heap_setCell_same w b o cs t v h
theorem rangeAt_cell {w : World} {g : Nat} {cs : List Value} (h : w.rangeAt g 0 cs) (j : Nat) (v : Value) (hv : cs[j]? = some v) : w.cell? ⟨g, j, none⟩ = some v := by
  have := h j v hv; rwa [Nat.zero_add] at this
theorem yieldsIf_load_cell {P : Program} {ops : Array Oper} {S : World → Prop} {op : Oper} {a : Act} (hw : Region.wanted op (yielded ops a.tmps) = true) (ty : TypeId) (x : Operand) (ho : op.op = .load ty x)
    (b o : Nat) (hx : a.eval x = .pointer (some ⟨b, o, none⟩)) (v : Value) (hS : ∀ w, S w → w.cell? ⟨b, o, none⟩ = some v)
    (hl : ∀ w, w.cell? ⟨b, o, none⟩ = some v → (loadVar ty ⟨b, o, none⟩).run P w = .ok v w) : YieldsIf P ops S op v a :=
  .inl ⟨hw, fun w hw' => by
    unfold execOp
    simp only [ho, hx, Instr.loadAt, Instr.sureAddr, Sem.run_bind, Sem.run_pure, Result.andThen_ok, hl w (hS w hw')]⟩
/-- a box of cells, and what was there, are as they were -/
structure Boxed (B : Nat) (cs : List Value) (w0 W : World) : Prop where
  r : W.rangeAt B 0 cs
  k : Keeps (fun _ => False) w0 W
theorem Boxed.next {B : Nat} {cs : List Value} {w0 W W' : World} (s : Boxed B cs w0 W) (k : Keeps (fun _ => False) W W') : Boxed B cs w0 W' := ⟨k.rangeAt s.r id, s.k.trans k⟩
theorem Boxed.cell {B : Nat} {cs : List Value} {w0 W : World} (s : Boxed B cs w0 W) (j : Nat) (v : Value) (h : cs[j]? = some v) : W.cell? ⟨B, j, none⟩ = some v := by
  have := s.r j v h; rwa [Nat.zero_add] at this
theorem new_rangeb (w : World) (L : List Value) (t : TypeId) : (w.alloc (.cells L.toArray t)).rangeAt w.heap.size 0 L := fun j u hu => by
  have := cells_new (w := w) (n := w.heap.size) rfl L t j u hu
  rw [Addr.add_mid] at this; exact this
theorem boxed_new0 (w : World) (cs : List Value) (t : TypeId) : Boxed w.heap.size cs (w.alloc (.cells cs.toArray t)) (w.alloc (.cells cs.toArray t)) := ⟨fun j u hu => by
  have := cells_new (w := w) (n := w.heap.size) rfl cs t j u hu
  rw [Addr.add_mid] at this; exact this, Keeps.refl _ _⟩
theorem boxed_new (w : World) (cs : List Value) (t : TypeId) : Boxed w.heap.size cs w (w.alloc (.cells cs.toArray t)) := ⟨fun j u hu => by
  have := cells_new (w := w) (n := w.heap.size) rfl cs t j u hu
  rw [Addr.add_mid] at this; exact this, (Keeps.refl _ _).alloc _⟩
/-- a block that is these cells -/
def BlkAt (W : World) (B : Nat) (t : TypeId) (cs : List Value) : Prop := W.heap[B]? = some (.cells cs.toArray t (0, 0))
theorem BlkAt.keep {F : Nat → Prop} {w w' : World} {g : Nat} {t : TypeId} {x : List Value} (h : BlkAt w g t x) (k : Keeps F w w') (hF : ¬ F g) : BlkAt w' g t x := by
  unfold BlkAt; rw [k.block g (lt_of_block h) hF]; exact h
theorem BlkAt.range {w : World} {g : Nat} {t : TypeId} {x : List Value} (h : BlkAt w g t x) : w.rangeAt g 0 x := fun j u hu => by
  have h : w.heap[g]? = _ := h
  simp [World.cell?, h]; simpa using hu
theorem BlkAt.rng {w : World} {g : Nat} {t : TypeId} {x y : List Value} (h : BlkAt w g t x) (e : x = y) : w.rangeAt g 0 y := by rw [← e]; exact h.range
theorem BlkAt.cell {w : World} {g : Nat} {t : TypeId} {x : List Value} (h : BlkAt w g t x) (j : Nat) (v : Value) (hv : x[j]? = some v) : w.cell? ⟨g, j, none⟩ = some v := rangeAt_cell h.range j v hv
theorem BlkAt.frozen {w : World} {g : Nat} {t : TypeId} {x : List Value} (h : BlkAt w g t x) (o : Nat) : w.frozen? ⟨g, o, none⟩ = false := by
  have h : w.heap[g]? = _ := h
  simp [World.frozen?, h]
theorem BlkAt.set {w : World} {g : Nat} {t : TypeId} {x : List Value} (h : BlkAt w g t x) (i : Nat) (v : Value) : BlkAt (w.setCell ⟨g, i, none⟩ v) g t (x.set i v) := by
  unfold BlkAt
  rw [heap_put h]
  simp
theorem BlkAt.there {w : World} {g : Nat} {t : TypeId} {x : List Value} (h : BlkAt w g t x) (o n : Nat) (hn : o + n ≤ x.length) : w.there g o n := fun j hj => by
  have h : w.heap[g]? = _ := h
  refine ⟨?_, ?_⟩
  · simp [World.cell?, h]; omega
  · simp [World.frozen?, h]
theorem BlkAt.new (w : World) (t : TypeId) (x : List Value) : BlkAt (w.alloc (.cells x.toArray t)) w.heap.size t x := heap_alloc_last w _
theorem BlkAt.alloc {w : World} {g : Nat} {t : TypeId} {x : List Value} (h : BlkAt w g t x) (o : Obj) : BlkAt (w.alloc o) g t x := h.keep ((Keeps.refl (fun _ => False) w).alloc o) id
theorem wpList_store_blk {P : Program} {ops : Array Oper} {rest : List Oper} {op : Oper} {a : Act} {w : World} {Q : Exit → Act → World → Prop} (hgd : op.guard = none) (ty : TypeId) (x y : Operand) (ho : op.op = .store ty x y)
    (b : Nat) (cells : Array Value) (hx : a.eval x = .pointer (some ⟨b, 0, none⟩)) (hy : a.eval y = .agg cells)
    (ht : w.there b 0 cells.size) (hi : (P.info? ty).map (·.size) = some cells.size) (h1 : cells.all (·.oneCell') = true)
    (h : ∀ w1, Hid (w1.rangeAt b 0 cells.toList) → Hid (Keeps (fun i => i = b) w w1) → wpList P ops Q rest (a.put op.dst undef) w1) : wpList P ops Q (op :: rest) a w :=
  wpList_store_mid hgd ty x y ho b 0 cells hx hy ht hi h1 (h _ (Lib.hid (World.rangeAt_setCells_same _ _ _ _ (by simpa using ht))) (Lib.hid (Keeps.setCells (F := fun i => i = b) (.inl rfl) _ _ _ (Keeps.refl _ _))))
theorem slice_one (p : Option Addr) (n c : Nat) : (Value.slice p n c).oneCell' = true := rfl
/-- a guarded load of a struct -/
theorem wpList_load_mid_gd {P : Program} {ops : Array Oper} {rest : List Oper} {op : Oper} {a : Act} {w : World} {Q : Exit → Act → World → Prop} (hgd : Region.wanted op (yielded ops a.tmps) = true) (ty : TypeId) (x : Operand) (ho : op.op = .load ty x)
    (b o : Nat) (hx : a.eval x = .pointer (some ⟨b, o, none⟩)) (cs : List Value) (d : TypeDesc) (hc : w.rangeAt b o cs)
    (hu : P.underlying ty = some d) (hd : d.isRow = true) (hi : (P.info? ty).map (·.size) = some cs.length)
    (h : wpList P ops Q rest (a.put op.dst (.agg cs.toArray)) w) : wpList P ops Q (op :: rest) a w :=
  wpList_step fun K hK => by rw [if_pos hgd]; exact wp_load_mid ty x ho b o hx cs d hc hu hd hi (hK _ _ h)
end Go.Proofs.YtdannodhlaaoiaaGreatDoor
/- canBe, walked. -/
namespace Go.Proofs.YtdannodhlaaoiaaGreatDoor
open Go.RowKit

theorem load_int (w : World) (b o : Nat) (v : Value) (h : w.cell? ⟨b, o, none⟩ = some v) : (loadVar 3 ⟨b, o, none⟩).run Tryz.prog w = .ok v w := by
  simp [go_sem, h]
theorem load_str (w : World) (b o : Nat) (v : Value) (h : w.cell? ⟨b, o, none⟩ = some v) : (loadVar 9 ⟨b, o, none⟩).run Tryz.prog w = .ok v w := by
  simp [go_sem, h]
/-- may a line be -/
def lineB (l : LineD) : Bool := match findD l.head l.leaf with
  | some r => namedB l.head l.name && rightB r.kind r.lo r.hi r.cs l.value
  | none => false
/-- what the region of a found row keeps -/
structure CanS (g o : Nat) (L : List Value) (p : Option Addr) (n c : Nat) (cs : List (List UInt8)) (B : Nat) (h : Int) (N F V : ByteArray) (w0 W : World) : Prop where
  r : W.rangeAt g o L
  s : StrsAt W (.slice p n c) cs
  b0 : W.cell? ⟨B, 0, none⟩ = some (.int .i64 h)
  b1 : W.cell? ⟨B, 1, none⟩ = some (.string N)
  b2 : W.cell? ⟨B, 2, none⟩ = some (.string F)
  b3 : W.cell? ⟨B, 3, none⟩ = some (.string V)
  k : Keeps (fun _ => False) w0 W
theorem CanS.next {g o : Nat} {L : List Value} {p : Option Addr} {n c : Nat} {cs : List (List UInt8)} {B : Nat} {h : Int} {N F V : ByteArray} {w0 W W' : World} (s : CanS g o L p n c cs B h N F V w0 W) (k : Keeps (fun _ => False) W W') : CanS g o L p n c cs B h N F V w0 W' :=
  ⟨k.rangeAt s.r id, s.s.keep k (fun _ _ _ f => f), (k.cell (p := ⟨B, 0, none⟩) (World.block_lt_of_cell? W _ s.b0) id).trans s.b0, (k.cell (p := ⟨B, 1, none⟩) (World.block_lt_of_cell? W _ s.b1) id).trans s.b1, (k.cell (p := ⟨B, 2, none⟩) (World.block_lt_of_cell? W _ s.b2) id).trans s.b2, (k.cell (p := ⟨B, 3, none⟩) (World.block_lt_of_cell? W _ s.b3) id).trans s.b3, s.k.trans k⟩

set_option maxRecDepth 100000 in
set_option maxHeartbeats 4000000 in
theorem canBe_any (h : Int) (N F V : ByteArray) (g Bt : Nat) (z : Bool) (w : World) (hn : N.size ≤ 9223372036854775807) (hv : V.size ≤ 9223372036854775807) (ht : Hid (TableAt Bt w g))
    (hz : Hid (lineB ⟨h, N.data.toList, F.data.toList, V.data.toList⟩ = z)) :
    Calls Tryz.prog 57 #[.agg #[.int .i64 h, .string N, .string F, .string V], .slice (some ⟨g, 0, none⟩) 12 12] w (NewRes (.bool z) w) := by
  go_enter Tryz.func57, Tryz.ntmps57
  go_wp2
  go_loopw [8] (fun i wr => ∃ k : Nat, k ≤ 12 ∧ i = .int .i64 k ∧ Hid (∀ (i : Nat) (q : RowD), i < k → tableD[i]? = some q → ¬ (q.head = h ∧ q.name = F.data.toList)) ∧ Hid (∃ m, wr = (w.alloc (.cells #[.int .i64 h, .string N, .string F, .string V] 50)).drewN m)) (fun i _ => 12 - (intOf i).toNat)
  case atStart => exact ⟨0, by omega, rfl, Lib.hid (fun _ _ h => by omega), Lib.hid ⟨0, rfl⟩⟩
  case round =>
    obtain ⟨k, hk12, rfl, hno, hm⟩ := hrel
    have b0 : wr.cell? ⟨w.heap.size, 0, none⟩ = some (.int .i64 h) := by obtain ⟨m, rfl⟩ := hm.out; simp [go_sem]
    have b1 : wr.cell? ⟨w.heap.size, 1, none⟩ = some (.string N) := by obtain ⟨m, rfl⟩ := hm.out; simp [go_sem]
    have b2 : wr.cell? ⟨w.heap.size, 2, none⟩ = some (.string F) := by obtain ⟨m, rfl⟩ := hm.out; simp [go_sem]
    have b3 : wr.cell? ⟨w.heap.size, 3, none⟩ = some (.string V) := by obtain ⟨m, rfl⟩ := hm.out; simp [go_sem]
    have kw : Keeps (fun _ => False) w wr := by obtain ⟨m, rfl⟩ := hm.out; exact ((Keeps.refl _ _).alloc _).drewN m
    by_cases hlt : k < 12
    · obtain ⟨r, hr⟩ : ∃ r, tableD[k]? = some r := ⟨_, List.getElem?_eq_getElem (show k < tableD.length from hlt)⟩
      obtain ⟨cv, hrange, hcs, -⟩ := (ht.out.keep kw) k r hr
      obtain ⟨p, cc, rfl, hcs0⟩ := hcs
      obtain ⟨Nm, hNm⟩ : ∃ Nm : ByteArray, Nm = ⟨r.name.toArray⟩ := ⟨_, rfl⟩
      obtain ⟨Df, hDf⟩ : ∃ Df : ByteArray, Df = ⟨r.df.toArray⟩ := ⟨_, rfl⟩
      have hra : wr.rangeAt g (k * 8) [.int .i64 r.head, .string Nm, .int .i64 r.kind, .int .i64 r.lo, .int .i64 r.hi, .slice p r.cs.length cc, .string Df, .int .i64 r.cl] := by rw [hNm, hDf]; exact hrange
      have a0 : wr.cell? ⟨g, k * 8, none⟩ = some (.int .i64 r.head) := hra 0 _ rfl
      have a1 : wr.cell? ⟨g, k * 8 + 1, none⟩ = some (.string Nm) := hra 1 _ rfl
      have hS0 : Hid (CanS g (k * 8) [.int .i64 r.head, .string Nm, .int .i64 r.kind, .int .i64 r.lo, .int .i64 r.hi, .slice p r.cs.length cc, .string Df, .int .i64 r.cl] p r.cs.length cc r.cs w.heap.size h N F V wr wr) := Lib.hid ⟨hra, ⟨p, cc, rfl, hcs0⟩, b0, b1, b2, b3, Keeps.refl _ _⟩
      have hNl : Nm.toList = r.name := by rw [hNm, Lib.toList_data]
      have hcl : r.cs.length ≤ 1000 := by
        have : ∀ q ∈ tableD, q.cs.length ≤ 1000 := by decide
        exact this r (List.mem_of_getElem? hr)
      have hr' := Lib.hid hr; have kw' := Lib.hid kw
      clear hra hrange hcs0 hNm hDf hr kw
      by_cases hh : r.head = h
      · have e1 : (r.head == h) = true := by simpa using hh
        by_cases hn2 : r.name = F.data.toList
        · have e2 : (Nm.toList == F.toList) = true := by rw [hNl, Lib.toList_data, hn2]; simp
          have hfr := find_step hr'.out hno.out ⟨hh, hn2⟩
          have hzz := hz.out
          unfold lineB at hzz
          simp only [hfr] at hzz
          have hzz' := Lib.hid hzz; clear hzz hfr hh hn2
          have hNl' := Lib.hid hNl; clear hNl
          go_wp2
          go_quiet (fail)
          go_wp2
          obtain ⟨zn, hzn⟩ : ∃ zn, namedB h N.data.toList = zn := ⟨_, rfl⟩
          obtain ⟨zr, hzr⟩ : ∃ zr, rightB r.kind r.lo r.hi r.cs V.data.toList = zr := ⟨_, rfl⟩
          have hzq : (zn && zr) = z := by rw [← hzz'.out, hzn, hzr]
          have hzn' := Lib.hid hzn; have hzr' := Lib.hid hzr
          clear hzn hzr
          cases zn with
          | true =>
            have hz2 : zr = z := hzq
            clear hzq
            subst hz2
            refine wp_region_noPanic ?_
            refine wp_region_held_drew (S := (fun W => CanS g (k * 8) [.int .i64 r.head, .string Nm, .int .i64 r.kind, .int .i64 r.lo, .int .i64 r.hi, .slice p r.cs.length cc, .string Df, .int .i64 r.cl] p r.cs.length cc r.cs w.heap.size h N F V wr W)) (by kernel_rfl) (hS0.out.next (((Keeps.refl _ _).drewN nq).drew)) (fun hHeld => ?_)
            refine tk 0 rfl ?_
            refine tkL 1 rfl (yieldsIf_load_cell (by rfl) 3 (.tmp 29) rfl w.heap.size 0 rfl _ (fun _ s => s.b0) (fun w s => load_int w _ _ _ s)) ?_
            refine tk 2 rfl ?_
            refine tkL 3 rfl (yieldsIf_load_cell (by rfl) 9 (.tmp 31) rfl w.heap.size 1 rfl _ (fun _ s => s.b1) (fun w s => load_str w _ _ _ s)) ?_
            refine stepL 4 rfl (by kernel_rfl) (fun K hK => ?_)
            go_simp
            (refine (named_any h N true _ hn hzn').mono ?_; rintro e w4 ⟨rfl, m4, rfl⟩)
            go_wp2_with fail
            refine hK.out _ _ (hHeld.next ⟨rfl, rfl, rfl, Nat.le_refl _, fun _ _ _ => rfl⟩) (fun hHeld => ?_)
            clear hK K
            try simp only [Act.put, sA, sZ, sS]
            refine tk 5 rfl ?_
            refine tk 6 rfl ?_
            refine tk 7 rfl ?_
            refine tk 8 rfl ?_
            refine tkL 9 rfl (yieldsIf_load_mid (by rfl) 155 (.tmp 37) rfl g (k * 8) rfl [.int .i64 r.head, .string Nm, .int .i64 r.kind, .int .i64 r.lo, .int .i64 r.hi, .slice p r.cs.length cc, .string Df, .int .i64 r.cl] _ (fun _ s => s.r) Tryz.underlying155 rfl rowInfo) ?_
            refine tk 10 rfl ?_
            refine tkL 11 rfl (yieldsIf_load_cell (by rfl) 9 (.tmp 39) rfl w.heap.size 3 rfl _ (fun _ s => s.b3) (fun w s => load_str w _ _ _ s)) ?_
            refine stepL 12 rfl (by kernel_rfl) (fun K hK => ?_)
            go_simp
            (refine (right_any r.head Nm Df r.kind r.lo r.hi r.cl p cc r.cs V zr _ hv hcl (Lib.hid hHeld.s) hzr').mono ?_; rintro e w5 ⟨rfl, hk5⟩)
            go_wp2_with fail
            refine hK.out _ _ (hHeld.next hk5) (fun hHeld => ?_)
            clear hK K
            try simp only [Act.put, sA, sZ, sS]
            refine tk 13 rfl ?_
            refine tk 14 rfl ?_
            refine wpAnyH_done (by kernel_rfl) (NoPanic.normal ?_) _
            have hkk := Lib.hid (kw'.out.trans hHeld.k)
            clear hHeld
            go_wp2
            go_ret
            exact ⟨rfl, hkk.out⟩
          | false =>
            have hz2 : false = z := hzq
            clear hzq
            subst hz2
            refine wp_region_noPanic ?_
            refine wp_region_held_drew (S := (fun W => CanS g (k * 8) [.int .i64 r.head, .string Nm, .int .i64 r.kind, .int .i64 r.lo, .int .i64 r.hi, .slice p r.cs.length cc, .string Df, .int .i64 r.cl] p r.cs.length cc r.cs w.heap.size h N F V wr W)) (by kernel_rfl) (hS0.out.next (((Keeps.refl _ _).drewN nq).drew)) (fun hHeld => ?_)
            refine tk 0 rfl ?_
            refine tkL 1 rfl (yieldsIf_load_cell (by rfl) 3 (.tmp 29) rfl w.heap.size 0 rfl _ (fun _ s => s.b0) (fun w s => load_int w _ _ _ s)) ?_
            refine tk 2 rfl ?_
            refine tkL 3 rfl (yieldsIf_load_cell (by rfl) 9 (.tmp 31) rfl w.heap.size 1 rfl _ (fun _ s => s.b1) (fun w s => load_str w _ _ _ s)) ?_
            refine stepL 4 rfl (by kernel_rfl) (fun K hK => ?_)
            go_simp
            (refine (named_any h N false _ hn hzn').mono ?_; rintro e w4 ⟨rfl, m4, rfl⟩)
            go_wp2_with fail
            refine hK.out _ _ (hHeld.next ⟨rfl, rfl, rfl, Nat.le_refl _, fun _ _ _ => rfl⟩) (fun hHeld => ?_)
            clear hK K
            try simp only [Act.put, sA, sZ, sS]
            refine tk 5 rfl ?_
            refine tkS 6 rfl ?_
            refine tkS 7 rfl ?_
            refine tkS 8 rfl ?_
            refine tkS 9 rfl ?_
            refine tkS 10 rfl ?_
            refine tkS 11 rfl ?_
            refine tkS 12 rfl ?_
            refine tk 13 rfl ?_
            refine tk 14 rfl ?_
            refine wpAnyH_done (by kernel_rfl) (NoPanic.normal ?_) _
            have hkk := Lib.hid (kw'.out.trans hHeld.k)
            clear hHeld
            go_wp2
            go_ret
            exact ⟨rfl, hkk.out⟩
        · have e2 : (Nm.toList == F.toList) = false := by rw [hNl, Lib.toList_data]; simpa using hn2
          have hno' : Hid (∀ (i : Nat) (q : RowD), i < k + 1 → tableD[i]? = some q → ¬ (q.head = h ∧ q.name = F.data.toList)) := Lib.hid (fun i q hi hq => by
            by_cases e : i = k
            · subst e
              have : q = r := by rw [hr'.out] at hq; injection hq with hq; exact hq.symm
              subst this
              exact fun ⟨_, b⟩ => hn2 b
            · exact hno.out i q (by omega) hq)
          have hNl' := Lib.hid hNl; clear hh hn2 hNl
          go_wp2
          go_quiet (fail)
          go_wp2
          exact ⟨⟨k + 1, by omega, by go_num, hno', by obtain ⟨m, rfl⟩ := hm.out; exact Lib.hid ⟨m + nq, by rw [World.drewN_drewN]⟩⟩, by simp [intOf]; omega⟩
      · have e1 : (r.head == h) = false := by simpa using hh
        have hno' : Hid (∀ (i : Nat) (q : RowD), i < k + 1 → tableD[i]? = some q → ¬ (q.head = h ∧ q.name = F.data.toList)) := Lib.hid (fun i q hi hq => by
          by_cases e : i = k
          · subst e
            have : q = r := by rw [hr'.out] at hq; injection hq with hq; exact hq.symm
            subst this
            exact fun ⟨a, _⟩ => hh a
          · exact hno.out i q (by omega) hq)
        have hNl' := Lib.hid hNl; clear hh hNl
        go_wp2
        go_quiet (fail)
        go_wp2
        exact ⟨⟨k + 1, by omega, by go_num, hno', by obtain ⟨m, rfl⟩ := hm.out; exact Lib.hid ⟨m + nq, by rw [World.drewN_drewN]⟩⟩, by simp [intOf]; omega⟩
    · obtain rfl : k = 12 := by omega
      have hfn := find_none hno.out
      have hz1 : Hid (z = false) := Lib.hid (by
        rw [← hz.out]
        unfold lineB
        simp only [hfn])
      have kw' := Lib.hid kw
      clear hfn kw
      go_wp2
      go_ret
      exact ⟨by rw [hz1.out]; rfl, kw'.out⟩
end Go.Proofs.YtdannodhlaaoiaaGreatDoor
/- The document's RightLine, walked. -/
namespace Go.Proofs.YtdannodhlaaoiaaGreatDoor
open Go.RowKit

theorem wpList_load_mid_g {P : Program} {ops : Array Oper} {rest : List Oper} {op : Oper} {a : Act} {w : World} {Q : Exit → Act → World → Prop} (hgd : Region.wanted op (yielded ops a.tmps) = true) (ty : TypeId) (x : Operand) (ho : op.op = .load ty x)
    (b o : Nat) (hx : a.eval x = .pointer (some ⟨b, o, none⟩)) (cs : List Value) (d : TypeDesc) (hc : w.rangeAt b o cs)
    (hu : P.underlying ty = some d) (hd : d.isRow = true) (hi : (P.info? ty).map (·.size) = some cs.length)
    (h : wpList P ops Q rest (a.put op.dst (.agg cs.toArray)) w) : wpList P ops Q (op :: rest) a w :=
  wpList_step fun K hK => by rw [if_pos hgd]; exact wp_load_mid ty x ho b o hx cs d hc hu hd hi (hK _ _ h)
theorem find_no (head : Int) (nm : ByteArray) (w : World) (h : Hid (findD head nm.data.toList = none)) :
    Calls Tryz.prog 126 #[.int .i64 head, .string nm] w fun e w' => e = .returned (.tuple #[.agg #[.int .i64 0, .string ⟨#[]⟩, .int .i64 0, .int .i64 0, .int .i64 0, .slice none 0 0, .string ⟨#[]⟩, .int .i64 0], .bool false]) ∧ Keeps (fun _ => False) w w' := find_any head nm none w h
theorem rFind_no (head : Int) (nm : ByteArray) (w : World) (h : Hid (findD head nm.data.toList = none)) :
    Calls Tryz.prog 97 #[.int .i64 head, .string nm] w fun e w' => e = .returned (.tuple #[.agg #[.int .i64 0, .string ⟨#[]⟩, .int .i64 0, .int .i64 0, .int .i64 0, .slice none 0 0, .string ⟨#[]⟩, .int .i64 0], .bool false]) ∧ Keeps (fun _ => False) w w' := rFind_any head nm none w h
theorem find_yes (head : Int) (nm : ByteArray) (r : RowD) (N F : ByteArray) (w : World) (h : Hid (findD head nm.data.toList = some r)) (hN : Hid (N = ⟨r.name.toArray⟩)) (hF : Hid (F = ⟨r.df.toArray⟩)) :
    Calls Tryz.prog 126 #[.int .i64 head, .string nm] w fun e w' => ∃ p cc, e = .returned (.tuple #[.agg #[.int .i64 r.head, .string N, .int .i64 r.kind, .int .i64 r.lo, .int .i64 r.hi, .slice p r.cs.length cc, .string F, .int .i64 r.cl], .bool true]) ∧ StrsAt w' (.slice p r.cs.length cc) r.cs ∧ Keeps (fun _ => False) w w' := by
  rw [hN.out, hF.out]; exact find_any head nm (some r) w h
theorem rFind_yes (head : Int) (nm : ByteArray) (r : RowD) (N F : ByteArray) (w : World) (h : Hid (findD head nm.data.toList = some r)) (hN : Hid (N = ⟨r.name.toArray⟩)) (hF : Hid (F = ⟨r.df.toArray⟩)) :
    Calls Tryz.prog 97 #[.int .i64 head, .string nm] w fun e w' => ∃ p cc, e = .returned (.tuple #[.agg #[.int .i64 r.head, .string N, .int .i64 r.kind, .int .i64 r.lo, .int .i64 r.hi, .slice p r.cs.length cc, .string F, .int .i64 r.cl], .bool true]) ∧ StrsAt w' (.slice p r.cs.length cc) r.cs ∧ Keeps (fun _ => False) w w' := by
  rw [hN.out, hF.out]; exact rFind_any head nm (some r) w h
theorem new_range (w w' : World) (L : List Value) (t : TypeId) (k : Keeps (fun _ => False) (w.alloc (.cells L.toArray t)) w') : w'.rangeAt w.heap.size 0 L := by
  refine k.rangeAt (fun j u hu => ?_) id
  have := cells_new (w := w) (n := w.heap.size) rfl L t j u hu
  rw [Addr.add_mid] at this; exact this


/-- a boxed line -/
structure BoxAt (B : Nat) (h : Int) (N F V : ByteArray) (W : World) : Prop where
  b0 : W.cell? ⟨B, 0, none⟩ = some (.int .i64 h)
  b1 : W.cell? ⟨B, 1, none⟩ = some (.string N)
  b2 : W.cell? ⟨B, 2, none⟩ = some (.string F)
  b3 : W.cell? ⟨B, 3, none⟩ = some (.string V)
theorem BoxAt.keep {B : Nat} {h : Int} {N F V : ByteArray} {W W' : World} (s : BoxAt B h N F V W) (k : Keeps (fun _ => False) W W') : BoxAt B h N F V W' :=
  ⟨(k.cell (p := ⟨B, 0, none⟩) (World.block_lt_of_cell? W _ s.b0) id).trans s.b0, (k.cell (p := ⟨B, 1, none⟩) (World.block_lt_of_cell? W _ s.b1) id).trans s.b1, (k.cell (p := ⟨B, 2, none⟩) (World.block_lt_of_cell? W _ s.b2) id).trans s.b2, (k.cell (p := ⟨B, 3, none⟩) (World.block_lt_of_cell? W _ s.b3) id).trans s.b3⟩
theorem boxAt_new (w : World) (h : Int) (N F V : ByteArray) (t : TypeId) : BoxAt w.heap.size h N F V (w.alloc (.cells #[.int .i64 h, .string N, .string F, .string V] t)) :=
  ⟨by simp [go_sem], by simp [go_sem], by simp [go_sem], by simp [go_sem]⟩

set_option maxRecDepth 100000 in
set_option maxHeartbeats 4000000 in
theorem rRightLine_any (h : Int) (N F V : ByteArray) (z : Bool) (w : World) (hn : N.size ≤ 8796093022000) (hv : V.size ≤ 8796093022000)
    (hz : Hid (lineB ⟨h, N.data.toList, F.data.toList, V.data.toList⟩ = z)) :
    Calls Tryz.prog 62 #[.agg #[.int .i64 h, .string N, .string F, .string V]] w (NewRes (.bool z) w) := by
  have hzz := hz.out
  unfold lineB at hzz
  simp only at hzz
  cases hf : findD h F.data.toList with
  | none =>
    rw [hf] at hzz
    have hz2 : false = z := hzz
    subst hz2
    have hf' := Lib.hid hf; clear hf hzz
    go_enter Tryz.func62, Tryz.ntmps62
    go_wp2_with fail
    refine (rFind_no h F _ hf').mono ?_
    rintro e w5 ⟨rfl, k5⟩
    have k5' := Lib.hid k5; clear k5
    go_wp2_with ((with_reducible refine at_store 3 ?_); refine wpList_store_new rfl 157 (.tmp 3) (.tmp 11) rfl _ #[.int .i64 0, .string ⟨#[]⟩, .int .i64 0, .int .i64 0, .int .i64 0, .slice none 0 0, .string ⟨#[]⟩, .int .i64 0] rfl rfl rowInfo4 rfl (row_one _ _ _ _ _ _ _ _ _ _) ?_)
    go_ret
    exact ⟨rfl, (((Keeps.refl _ _).alloc _).trans k5'.out).alloc _⟩
  | some r =>
    rw [hf] at hzz
    simp only at hzz
    have hf' := Lib.hid hf
    have hcl : r.cs.length ≤ 1000 := by
      have : ∀ q ∈ tableD, q.cs.length ≤ 1000 := by decide
      exact this r (List.mem_of_find?_eq_some hf)
    obtain ⟨Nm, hNm⟩ : ∃ Nm : ByteArray, Nm = ⟨r.name.toArray⟩ := ⟨_, rfl⟩
    obtain ⟨Df, hDf⟩ : ∃ Df : ByteArray, Df = ⟨r.df.toArray⟩ := ⟨_, rfl⟩
    have hNm' := Lib.hid hNm; have hDf' := Lib.hid hDf
    clear hf hNm hDf
    obtain ⟨zn, hzn⟩ : ∃ zn, namedB h N.data.toList = zn := ⟨_, rfl⟩
    obtain ⟨zr, hzr⟩ : ∃ zr, rightB r.kind r.lo r.hi r.cs V.data.toList = zr := ⟨_, rfl⟩
    rw [hzn, hzr] at hzz
    have hzn' := Lib.hid hzn; have hzr' := Lib.hid hzr
    clear hzn hzr
    have hbx0 := Lib.hid (boxAt_new w h N F V 62)
    cases zn with
    | true =>
      have hz2 : zr = z := hzz
      clear hzz
      subst hz2
      go_enter Tryz.func62, Tryz.ntmps62
      go_wp2_with fail
      refine (rFind_yes h F r Nm Df _ hf' hNm' hDf').mono ?_
      rintro e w5 ⟨p, cc, rfl, s5, k5⟩
      have k5' := Lib.hid k5; have s5' := Lib.hid s5
      have hbx5 := Lib.hid (hbx0.out.keep k5)
      clear k5 s5
      obtain ⟨b0, b1, b2, b3⟩ := hbx5.out.keep ((Keeps.refl (fun _ => False) w5).alloc (.cells #[.int .i64 r.head, .string Nm, .int .i64 r.kind, .int .i64 r.lo, .int .i64 r.hi, .slice p r.cs.length cc, .string Df, .int .i64 r.cl] 157))
      go_wp2_with ((with_reducible refine at_store 3 ?_); refine wpList_store_new rfl 157 (.tmp 3) (.tmp 11) rfl _ #[.int .i64 r.head, .string Nm, .int .i64 r.kind, .int .i64 r.lo, .int .i64 r.hi, .slice p r.cs.length cc, .string Df, .int .i64 r.cl] rfl rfl rowInfo4 rfl (row_one _ _ _ _ _ _ _ _ _ _) ?_)
      refine (rNamed_any h N true _ hn hzn').mono ?_
      rintro e w6 ⟨rfl, k6⟩
      have hr22 := Lib.hid (new_range w5 _ _ 157 k6)
      have k6' := Lib.hid k6
      have hbx6 := (hbx5.out.keep ((Keeps.refl (fun _ => False) w5).alloc _)).keep k6
      clear k6 b0 b1 b2 b3
      have b3 := hbx6.b3
      clear hbx6
      go_wp2_with ((with_reducible refine at_slot 22 ?_); refine wpList_load_mid_g (by rfl) 157 (.tmp 3) rfl w5.heap.size 0 rfl _ _ hr22.out Tryz.underlying157 rfl rowInfo4 ?_)
      refine (rRight_any r.head Nm Df r.kind r.lo r.hi r.cl p cc r.cs V zr _ hv hcl (Lib.hid (s5'.out.keep (((Keeps.refl (fun _ => False) _).alloc _).trans k6'.out) (fun _ _ _ f => f))) hzr').mono ?_
      rintro e w7 ⟨rfl, k7⟩
      have k7' := Lib.hid k7; clear k7
      go_wp2
      go_ret
      exact ⟨rfl, (((((Keeps.refl _ _).alloc _).trans k5'.out).alloc _).trans k6'.out).trans k7'.out⟩
    | false =>
      have hz2 : false = z := hzz
      clear hzz
      subst hz2
      go_enter Tryz.func62, Tryz.ntmps62
      go_wp2_with fail
      refine (rFind_yes h F r Nm Df _ hf' hNm' hDf').mono ?_
      rintro e w5 ⟨p, cc, rfl, s5, k5⟩
      have k5' := Lib.hid k5
      have hbx5 := Lib.hid (hbx0.out.keep k5)
      clear k5 s5
      obtain ⟨b0, b1, b2, b3⟩ := hbx5.out.keep ((Keeps.refl (fun _ => False) w5).alloc (.cells #[.int .i64 r.head, .string Nm, .int .i64 r.kind, .int .i64 r.lo, .int .i64 r.hi, .slice p r.cs.length cc, .string Df, .int .i64 r.cl] 157))
      go_wp2_with ((with_reducible refine at_store 3 ?_); refine wpList_store_new rfl 157 (.tmp 3) (.tmp 11) rfl _ #[.int .i64 r.head, .string Nm, .int .i64 r.kind, .int .i64 r.lo, .int .i64 r.hi, .slice p r.cs.length cc, .string Df, .int .i64 r.cl] rfl rfl rowInfo4 rfl (row_one _ _ _ _ _ _ _ _ _ _) ?_)
      refine (rNamed_any h N false _ hn hzn').mono ?_
      rintro e w6 ⟨rfl, k6⟩
      have k6' := Lib.hid k6; clear k6 b0 b1 b2 b3
      go_wp2
      go_ret
      exact ⟨rfl, ((((Keeps.refl _ _).alloc _).trans k5'.out).alloc _).trans k6'.out⟩
end Go.Proofs.YtdannodhlaaoiaaGreatDoor
