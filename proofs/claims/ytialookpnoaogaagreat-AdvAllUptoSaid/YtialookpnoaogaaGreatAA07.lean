/- canBe, walked. -/
import Derived.Test.YtialookpnoaogaaGreatAA06
import Derived.Test.YtialookpnoaogaaGreatAA01
set_option linter.unusedVariables false
set_option linter.unusedSimpArgs false
namespace Go.Proofs.YtialookpnoaogaaGreat
open Go.RowKit

theorem load_str (w : World) (b o : Nat) (v : Value) (h : w.cell? ⟨b, o, none⟩ = some v) : (loadVar 9 ⟨b, o, none⟩).run Tryz.prog w = .ok v w := by
  simp [go_sem, h]
/-- may a line be -/
def lineB (l : LineD) : Bool := match findD l.head l.leaf with
  | some r => namedB l.head l.name && rightB r.kind r.lo r.hi r.cs l.value
  | none => false
/-- what the region of a found row keeps -/
structure CanS (g o : Nat) (L : List Value) (p : Option Addr) (n c : Nat) (cs : List (List UInt8)) (B : Nat) (h : Int) (N F V : ByteArray) (w0 W : World) : Prop where
  r : W.rangeAt g o L
  s : StrsAt W (.slice p n c) cs
  b0 : W.cell? ⟨B, 0, none⟩ = some (.int .i64 h)
  b1 : W.cell? ⟨B, 1, none⟩ = some (.string N)
  b2 : W.cell? ⟨B, 2, none⟩ = some (.string F)
  b3 : W.cell? ⟨B, 3, none⟩ = some (.string V)
  k : Keeps (fun _ => False) w0 W
theorem CanS.next {g o : Nat} {L : List Value} {p : Option Addr} {n c : Nat} {cs : List (List UInt8)} {B : Nat} {h : Int} {N F V : ByteArray} {w0 W W' : World} (s : CanS g o L p n c cs B h N F V w0 W) (k : Keeps (fun _ => False) W W') : CanS g o L p n c cs B h N F V w0 W' :=
  ⟨k.rangeAt s.r id, s.s.keep k (fun _ _ _ f => f), (k.cell (p := ⟨B, 0, none⟩) (World.block_lt_of_cell? W _ s.b0) id).trans s.b0, (k.cell (p := ⟨B, 1, none⟩) (World.block_lt_of_cell? W _ s.b1) id).trans s.b1, (k.cell (p := ⟨B, 2, none⟩) (World.block_lt_of_cell? W _ s.b2) id).trans s.b2, (k.cell (p := ⟨B, 3, none⟩) (World.block_lt_of_cell? W _ s.b3) id).trans s.b3, s.k.trans k⟩

set_option maxRecDepth 100000 in
set_option maxHeartbeats 4000000 in
theorem canBe_any (h : Int) (N F V : ByteArray) (g Bt : Nat) (z : Bool) (w : World) (hn : N.size ≤ 9223372036854775807) (hv : V.size ≤ 9223372036854775807) (ht : Hid (TableAt Bt w g))
    (hz : Hid (lineB ⟨h, N.data.toList, F.data.toList, V.data.toList⟩ = z)) :
    Calls Tryz.prog 87 #[.agg #[.int .i64 h, .string N, .string F, .string V], .slice (some ⟨g, 0, none⟩) 12 12] w (NewRes (.bool z) w) := by
  go_enter Tryz.func87, Tryz.ntmps87
  go_wp2
  go_loopw [8] (fun i wr => ∃ k : Nat, k ≤ 12 ∧ i = .int .i64 k ∧ Hid (∀ (i : Nat) (q : RowD), i < k → tableD[i]? = some q → ¬ (q.head = h ∧ q.name = F.data.toList)) ∧ Hid (∃ m, wr = (w.alloc (.cells #[.int .i64 h, .string N, .string F, .string V] 79)).drewN m)) (fun i _ => 12 - (intOf i).toNat)
  case atStart => exact ⟨0, by omega, rfl, Lib.hid (fun _ _ h => by omega), Lib.hid ⟨0, rfl⟩⟩
  case round =>
    obtain ⟨k, hk12, rfl, hno, hm⟩ := hrel
    have b0 : wr.cell? ⟨w.heap.size, 0, none⟩ = some (.int .i64 h) := by obtain ⟨m, rfl⟩ := hm.out; simp [go_sem]
    have b1 : wr.cell? ⟨w.heap.size, 1, none⟩ = some (.string N) := by obtain ⟨m, rfl⟩ := hm.out; simp [go_sem]
    have b2 : wr.cell? ⟨w.heap.size, 2, none⟩ = some (.string F) := by obtain ⟨m, rfl⟩ := hm.out; simp [go_sem]
    have b3 : wr.cell? ⟨w.heap.size, 3, none⟩ = some (.string V) := by obtain ⟨m, rfl⟩ := hm.out; simp [go_sem]
    have kw : Keeps (fun _ => False) w wr := by obtain ⟨m, rfl⟩ := hm.out; exact ((Keeps.refl _ _).alloc _).drewN m
    by_cases hlt : k < 12
    · obtain ⟨r, hr⟩ : ∃ r, tableD[k]? = some r := ⟨_, List.getElem?_eq_getElem (show k < tableD.length from hlt)⟩
      obtain ⟨cv, hrange, hcs, -⟩ := (ht.out.keep kw) k r hr
      obtain ⟨p, cc, rfl, hcs0⟩ := hcs
      obtain ⟨Nm, hNm⟩ : ∃ Nm : ByteArray, Nm = ⟨r.name.toArray⟩ := ⟨_, rfl⟩
      obtain ⟨Df, hDf⟩ : ∃ Df : ByteArray, Df = ⟨r.df.toArray⟩ := ⟨_, rfl⟩
      have hra : wr.rangeAt g (k * 8) [.int .i64 r.head, .string Nm, .int .i64 r.kind, .int .i64 r.lo, .int .i64 r.hi, .slice p r.cs.length cc, .string Df, .int .i64 r.cl] := by rw [hNm, hDf]; exact hrange
      have a0 : wr.cell? ⟨g, k * 8, none⟩ = some (.int .i64 r.head) := hra 0 _ rfl
      have a1 : wr.cell? ⟨g, k * 8 + 1, none⟩ = some (.string Nm) := hra 1 _ rfl
      have hS0 : Hid (CanS g (k * 8) [.int .i64 r.head, .string Nm, .int .i64 r.kind, .int .i64 r.lo, .int .i64 r.hi, .slice p r.cs.length cc, .string Df, .int .i64 r.cl] p r.cs.length cc r.cs w.heap.size h N F V wr wr) := Lib.hid ⟨hra, ⟨p, cc, rfl, hcs0⟩, b0, b1, b2, b3, Keeps.refl _ _⟩
      have hNl : Nm.toList = r.name := by rw [hNm, Lib.toList_data]
      have hcl : r.cs.length ≤ 1000 := by
        have : ∀ q ∈ tableD, q.cs.length ≤ 1000 := by decide
        exact this r (List.mem_of_getElem? hr)
      have hr' := Lib.hid hr; have kw' := Lib.hid kw
      clear hra hrange hcs0 hNm hDf hr kw
      by_cases hh : r.head = h
      · have e1 : (r.head == h) = true := by simpa using hh
        by_cases hn2 : r.name = F.data.toList
        · have e2 : (Nm.toList == F.toList) = true := by rw [hNl, Lib.toList_data, hn2]; simp
          have hfr := find_step hr'.out hno.out ⟨hh, hn2⟩
          have hzz := hz.out
          unfold lineB at hzz
          simp only [hfr] at hzz
          have hzz' := Lib.hid hzz; clear hzz hfr hh hn2
          have hNl' := Lib.hid hNl; clear hNl
          go_wp2
          go_quiet (fail)
          go_wp2
          obtain ⟨zn, hzn⟩ : ∃ zn, namedB h N.data.toList = zn := ⟨_, rfl⟩
          obtain ⟨zr, hzr⟩ : ∃ zr, rightB r.kind r.lo r.hi r.cs V.data.toList = zr := ⟨_, rfl⟩
          have hzq : (zn && zr) = z := by rw [← hzz'.out, hzn, hzr]
          have hzn' := Lib.hid hzn; have hzr' := Lib.hid hzr
          clear hzn hzr
          cases zn with
          | true =>
            have hz2 : zr = z := hzq
            clear hzq
            subst hz2
            refine wp_region_noPanic ?_
            refine wp_region_held_drew (S := (fun W => CanS g (k * 8) [.int .i64 r.head, .string Nm, .int .i64 r.kind, .int .i64 r.lo, .int .i64 r.hi, .slice p r.cs.length cc, .string Df, .int .i64 r.cl] p r.cs.length cc r.cs w.heap.size h N F V wr W)) (by kernel_rfl) (hS0.out.next (((Keeps.refl _ _).drewN nq).drew)) (fun hHeld => ?_)
            refine tk 0 rfl ?_
            refine tkL 1 rfl (yieldsIf_load_cell (by rfl) 3 (.tmp 29) rfl w.heap.size 0 rfl _ (fun _ s => s.b0) (fun w s => load_int w _ _ _ s)) ?_
            refine tk 2 rfl ?_
            refine tkL 3 rfl (yieldsIf_load_cell (by rfl) 9 (.tmp 31) rfl w.heap.size 1 rfl _ (fun _ s => s.b1) (fun w s => load_str w _ _ _ s)) ?_
            refine stepL 4 rfl (by kernel_rfl) (fun K hK => ?_)
            go_simp
            (refine (named_any h N true _ hn hzn').mono ?_; rintro e w4 ⟨rfl, m4, rfl⟩)
            go_wp2_with fail
            refine hK.out _ _ (hHeld.next ⟨rfl, rfl, rfl, Nat.le_refl _, fun _ _ _ => rfl⟩) (fun hHeld => ?_)
            clear hK K
            try simp only [Act.put, sA, sZ, sS]
            refine tk 5 rfl ?_
            refine tk 6 rfl ?_
            refine tk 7 rfl ?_
            refine tk 8 rfl ?_
            refine tkL 9 rfl (yieldsIf_load_mid (by rfl) 147 (.tmp 37) rfl g (k * 8) rfl [.int .i64 r.head, .string Nm, .int .i64 r.kind, .int .i64 r.lo, .int .i64 r.hi, .slice p r.cs.length cc, .string Df, .int .i64 r.cl] _ (fun _ s => s.r) Tryz.underlying147 rfl rowInfo) ?_
            refine tk 10 rfl ?_
            refine tkL 11 rfl (yieldsIf_load_cell (by rfl) 9 (.tmp 39) rfl w.heap.size 3 rfl _ (fun _ s => s.b3) (fun w s => load_str w _ _ _ s)) ?_
            refine stepL 12 rfl (by kernel_rfl) (fun K hK => ?_)
            go_simp
            (refine (right_any r.head Nm Df r.kind r.lo r.hi r.cl p cc r.cs V zr _ hv hcl (Lib.hid hHeld.s) hzr').mono ?_; rintro e w5 ⟨rfl, hk5⟩)
            go_wp2_with fail
            refine hK.out _ _ (hHeld.next hk5) (fun hHeld => ?_)
            clear hK K
            try simp only [Act.put, sA, sZ, sS]
            refine tk 13 rfl ?_
            refine tk 14 rfl ?_
            refine wpAnyH_done (by kernel_rfl) (NoPanic.normal ?_) _
            have hkk := Lib.hid (kw'.out.trans hHeld.k)
            clear hHeld
            go_wp2
            go_ret
            exact ⟨rfl, hkk.out⟩
          | false =>
            have hz2 : false = z := hzq
            clear hzq
            subst hz2
            refine wp_region_noPanic ?_
            refine wp_region_held_drew (S := (fun W => CanS g (k * 8) [.int .i64 r.head, .string Nm, .int .i64 r.kind, .int .i64 r.lo, .int .i64 r.hi, .slice p r.cs.length cc, .string Df, .int .i64 r.cl] p r.cs.length cc r.cs w.heap.size h N F V wr W)) (by kernel_rfl) (hS0.out.next (((Keeps.refl _ _).drewN nq).drew)) (fun hHeld => ?_)
            refine tk 0 rfl ?_
            refine tkL 1 rfl (yieldsIf_load_cell (by rfl) 3 (.tmp 29) rfl w.heap.size 0 rfl _ (fun _ s => s.b0) (fun w s => load_int w _ _ _ s)) ?_
            refine tk 2 rfl ?_
            refine tkL 3 rfl (yieldsIf_load_cell (by rfl) 9 (.tmp 31) rfl w.heap.size 1 rfl _ (fun _ s => s.b1) (fun w s => load_str w _ _ _ s)) ?_
            refine stepL 4 rfl (by kernel_rfl) (fun K hK => ?_)
            go_simp
            (refine (named_any h N false _ hn hzn').mono ?_; rintro e w4 ⟨rfl, m4, rfl⟩)
            go_wp2_with fail
            refine hK.out _ _ (hHeld.next ⟨rfl, rfl, rfl, Nat.le_refl _, fun _ _ _ => rfl⟩) (fun hHeld => ?_)
            clear hK K
            try simp only [Act.put, sA, sZ, sS]
            refine tk 5 rfl ?_
            refine tkS 6 rfl ?_
            refine tkS 7 rfl ?_
            refine tkS 8 rfl ?_
            refine tkS 9 rfl ?_
            refine tkS 10 rfl ?_
            refine tkS 11 rfl ?_
            refine tkS 12 rfl ?_
            refine tk 13 rfl ?_
            refine tk 14 rfl ?_
            refine wpAnyH_done (by kernel_rfl) (NoPanic.normal ?_) _
            have hkk := Lib.hid (kw'.out.trans hHeld.k)
            clear hHeld
            go_wp2
            go_ret
            exact ⟨rfl, hkk.out⟩
        · have e2 : (Nm.toList == F.toList) = false := by rw [hNl, Lib.toList_data]; simpa using hn2
          have hno' : Hid (∀ (i : Nat) (q : RowD), i < k + 1 → tableD[i]? = some q → ¬ (q.head = h ∧ q.name = F.data.toList)) := Lib.hid (fun i q hi hq => by
            by_cases e : i = k
            · subst e
              have : q = r := by rw [hr'.out] at hq; injection hq with hq; exact hq.symm
              subst this
              exact fun ⟨_, b⟩ => hn2 b
            · exact hno.out i q (by omega) hq)
          have hNl' := Lib.hid hNl; clear hh hn2 hNl
          go_wp2
          go_quiet (fail)
          go_wp2
          exact ⟨⟨k + 1, by omega, by go_num, hno', by obtain ⟨m, rfl⟩ := hm.out; exact Lib.hid ⟨m + nq, by rw [World.drewN_drewN]⟩⟩, by simp [intOf]; omega⟩
      · have e1 : (r.head == h) = false := by simpa using hh
        have hno' : Hid (∀ (i : Nat) (q : RowD), i < k + 1 → tableD[i]? = some q → ¬ (q.head = h ∧ q.name = F.data.toList)) := Lib.hid (fun i q hi hq => by
          by_cases e : i = k
          · subst e
            have : q = r := by rw [hr'.out] at hq; injection hq with hq; exact hq.symm
            subst this
            exact fun ⟨a, _⟩ => hh a
          · exact hno.out i q (by omega) hq)
        have hNl' := Lib.hid hNl; clear hh hNl
        go_wp2
        go_quiet (fail)
        go_wp2
        exact ⟨⟨k + 1, by omega, by go_num, hno', by obtain ⟨m, rfl⟩ := hm.out; exact Lib.hid ⟨m + nq, by rw [World.drewN_drewN]⟩⟩, by simp [intOf]; omega⟩
    · obtain rfl : k = 12 := by omega
      have hfn := find_none hno.out
      have hz1 : Hid (z = false) := Lib.hid (by
        rw [← hz.out]
        unfold lineB
        simp only [hfn])
      have kw' := Lib.hid kw
      clear hfn kw
      go_wp2
      go_ret
      exact ⟨by rw [hz1.out]; rfl, kw'.out⟩
end Go.Proofs.YtialookpnoaogaaGreat
/- The document's RightLine, walked. -/
namespace Go.Proofs.YtialookpnoaogaaGreat
open Go.RowKit

theorem wpList_load_mid_g {P : Program} {ops : Array Oper} {rest : List Oper} {op : Oper} {a : Act} {w : World} {Q : Exit → Act → World → Prop} (hgd : Region.wanted op (yielded ops a.tmps) = true) (ty : TypeId) (x : Operand) (ho : op.op = .load ty x)
    (b o : Nat) (hx : a.eval x = .pointer (some ⟨b, o, none⟩)) (cs : List Value) (d : TypeDesc) (hc : w.rangeAt b o cs)
    (hu : P.underlying ty = some d) (hd : d.isRow = true) (hi : (P.info? ty).map (·.size) = some cs.length)
    (h : wpList P ops Q rest (a.put op.dst (.agg cs.toArray)) w) : wpList P ops Q (op :: rest) a w :=
  wpList_step fun K hK => by rw [if_pos hgd]; exact wp_load_mid ty x ho b o hx cs d hc hu hd hi (hK _ _ h)
theorem find_no (head : Int) (nm : ByteArray) (w : World) (h : Hid (findD head nm.data.toList = none)) :
    Calls Tryz.prog 72 #[.int .i64 head, .string nm] w fun e w' => e = .returned (.tuple #[.agg #[.int .i64 0, .string ⟨#[]⟩, .int .i64 0, .int .i64 0, .int .i64 0, .slice none 0 0, .string ⟨#[]⟩, .int .i64 0], .bool false]) ∧ Keeps (fun _ => False) w w' := find_any head nm none w h
theorem rFind_no (head : Int) (nm : ByteArray) (w : World) (h : Hid (findD head nm.data.toList = none)) :
    Calls Tryz.prog 74 #[.int .i64 head, .string nm] w fun e w' => e = .returned (.tuple #[.agg #[.int .i64 0, .string ⟨#[]⟩, .int .i64 0, .int .i64 0, .int .i64 0, .slice none 0 0, .string ⟨#[]⟩, .int .i64 0], .bool false]) ∧ Keeps (fun _ => False) w w' := rFind_any head nm none w h
theorem find_yes (head : Int) (nm : ByteArray) (r : RowD) (N F : ByteArray) (w : World) (h : Hid (findD head nm.data.toList = some r)) (hN : Hid (N = ⟨r.name.toArray⟩)) (hF : Hid (F = ⟨r.df.toArray⟩)) :
    Calls Tryz.prog 72 #[.int .i64 head, .string nm] w fun e w' => ∃ p cc, e = .returned (.tuple #[.agg #[.int .i64 r.head, .string N, .int .i64 r.kind, .int .i64 r.lo, .int .i64 r.hi, .slice p r.cs.length cc, .string F, .int .i64 r.cl], .bool true]) ∧ StrsAt w' (.slice p r.cs.length cc) r.cs ∧ Keeps (fun _ => False) w w' := by
  rw [hN.out, hF.out]; exact find_any head nm (some r) w h
theorem rFind_yes (head : Int) (nm : ByteArray) (r : RowD) (N F : ByteArray) (w : World) (h : Hid (findD head nm.data.toList = some r)) (hN : Hid (N = ⟨r.name.toArray⟩)) (hF : Hid (F = ⟨r.df.toArray⟩)) :
    Calls Tryz.prog 74 #[.int .i64 head, .string nm] w fun e w' => ∃ p cc, e = .returned (.tuple #[.agg #[.int .i64 r.head, .string N, .int .i64 r.kind, .int .i64 r.lo, .int .i64 r.hi, .slice p r.cs.length cc, .string F, .int .i64 r.cl], .bool true]) ∧ StrsAt w' (.slice p r.cs.length cc) r.cs ∧ Keeps (fun _ => False) w w' := by
  rw [hN.out, hF.out]; exact rFind_any head nm (some r) w h
theorem new_range (w w' : World) (L : List Value) (t : TypeId) (k : Keeps (fun _ => False) (w.alloc (.cells L.toArray t)) w') : w'.rangeAt w.heap.size 0 L := by
  refine k.rangeAt (fun j u hu => ?_) id
  have := cells_new (w := w) (n := w.heap.size) rfl L t j u hu
  rw [Addr.add_mid] at this; exact this


/-- a boxed line -/
structure BoxAt (B : Nat) (h : Int) (N F V : ByteArray) (W : World) : Prop where
  b0 : W.cell? ⟨B, 0, none⟩ = some (.int .i64 h)
  b1 : W.cell? ⟨B, 1, none⟩ = some (.string N)
  b2 : W.cell? ⟨B, 2, none⟩ = some (.string F)
  b3 : W.cell? ⟨B, 3, none⟩ = some (.string V)
theorem BoxAt.keep {B : Nat} {h : Int} {N F V : ByteArray} {W W' : World} (s : BoxAt B h N F V W) (k : Keeps (fun _ => False) W W') : BoxAt B h N F V W' :=
  ⟨(k.cell (p := ⟨B, 0, none⟩) (World.block_lt_of_cell? W _ s.b0) id).trans s.b0, (k.cell (p := ⟨B, 1, none⟩) (World.block_lt_of_cell? W _ s.b1) id).trans s.b1, (k.cell (p := ⟨B, 2, none⟩) (World.block_lt_of_cell? W _ s.b2) id).trans s.b2, (k.cell (p := ⟨B, 3, none⟩) (World.block_lt_of_cell? W _ s.b3) id).trans s.b3⟩
theorem boxAt_new (w : World) (h : Int) (N F V : ByteArray) (t : TypeId) : BoxAt w.heap.size h N F V (w.alloc (.cells #[.int .i64 h, .string N, .string F, .string V] t)) :=
  ⟨by simp [go_sem], by simp [go_sem], by simp [go_sem], by simp [go_sem]⟩

set_option maxRecDepth 100000 in
set_option maxHeartbeats 4000000 in
theorem rRightLine_any (h : Int) (N F V : ByteArray) (z : Bool) (w : World) (hn : N.size ≤ 8796093022000) (hv : V.size ≤ 8796093022000)
    (hz : Hid (lineB ⟨h, N.data.toList, F.data.toList, V.data.toList⟩ = z)) :
    Calls Tryz.prog 43 #[.agg #[.int .i64 h, .string N, .string F, .string V]] w (NewRes (.bool z) w) := by
  have hzz := hz.out
  unfold lineB at hzz
  simp only at hzz
  cases hf : findD h F.data.toList with
  | none =>
    rw [hf] at hzz
    have hz2 : false = z := hzz
    subst hz2
    have hf' := Lib.hid hf; clear hf hzz
    go_enter Tryz.func43, Tryz.ntmps43
    go_wp2_with fail
    refine (rFind_no h F _ hf').mono ?_
    rintro e w5 ⟨rfl, k5⟩
    have k5' := Lib.hid k5; clear k5
    go_wp2_with ((with_reducible refine at_store 3 ?_); refine wpList_store_new rfl 151 (.tmp 3) (.tmp 11) rfl _ #[.int .i64 0, .string ⟨#[]⟩, .int .i64 0, .int .i64 0, .int .i64 0, .slice none 0 0, .string ⟨#[]⟩, .int .i64 0] rfl rfl rowInfo4 rfl (row_one _ _ _ _ _ _ _ _ _ _) ?_)
    go_ret
    exact ⟨rfl, (((Keeps.refl _ _).alloc _).trans k5'.out).alloc _⟩
  | some r =>
    rw [hf] at hzz
    simp only at hzz
    have hf' := Lib.hid hf
    have hcl : r.cs.length ≤ 1000 := by
      have : ∀ q ∈ tableD, q.cs.length ≤ 1000 := by decide
      exact this r (List.mem_of_find?_eq_some hf)
    obtain ⟨Nm, hNm⟩ : ∃ Nm : ByteArray, Nm = ⟨r.name.toArray⟩ := ⟨_, rfl⟩
    obtain ⟨Df, hDf⟩ : ∃ Df : ByteArray, Df = ⟨r.df.toArray⟩ := ⟨_, rfl⟩
    have hNm' := Lib.hid hNm; have hDf' := Lib.hid hDf
    clear hf hNm hDf
    obtain ⟨zn, hzn⟩ : ∃ zn, namedB h N.data.toList = zn := ⟨_, rfl⟩
    obtain ⟨zr, hzr⟩ : ∃ zr, rightB r.kind r.lo r.hi r.cs V.data.toList = zr := ⟨_, rfl⟩
    rw [hzn, hzr] at hzz
    have hzn' := Lib.hid hzn; have hzr' := Lib.hid hzr
    clear hzn hzr
    have hbx0 := Lib.hid (boxAt_new w h N F V 55)
    cases zn with
    | true =>
      have hz2 : zr = z := hzz
      clear hzz
      subst hz2
      go_enter Tryz.func43, Tryz.ntmps43
      go_wp2_with fail
      refine (rFind_yes h F r Nm Df _ hf' hNm' hDf').mono ?_
      rintro e w5 ⟨p, cc, rfl, s5, k5⟩
      have k5' := Lib.hid k5; have s5' := Lib.hid s5
      have hbx5 := Lib.hid (hbx0.out.keep k5)
      clear k5 s5
      obtain ⟨b0, b1, b2, b3⟩ := hbx5.out.keep ((Keeps.refl (fun _ => False) w5).alloc (.cells #[.int .i64 r.head, .string Nm, .int .i64 r.kind, .int .i64 r.lo, .int .i64 r.hi, .slice p r.cs.length cc, .string Df, .int .i64 r.cl] 151))
      go_wp2_with ((with_reducible refine at_store 3 ?_); refine wpList_store_new rfl 151 (.tmp 3) (.tmp 11) rfl _ #[.int .i64 r.head, .string Nm, .int .i64 r.kind, .int .i64 r.lo, .int .i64 r.hi, .slice p r.cs.length cc, .string Df, .int .i64 r.cl] rfl rfl rowInfo4 rfl (row_one _ _ _ _ _ _ _ _ _ _) ?_)
      refine (rNamed_any h N true _ hn hzn').mono ?_
      rintro e w6 ⟨rfl, k6⟩
      have hr22 := Lib.hid (new_range w5 _ _ 151 k6)
      have k6' := Lib.hid k6
      have hbx6 := (hbx5.out.keep ((Keeps.refl (fun _ => False) w5).alloc _)).keep k6
      clear k6 b0 b1 b2 b3
      have b3 := hbx6.b3
      clear hbx6
      go_wp2_with ((with_reducible refine at_slot 22 ?_); refine wpList_load_mid_g (by rfl) 151 (.tmp 3) rfl w5.heap.size 0 rfl _ _ hr22.out Tryz.underlying151 rfl rowInfo4 ?_)
      refine (rRight_any r.head Nm Df r.kind r.lo r.hi r.cl p cc r.cs V zr _ hv hcl (Lib.hid (s5'.out.keep (((Keeps.refl (fun _ => False) _).alloc _).trans k6'.out) (fun _ _ _ f => f))) hzr').mono ?_
      rintro e w7 ⟨rfl, k7⟩
      have k7' := Lib.hid k7; clear k7
      go_wp2
      go_ret
      exact ⟨rfl, (((((Keeps.refl _ _).alloc _).trans k5'.out).alloc _).trans k6'.out).trans k7'.out⟩
    | false =>
      have hz2 : false = z := hzz
      clear hzz
      subst hz2
      go_enter Tryz.func43, Tryz.ntmps43
      go_wp2_with fail
      refine (rFind_yes h F r Nm Df _ hf' hNm' hDf').mono ?_
      rintro e w5 ⟨p, cc, rfl, s5, k5⟩
      have k5' := Lib.hid k5
      have hbx5 := Lib.hid (hbx0.out.keep k5)
      clear k5 s5
      obtain ⟨b0, b1, b2, b3⟩ := hbx5.out.keep ((Keeps.refl (fun _ => False) w5).alloc (.cells #[.int .i64 r.head, .string Nm, .int .i64 r.kind, .int .i64 r.lo, .int .i64 r.hi, .slice p r.cs.length cc, .string Df, .int .i64 r.cl] 151))
      go_wp2_with ((with_reducible refine at_store 3 ?_); refine wpList_store_new rfl 151 (.tmp 3) (.tmp 11) rfl _ #[.int .i64 r.head, .string Nm, .int .i64 r.kind, .int .i64 r.lo, .int .i64 r.hi, .slice p r.cs.length cc, .string Df, .int .i64 r.cl] rfl rfl rowInfo4 rfl (row_one _ _ _ _ _ _ _ _ _ _) ?_)
      refine (rNamed_any h N false _ hn hzn').mono ?_
      rintro e w6 ⟨rfl, k6⟩
      have k6' := Lib.hid k6; clear k6 b0 b1 b2 b3
      go_wp2
      go_ret
      exact ⟨rfl, ((((Keeps.refl _ _).alloc _).trans k5'.out).alloc _).trans k6'.out⟩
end Go.Proofs.YtialookpnoaogaaGreat
/- Lines in memory; conf.Right, walked. -/
namespace Go.Proofs.YtialookpnoaogaaGreat
open Go.RowKit

theorem lineInfo : (Tryz.prog.info? 79).map (·.size) = some 4 := by kernel_rfl
def lineVals (l : LineD) : List Value := [.int .i64 l.head, strv l.name, strv l.leaf, strv l.value]
/-- lines in memory -/
def LinesAt (w : World) (v : Value) (ls : List LineD) : Prop := ∃ p c, v = .slice p ls.length c ∧ (0 < ls.length → ∃ g o, p = some ⟨g, o, none⟩ ∧ ∀ i l, ls[i]? = some l → w.rangeAt g (o + i * 4) (lineVals l))
theorem LinesAt.keep {F : Nat → Prop} {w w' : World} {v : Value} {ls : List LineD} (h : LinesAt w v ls) (k : Keeps F w w') (hF : 0 < ls.length → ∀ i, v.ownBlock = some i → ¬ F i) : LinesAt w' v ls := by
  obtain ⟨p, c, rfl, h⟩ := h
  refine ⟨p, c, rfl, fun h0 => ?_⟩
  obtain ⟨g, o, rfl, hr⟩ := h h0
  exact ⟨g, o, rfl, fun i l hl => k.rangeAt (hr i l hl) (hF h0 g rfl)⟩
/-- may lines be a configuration, from line k on -/
def riseB (ls : List LineD) : Nat → Bool
  | 0 => true
  | k + 1 => riseB ls k && (match ls[k]? with
    | some l => lineB l && (match k with
      | 0 => true
      | j + 1 => match ls[j]? with
        | some q => lessB q l
        | none => false)
    | none => false)
def rightC (ls : List LineD) : Bool := decide (ls.length ≤ 64) && riseB ls ls.length
theorem riseB_le {ls : List LineD} {k : Nat} (h : riseB ls k = false) : ∀ n, k ≤ n → riseB ls n = false := by
  intro n hn
  induction n with
  | zero => obtain rfl : k = 0 := by omega
            exact h
  | succ n ih =>
    by_cases e : k = n + 1
    · subst e; exact h
    · unfold riseB; rw [ih (by omega)]; rfl
theorem line_one (a : Int) (n f v : ByteArray) : (#[.int .i64 a, .string n, .string f, .string v] : Array Value).all (·.oneCell') = true := by simp; exact ⟨rfl, rfl, rfl, rfl⟩

/-- what a round's region keeps -/
structure RnS (Bt gt B : Nat) (L : List Value) (g o : Nat) (M : List Value) (w0 W : World) : Prop where
  t : TableAt Bt W gt
  b : W.rangeAt B 0 L
  m : W.rangeAt g o M
  k : Keeps (fun _ => False) w0 W
theorem RnS.next {Bt gt B : Nat} {L : List Value} {g o : Nat} {M : List Value} {w0 W W' : World} (s : RnS Bt gt B L g o M w0 W) (k : Keeps (fun _ => False) W W') : RnS Bt gt B L g o M w0 W' :=
  ⟨s.t.keep k, k.rangeAt s.b id, k.rangeAt s.m id, s.k.trans k⟩
/-- every text of the lines is shorter than so many bytes -/
def LinesLt (ls : List LineD) (m : Nat) : Prop := ∀ l ∈ ls, l.name.length ≤ m ∧ l.leaf.length ≤ m ∧ l.value.length ≤ m

set_option maxRecDepth 100000 in
set_option maxHeartbeats 4000000 in
theorem right_c (v : Value) (ls : List LineD) (z : Bool) (w : World) (hv : Hid (LinesAt w v ls)) (hl : ls.length ≤ 9223372036854775807) (hlt : Hid (LinesLt ls 9223372036854775807)) (hz : Hid (rightC ls = z)) :
    Calls Tryz.prog 46 #[v] w (NewRes (.bool z) w) := by
  obtain ⟨p, c, rfl, hv0⟩ := hv.out
  have hv' := Lib.hid hv0; clear hv0 hv
  by_cases h64 : ls.length ≤ 64
  · go_enter Tryz.func46, Tryz.ntmps46
    go_wp2_with fail
    refine (table_any _).mono ?_
    rintro e w1 ⟨gt, rfl, hgt, t1, k1⟩
    have t1' := Lib.hid t1; have k1' := Lib.hid k1; clear t1 k1 hgt
    go_wp2_with fail
    go_loopw [12] (fun i wr => ∃ k : Nat, k ≤ ls.length ∧ i = .int .i64 k ∧ Hid (riseB ls k = true) ∧ Hid (Keeps (fun _ => False) w1 wr)) (fun i _ => ls.length - (intOf i).toNat)
    case atStart => exact ⟨0, by omega, rfl, Lib.hid rfl, Lib.hid (Keeps.refl _ _)⟩
    case round =>
      obtain ⟨k, hk, rfl, hrise, hkr⟩ := hrel
      by_cases hlk : k < ls.length
      · obtain ⟨g, o, rfl, hrows⟩ := hv'.out (by omega)
        obtain ⟨l, hll⟩ : ∃ l, ls[k]? = some l := ⟨_, List.getElem?_eq_getElem hlk⟩
        have hsz := hlt.out l (List.mem_of_getElem? hll)
        obtain ⟨N, hN⟩ : ∃ N : ByteArray, N = ⟨l.name.toArray⟩ := ⟨_, rfl⟩
        obtain ⟨F, hF⟩ : ∃ F : ByteArray, F = ⟨l.leaf.toArray⟩ := ⟨_, rfl⟩
        obtain ⟨V, hV⟩ : ∃ V : ByteArray, V = ⟨l.value.toArray⟩ := ⟨_, rfl⟩
        have hNs : N.size ≤ 9223372036854775807 := by rw [hN]; exact hsz.1
        have hVs : V.size ≤ 9223372036854775807 := by rw [hV]; exact hsz.2.2
        have hld : l = ⟨l.head, N.data.toList, F.data.toList, V.data.toList⟩ := by rw [hN, hF, hV]
        have hrow : Hid (wr.rangeAt g (o + k * 4) [.int .i64 l.head, .string N, .string F, .string V]) := Lib.hid (by
          rw [hN, hF, hV]; exact hkr.out.rangeAt (k1'.out.rangeAt (hrows k l hll) id) id)
        have hld' := Lib.hid hld; have hll' := Lib.hid hll; have hrows' := Lib.hid hrows
        clear hld hll hrows hN hF hV hsz
        go_wp2_with (first | ((with_reducible refine at_slot 16 ?_); refine wpList_load_mid rfl 79 (.tmp 15) rfl g (o + k * 4) rfl _ _ hrow.out Tryz.underlying79 rfl lineInfo ?_) | ((with_reducible refine at_store 5 ?_); refine wpList_store_new rfl 79 (.tmp 5) (.tmp 16) rfl _ #[.int .i64 l.head, .string N, .string F, .string V] rfl rfl lineInfo rfl (line_one _ _ _ _) ?_))
        obtain ⟨zl, hzl⟩ : ∃ zl, lineB ⟨l.head, N.data.toList, F.data.toList, V.data.toList⟩ = zl := ⟨_, rfl⟩
        have hzl' := Lib.hid hzl; clear hzl
        have tN : TableAt w.heap.size (wr.alloc (.cells #[.int .i64 l.head, .string N, .string F, .string V] 79)) gt := (t1'.out.keep hkr.out).keep ((Keeps.refl _ _).alloc _)
        have bN : (wr.alloc (.cells #[.int .i64 l.head, .string N, .string F, .string V] 79)).rangeAt wr.heap.size 0 [.int .i64 l.head, .string N, .string F, .string V] := new_range wr _ _ 79 (Keeps.refl _ _)
        have kN : Keeps (fun _ => False) wr (wr.alloc (.cells #[.int .i64 l.head, .string N, .string F, .string V] 79)) := (Keeps.refl _ _).alloc _
        have tN' := Lib.hid tN; have bN' := Lib.hid bN; have kN' := Lib.hid kN; clear tN bN kN
        cases zl with
        | false =>
          refine wp_region_noPanic ?_
          refine wp_region_held_drew (S := (fun W => RnS w.heap.size gt wr.heap.size [.int .i64 l.head, .string N, .string F, .string V] g (o + k * 4) [.int .i64 l.head, .string N, .string F, .string V] wr W)) (by kernel_rfl) (⟨tN'.out.keep ((Keeps.refl _ _).drew), ((Keeps.refl (fun _ => False) _).drew).rangeAt bN'.out id, ((Keeps.refl (fun _ => False) _).drew).rangeAt (kN'.out.rangeAt hrow.out id) id, kN'.out.drew⟩) (fun hHeld => ?_)
          refine tkL 0 rfl (yieldsIf_load_mid (by rfl) 79 (.tmp 5) rfl wr.heap.size 0 rfl [.int .i64 l.head, .string N, .string F, .string V] _ (fun _ s => s.b) Tryz.underlying79 rfl lineInfo) ?_
          refine tk 1 rfl ?_
          refine stepL 2 rfl (by kernel_rfl) (fun K hK => ?_)
          go_simp
          (refine (canBe_any l.head N F V gt w.heap.size false _ hNs hVs (Lib.hid hHeld.t) hzl').mono ?_; rintro e w4 ⟨rfl, hk4⟩)
          go_wp2_with fail
          refine hK.out _ _ (hHeld.next hk4) (fun hHeld => ?_)
          clear hK K
          try simp only [Act.put, sA, sZ, sS]
          refine tk 3 rfl ?_
          refine tk 4 rfl ?_
          refine tkS 5 rfl ?_
          refine tkS 6 rfl ?_
          refine tkS 7 rfl ?_
          refine tkS 8 rfl ?_
          refine tkS 9 rfl ?_
          refine tkS 10 rfl ?_
          refine tkS 11 rfl ?_
          refine tkS 12 rfl ?_
          refine tkS 13 rfl ?_
          refine tkS 14 rfl ?_
          refine tkS 15 rfl ?_
          refine tkS 16 rfl ?_
          refine tk 17 rfl ?_
          refine wpAnyH_done (by kernel_rfl) (NoPanic.normal ?_) _
          have hkk := Lib.hid ((k1'.out.trans hkr.out).trans hHeld.k)
          have hz0 : Hid (z = false) := Lib.hid (by
            rw [← hz.out]
            unfold rightC
            rw [riseB_le (k := k + 1) (by unfold riseB; rw [hll'.out]; simp only; rw [hld'.out, hzl'.out]; simp) ls.length (by omega)]; simp)
          clear hHeld
          go_wp2
          go_ret
          exact ⟨by rw [hz0.out]; rfl, hkk.out⟩
        | true =>
          cases k with
          | zero =>
            refine wp_region_noPanic ?_
            refine wp_region_held_drew (S := (fun W => RnS w.heap.size gt wr.heap.size [.int .i64 l.head, .string N, .string F, .string V] g (o + 0 * 4) [.int .i64 l.head, .string N, .string F, .string V] wr W)) (by kernel_rfl) (⟨tN'.out.keep ((Keeps.refl _ _).drew), ((Keeps.refl (fun _ => False) _).drew).rangeAt bN'.out id, ((Keeps.refl (fun _ => False) _).drew).rangeAt (kN'.out.rangeAt hrow.out id) id, kN'.out.drew⟩) (fun hHeld => ?_)
            refine tkL 0 rfl (yieldsIf_load_mid (by rfl) 79 (.tmp 5) rfl wr.heap.size 0 rfl [.int .i64 l.head, .string N, .string F, .string V] _ (fun _ s => s.b) Tryz.underlying79 rfl lineInfo) ?_
            refine tk 1 rfl ?_
            refine stepL 2 rfl (by kernel_rfl) (fun K hK => ?_)
            go_simp
            (refine (canBe_any l.head N F V gt w.heap.size true _ hNs hVs (Lib.hid hHeld.t) hzl').mono ?_; rintro e w4 ⟨rfl, hk4⟩)
            go_wp2_with fail
            refine hK.out _ _ (hHeld.next hk4) (fun hHeld => ?_)
            clear hK K
            try simp only [Act.put, sA, sZ, sS]
            refine tk 3 rfl ?_
            refine tk 4 rfl ?_
            refine tk 5 rfl ?_
            refine tk 6 rfl ?_
            refine tk 7 rfl ?_
            refine tkS 8 rfl ?_
            refine tkS 9 rfl ?_
            refine tkS 10 rfl ?_
            refine tkS 11 rfl ?_
            refine tkS 12 rfl ?_
            refine tkS 13 rfl ?_
            refine tkS 14 rfl ?_
            refine tkS 15 rfl ?_
            refine tk 16 rfl ?_
            refine tk 17 rfl ?_
            refine wpAnyH_done (by kernel_rfl) (NoPanic.normal ?_) _
            have hkk := Lib.hid (hkr.out.trans hHeld.k)
            have hr1 : Hid (riseB ls 1 = true) := Lib.hid (by unfold riseB; rw [hll'.out]; simp only; rw [hld'.out, hzl'.out]; rfl)
            clear hHeld
            go_wp2
            exact ⟨⟨1, by omega, by rfl, hr1, hkk⟩, by simp [intOf]; omega⟩
          | succ j =>
            obtain ⟨q, hqq⟩ : ∃ q, ls[j]? = some q := ⟨_, List.getElem?_eq_getElem (by omega)⟩
            obtain ⟨Nq, hNq⟩ : ∃ N : ByteArray, N = ⟨q.name.toArray⟩ := ⟨_, rfl⟩
            obtain ⟨Fq, hFq⟩ : ∃ F : ByteArray, F = ⟨q.leaf.toArray⟩ := ⟨_, rfl⟩
            obtain ⟨Vq, hVq⟩ : ∃ V : ByteArray, V = ⟨q.value.toArray⟩ := ⟨_, rfl⟩
            have hqd : q = ⟨q.head, Nq.data.toList, Fq.data.toList, Vq.data.toList⟩ := by rw [hNq, hFq, hVq]
            have hprev : Hid (wr.rangeAt g (o + j * 4) [.int .i64 q.head, .string Nq, .string Fq, .string Vq]) := Lib.hid (by
              rw [hNq, hFq, hVq]; exact hkr.out.rangeAt (k1'.out.rangeAt (hrows'.out j q hqq) id) id)
            obtain ⟨zs, hzs⟩ : ∃ zs, lessB ⟨q.head, Nq.data.toList, Fq.data.toList, Vq.data.toList⟩ ⟨l.head, N.data.toList, F.data.toList, V.data.toList⟩ = zs := ⟨_, rfl⟩
            have hzs' := Lib.hid hzs; have hqd' := Lib.hid hqd; have hqq' := Lib.hid hqq
            clear hzs hqd hqq hNq hFq hVq
            have l1 : IntKind.i64.wrap (j : Int) = (j : Int) := IntWalk.i64_in _ (by omega)
            have l3 : (0 : Int) ≤ (j : Int) := by omega
            have l4 : (j : Int) < ls.length := by omega
            have l5 : (0 : Int) < (j : Int) + 1 := by omega
            cases zs with
            | true =>
              refine wp_region_noPanic ?_
              refine wp_region_held_drew (S := (fun W => RnS w.heap.size gt wr.heap.size [.int .i64 l.head, .string N, .string F, .string V] g (o + j * 4) [.int .i64 q.head, .string Nq, .string Fq, .string Vq] wr W)) (by kernel_rfl) (⟨tN'.out.keep ((Keeps.refl _ _).drew), ((Keeps.refl (fun _ => False) _).drew).rangeAt bN'.out id, ((Keeps.refl (fun _ => False) _).drew).rangeAt (kN'.out.rangeAt hprev.out id) id, kN'.out.drew⟩) (fun hHeld => ?_)
              refine tkL 0 rfl (yieldsIf_load_mid (by rfl) 79 (.tmp 5) rfl wr.heap.size 0 rfl [.int .i64 l.head, .string N, .string F, .string V] _ (fun _ s => s.b) Tryz.underlying79 rfl lineInfo) ?_
              refine tk 1 rfl ?_
              refine stepL 2 rfl (by kernel_rfl) (fun K hK => ?_)
              go_simp
              (refine (canBe_any l.head N F V gt w.heap.size true _ hNs hVs (Lib.hid hHeld.t) hzl').mono ?_; rintro e w4 ⟨rfl, hk4⟩)
              go_wp2_with fail
              refine hK.out _ _ (hHeld.next hk4) (fun hHeld => ?_)
              clear hK K
              try simp only [Act.put, sA, sZ, sS]
              refine tk 3 rfl ?_
              refine tk 4 rfl ?_
              refine tk 5 rfl ?_
              refine tk 6 rfl ?_
              refine tk 7 rfl ?_
              refine tk 8 rfl ?_
              refine tk 9 rfl ?_
              refine tk 10 rfl ?_
              refine tk 11 rfl ?_
              refine tkL 12 rfl (yieldsIf_load_mid (by rfl) 79 (.tmp 28) rfl g (o + j * 4) rfl [.int .i64 q.head, .string Nq, .string Fq, .string Vq] _ (fun _ s => s.m) Tryz.underlying79 rfl lineInfo) ?_
              refine tkL 13 rfl (yieldsIf_load_mid (by rfl) 79 (.tmp 5) rfl wr.heap.size 0 rfl [.int .i64 l.head, .string N, .string F, .string V] _ (fun _ s => s.b) Tryz.underlying79 rfl lineInfo) ?_
              refine stepL 14 rfl (by kernel_rfl) (fun K hK => ?_)
              go_simp
              (refine (less_any q.head l.head Nq Fq Vq N F V true _ hzs').mono ?_; rintro e w5 ⟨rfl, hk5⟩)
              go_wp2_with fail
              refine hK.out _ _ (hHeld.next hk5) (fun hHeld => ?_)
              clear hK K
              try simp only [Act.put, sA, sZ, sS]
              refine tk 15 rfl ?_
              refine tk 16 rfl ?_
              refine tk 17 rfl ?_
              refine wpAnyH_done (by kernel_rfl) (NoPanic.normal ?_) _
              have hkk := Lib.hid (hkr.out.trans hHeld.k)
              clear hHeld l1 l3 l4 l5
              have hr1 : Hid (riseB ls (j + 1 + 1) = true) := Lib.hid (by
                rw [riseB, hrise.out, hll'.out]; simp only; rw [hqq'.out]; simp only; rw [hld'.out, hqd'.out, hzl'.out]; simpa using hzs'.out)
              go_wp2
              exact ⟨⟨j + 1 + 1, by omega, by go_num, hr1, hkk⟩, by simp [intOf]; omega⟩
            | false =>
              refine wp_region_noPanic ?_
              refine wp_region_held_drew (S := (fun W => RnS w.heap.size gt wr.heap.size [.int .i64 l.head, .string N, .string F, .string V] g (o + j * 4) [.int .i64 q.head, .string Nq, .string Fq, .string Vq] wr W)) (by kernel_rfl) (⟨tN'.out.keep ((Keeps.refl _ _).drew), ((Keeps.refl (fun _ => False) _).drew).rangeAt bN'.out id, ((Keeps.refl (fun _ => False) _).drew).rangeAt (kN'.out.rangeAt hprev.out id) id, kN'.out.drew⟩) (fun hHeld => ?_)
              refine tkL 0 rfl (yieldsIf_load_mid (by rfl) 79 (.tmp 5) rfl wr.heap.size 0 rfl [.int .i64 l.head, .string N, .string F, .string V] _ (fun _ s => s.b) Tryz.underlying79 rfl lineInfo) ?_
              refine tk 1 rfl ?_
              refine stepL 2 rfl (by kernel_rfl) (fun K hK => ?_)
              go_simp
              (refine (canBe_any l.head N F V gt w.heap.size true _ hNs hVs (Lib.hid hHeld.t) hzl').mono ?_; rintro e w4 ⟨rfl, hk4⟩)
              go_wp2_with fail
              refine hK.out _ _ (hHeld.next hk4) (fun hHeld => ?_)
              clear hK K
              try simp only [Act.put, sA, sZ, sS]
              refine tk 3 rfl ?_
              refine tk 4 rfl ?_
              refine tk 5 rfl ?_
              refine tk 6 rfl ?_
              refine tk 7 rfl ?_
              refine tk 8 rfl ?_
              refine tk 9 rfl ?_
              refine tk 10 rfl ?_
              refine tk 11 rfl ?_
              refine tkL 12 rfl (yieldsIf_load_mid (by rfl) 79 (.tmp 28) rfl g (o + j * 4) rfl [.int .i64 q.head, .string Nq, .string Fq, .string Vq] _ (fun _ s => s.m) Tryz.underlying79 rfl lineInfo) ?_
              refine tkL 13 rfl (yieldsIf_load_mid (by rfl) 79 (.tmp 5) rfl wr.heap.size 0 rfl [.int .i64 l.head, .string N, .string F, .string V] _ (fun _ s => s.b) Tryz.underlying79 rfl lineInfo) ?_
              refine stepL 14 rfl (by kernel_rfl) (fun K hK => ?_)
              go_simp
              (refine (less_any q.head l.head Nq Fq Vq N F V false _ hzs').mono ?_; rintro e w5 ⟨rfl, hk5⟩)
              go_wp2_with fail
              refine hK.out _ _ (hHeld.next hk5) (fun hHeld => ?_)
              clear hK K
              try simp only [Act.put, sA, sZ, sS]
              refine tk 15 rfl ?_
              refine tk 16 rfl ?_
              refine tk 17 rfl ?_
              refine wpAnyH_done (by kernel_rfl) (NoPanic.normal ?_) _
              have hkk := Lib.hid (hkr.out.trans hHeld.k)
              clear hHeld l1 l3 l4 l5
              have hz0 : Hid (z = false) := Lib.hid (by
                rw [← hz.out]
                unfold rightC
                rw [riseB_le (k := j + 1 + 1) (by rw [riseB, hll'.out]; simp only; rw [hqq'.out]; simp only; rw [hld'.out, hqd'.out]; simp [hzs'.out]) ls.length (by omega)]; simp)
              go_wp2
              go_ret
              exact ⟨by rw [hz0.out]; rfl, k1'.out.trans hkk.out⟩
      · obtain rfl : k = ls.length := by omega
        have hz1 : Hid (z = true) := Lib.hid (by rw [← hz.out]; unfold rightC; rw [hrise.out]; simp [h64])
        go_wp2
        go_ret
        exact ⟨by rw [hz1.out]; rfl, k1'.out.trans hkr.out⟩
  · have hz0 : Hid (z = false) := Lib.hid (by rw [← hz.out]; unfold rightC; simp [h64])
    have h64' : 64 < ls.length := by omega
    clear h64
    go_enter Tryz.func46, Tryz.ntmps46
    go_wp2
    go_ret
    exact ⟨by rw [hz0.out]; rfl, Keeps.refl _ _⟩
end Go.Proofs.YtialookpnoaogaaGreat
/- The document's Right of lines, walked. -/
namespace Go.Proofs.YtialookpnoaogaaGreat
open Go.RowKit

theorem lineInfo5 : (Tryz.prog.info? 55).map (·.size) = some 4 := by kernel_rfl
structure Rn5 (g o : Nat) (L : List Value) (g2 o2 : Nat) (M : List Value) (w0 W : World) : Prop where
  b : W.rangeAt g o L
  m : W.rangeAt g2 o2 M
  k : Keeps (fun _ => False) w0 W
theorem Rn5.next {g o : Nat} {L : List Value} {g2 o2 : Nat} {M : List Value} {w0 W W' : World} (s : Rn5 g o L g2 o2 M w0 W) (k : Keeps (fun _ => False) W W') : Rn5 g o L g2 o2 M w0 W' :=
  ⟨k.rangeAt s.b id, k.rangeAt s.m id, s.k.trans k⟩

set_option maxRecDepth 100000 in
set_option maxHeartbeats 4000000 in
theorem rRight_c (v : Value) (ls : List LineD) (z : Bool) (w : World) (hv : Hid (LinesAt w v ls)) (hl : ls.length ≤ 9223372036854775807) (hlt : Hid (LinesLt ls 8796093022000)) (hz : Hid (rightC ls = z)) :
    Calls Tryz.prog 27 #[v] w (NewRes (.bool z) w) := by
  obtain ⟨p, c, rfl, hv0⟩ := hv.out
  have hv' := Lib.hid hv0; clear hv0 hv
  go_enter Tryz.func27, Tryz.ntmps27
  go_wp2_with fail
  go_loopw [3] (fun i wr => ∃ k : Nat, k ≤ ls.length ∧ i = .int .i64 k ∧ Hid (riseB ls k = true) ∧ Hid (Keeps (fun _ => False) w wr)) (fun i _ => ls.length - (intOf i).toNat)
  case atStart => exact ⟨0, by omega, rfl, Lib.hid rfl, Lib.hid (Keeps.refl _ _)⟩
  case round =>
    obtain ⟨k, hk, rfl, hrise, hkr⟩ := hrel
    by_cases hlk : k < ls.length
    · obtain ⟨g, o, rfl, hrows⟩ := hv'.out (by omega)
      obtain ⟨l, hll⟩ : ∃ l, ls[k]? = some l := ⟨_, List.getElem?_eq_getElem hlk⟩
      have hsz := hlt.out l (List.mem_of_getElem? hll)
      obtain ⟨N, hN⟩ : ∃ N : ByteArray, N = ⟨l.name.toArray⟩ := ⟨_, rfl⟩
      obtain ⟨F, hF⟩ : ∃ F : ByteArray, F = ⟨l.leaf.toArray⟩ := ⟨_, rfl⟩
      obtain ⟨V, hV⟩ : ∃ V : ByteArray, V = ⟨l.value.toArray⟩ := ⟨_, rfl⟩
      have hNs : N.size ≤ 8796093022000 := by rw [hN]; exact hsz.1
      have hVs : V.size ≤ 8796093022000 := by rw [hV]; exact hsz.2.2
      have hld : l = ⟨l.head, N.data.toList, F.data.toList, V.data.toList⟩ := by rw [hN, hF, hV]
      have hrow : Hid (wr.rangeAt g (o + k * 4) [.int .i64 l.head, .string N, .string F, .string V]) := Lib.hid (by
        rw [hN, hF, hV]; exact hkr.out.rangeAt (hrows k l hll) id)
      have hld' := Lib.hid hld; have hll' := Lib.hid hll; have hrows' := Lib.hid hrows
      clear hld hll hrows hN hF hV hsz
      obtain ⟨zl, hzl⟩ : ∃ zl, lineB ⟨l.head, N.data.toList, F.data.toList, V.data.toList⟩ = zl := ⟨_, rfl⟩
      have hzl' := Lib.hid hzl; clear hzl
      have m1 : (0 : Int) ≤ (k : Int) := by omega
      have m2 : (k : Int) < ls.length := by omega
      go_wp2_with fail
      cases zl with
      | false =>
        refine wp_region_noPanic ?_
        refine wp_region_held_drew (S := (fun W => Rn5 g (o + k * 4) [.int .i64 l.head, .string N, .string F, .string V] g (o + k * 4) [.int .i64 l.head, .string N, .string F, .string V] wr W)) (by kernel_rfl) (⟨((Keeps.refl (fun _ => False) _).drew).rangeAt hrow.out id, ((Keeps.refl (fun _ => False) _).drew).rangeAt hrow.out id, (Keeps.refl _ _).drew⟩) (fun hHeld => ?_)
        refine tk 0 rfl ?_
        refine tk 1 rfl ?_
        refine tk 2 rfl ?_
        refine tkL 3 rfl (yieldsIf_load_mid (by rfl) 55 (.tmp 12) rfl g (o + k * 4) rfl [.int .i64 l.head, .string N, .string F, .string V] _ (fun _ s => s.b) Tryz.underlying55 rfl lineInfo5) ?_
        refine stepL 4 rfl (by kernel_rfl) (fun K hK => ?_)
        go_simp
        (refine (rRightLine_any l.head N F V false _ hNs hVs hzl').mono ?_; rintro e w4 ⟨rfl, hk4⟩)
        go_wp2_with fail
        refine hK.out _ _ (hHeld.next hk4) (fun hHeld => ?_)
        clear hK K
        try simp only [Act.put, sA, sZ, sS]
        refine tk 5 rfl ?_
        refine tk 6 rfl ?_
        refine tkS 7 rfl ?_
        refine tkS 8 rfl ?_
        refine tkS 9 rfl ?_
        refine tkS 10 rfl ?_
        refine tkS 11 rfl ?_
        refine tkS 12 rfl ?_
        refine tkS 13 rfl ?_
        refine tkS 14 rfl ?_
        refine tkS 15 rfl ?_
        refine tkS 16 rfl ?_
        refine tkS 17 rfl ?_
        refine tkS 18 rfl ?_
        refine tkS 19 rfl ?_
        refine tkS 20 rfl ?_
        refine tkS 21 rfl ?_
        refine tk 22 rfl ?_
        refine wpAnyH_done (by kernel_rfl) (NoPanic.normal ?_) _
        have hkk := Lib.hid (hkr.out.trans hHeld.k)
        have hz0 : Hid (z = false) := Lib.hid (by
          rw [← hz.out]
          unfold rightC
          rw [riseB_le (k := k + 1) (by unfold riseB; rw [hll'.out]; simp only; rw [hld'.out, hzl'.out]; simp) ls.length (by omega)]; simp)
        clear hHeld m1 m2
        go_wp2
        go_ret
        exact ⟨by rw [hz0.out]; rfl, hkk.out⟩
      | true =>
        cases k with
        | zero =>
          refine wp_region_noPanic ?_
          refine wp_region_held_drew (S := (fun W => Rn5 g (o + 0 * 4) [.int .i64 l.head, .string N, .string F, .string V] g (o + 0 * 4) [.int .i64 l.head, .string N, .string F, .string V] wr W)) (by kernel_rfl) (⟨((Keeps.refl (fun _ => False) _).drew).rangeAt hrow.out id, ((Keeps.refl (fun _ => False) _).drew).rangeAt hrow.out id, (Keeps.refl _ _).drew⟩) (fun hHeld => ?_)
          refine tk 0 rfl ?_
          refine tk 1 rfl ?_
          refine tk 2 rfl ?_
          refine tkL 3 rfl (yieldsIf_load_mid (by rfl) 55 (.tmp 12) rfl g (o + 0 * 4) rfl [.int .i64 l.head, .string N, .string F, .string V] _ (fun _ s => s.b) Tryz.underlying55 rfl lineInfo5) ?_
          refine stepL 4 rfl (by kernel_rfl) (fun K hK => ?_)
          go_simp
          (refine (rRightLine_any l.head N F V true _ hNs hVs hzl').mono ?_; rintro e w4 ⟨rfl, hk4⟩)
          go_wp2_with fail
          refine hK.out _ _ (hHeld.next hk4) (fun hHeld => ?_)
          clear hK K
          try simp only [Act.put, sA, sZ, sS]
          refine tk 5 rfl ?_
          refine tk 6 rfl ?_
          refine tk 7 rfl ?_
          refine tk 8 rfl ?_
          refine tk 9 rfl ?_
          refine tkS 10 rfl ?_
          refine tkS 11 rfl ?_
          refine tkS 12 rfl ?_
          refine tkS 13 rfl ?_
          refine tkS 14 rfl ?_
          refine tkS 15 rfl ?_
          refine tkS 16 rfl ?_
          refine tkS 17 rfl ?_
          refine tkS 18 rfl ?_
          refine tkS 19 rfl ?_
          refine tkS 20 rfl ?_
          refine tk 21 rfl ?_
          refine tk 22 rfl ?_
          refine wpAnyH_done (by kernel_rfl) (NoPanic.normal ?_) _
          have hkk := Lib.hid (hkr.out.trans hHeld.k)
          have hr1 : Hid (riseB ls 1 = true) := Lib.hid (by unfold riseB; rw [hll'.out]; simp only; rw [hld'.out, hzl'.out]; rfl)
          clear hHeld m1 m2
          go_wp2
          exact ⟨⟨1, by omega, by rfl, hr1, hkk⟩, by simp [intOf]; omega⟩
        | succ j =>
          obtain ⟨q, hqq⟩ : ∃ q, ls[j]? = some q := ⟨_, List.getElem?_eq_getElem (by omega)⟩
          obtain ⟨Nq, hNq⟩ : ∃ N : ByteArray, N = ⟨q.name.toArray⟩ := ⟨_, rfl⟩
          obtain ⟨Fq, hFq⟩ : ∃ F : ByteArray, F = ⟨q.leaf.toArray⟩ := ⟨_, rfl⟩
          obtain ⟨Vq, hVq⟩ : ∃ V : ByteArray, V = ⟨q.value.toArray⟩ := ⟨_, rfl⟩
          have hqd : q = ⟨q.head, Nq.data.toList, Fq.data.toList, Vq.data.toList⟩ := by rw [hNq, hFq, hVq]
          have hprev : Hid (wr.rangeAt g (o + j * 4) [.int .i64 q.head, .string Nq, .string Fq, .string Vq]) := Lib.hid (by
            rw [hNq, hFq, hVq]; exact hkr.out.rangeAt (hrows'.out j q hqq) id)
          obtain ⟨zs, hzs⟩ : ∃ zs, lessB ⟨q.head, Nq.data.toList, Fq.data.toList, Vq.data.toList⟩ ⟨l.head, N.data.toList, F.data.toList, V.data.toList⟩ = zs := ⟨_, rfl⟩
          have hzs' := Lib.hid hzs; have hqd' := Lib.hid hqd; have hqq' := Lib.hid hqq
          clear hzs hqd hqq hNq hFq hVq
          have l1 : IntKind.i64.wrap (j : Int) = (j : Int) := IntWalk.i64_in _ (by omega)
          have l3 : (0 : Int) ≤ (j : Int) := by omega
          have l4 : (j : Int) < ls.length := by omega
          have l5 : (0 : Int) < (j : Int) + 1 := by omega
          have l6 : (0 : Int) ≤ (j : Int) + 1 := by omega
          have l7 : (j : Int) + 1 < ls.length := by omega
          have l8 : ((j : Int) + 1).toNat = j + 1 := by omega
          cases zs with
          | true =>
            refine wp_region_noPanic ?_
            refine wp_region_held_drew (S := (fun W => Rn5 g (o + (j + 1) * 4) [.int .i64 l.head, .string N, .string F, .string V] g (o + j * 4) [.int .i64 q.head, .string Nq, .string Fq, .string Vq] wr W)) (by kernel_rfl) (⟨((Keeps.refl (fun _ => False) _).drew).rangeAt hrow.out id, ((Keeps.refl (fun _ => False) _).drew).rangeAt hprev.out id, (Keeps.refl _ _).drew⟩) (fun hHeld => ?_)
            refine tk 0 rfl ?_
            refine tk 1 rfl ?_
            refine tk 2 rfl ?_
            refine tkL 3 rfl (yieldsIf_load_mid (by rfl) 55 (.tmp 12) rfl g (o + (j + 1) * 4) rfl [.int .i64 l.head, .string N, .string F, .string V] _ (fun _ s => s.b) Tryz.underlying55 rfl lineInfo5) ?_
            refine stepL 4 rfl (by kernel_rfl) (fun K hK => ?_)
            go_simp
            (refine (rRightLine_any l.head N F V true _ hNs hVs hzl').mono ?_; rintro e w4 ⟨rfl, hk4⟩)
            go_wp2_with fail
            refine hK.out _ _ (hHeld.next hk4) (fun hHeld => ?_)
            clear hK K
            try simp only [Act.put, sA, sZ, sS]
            refine tk 5 rfl ?_
            refine tk 6 rfl ?_
            refine tk 7 rfl ?_
            refine tk 8 rfl ?_
            refine tk 9 rfl ?_
            refine tk 10 rfl ?_
            refine tk 11 rfl ?_
            refine tk 12 rfl ?_
            refine tk 13 rfl ?_
            refine tkL 14 rfl (yieldsIf_load_mid (by rfl) 55 (.tmp 23) rfl g (o + j * 4) rfl [.int .i64 q.head, .string Nq, .string Fq, .string Vq] _ (fun _ s => s.m) Tryz.underlying55 rfl lineInfo5) ?_
            refine tk 15 rfl ?_
            refine tk 16 rfl ?_
            refine tk 17 rfl ?_
            refine tkL 18 rfl (yieldsIf_load_mid (by rfl) 55 (.tmp 27) rfl g (o + (j + 1) * 4) rfl [.int .i64 l.head, .string N, .string F, .string V] _ (fun _ s => s.b) Tryz.underlying55 rfl lineInfo5) ?_
            refine stepL 19 rfl (by kernel_rfl) (fun K hK => ?_)
            go_simp
            (refine (rLess_any q.head l.head Nq Fq Vq N F V true _ hzs').mono ?_; rintro e w5 ⟨rfl, hk5⟩)
            go_wp2_with fail
            refine hK.out _ _ (hHeld.next hk5) (fun hHeld => ?_)
            clear hK K
            try simp only [Act.put, sA, sZ, sS]
            refine tk 20 rfl ?_
            refine tk 21 rfl ?_
            refine tk 22 rfl ?_
            refine wpAnyH_done (by kernel_rfl) (NoPanic.normal ?_) _
            have hkk := Lib.hid (hkr.out.trans hHeld.k)
            clear hHeld l1 l3 l4 l5 l6 l7 l8 m1 m2
            have hr1 : Hid (riseB ls (j + 1 + 1) = true) := Lib.hid (by
              rw [riseB, hrise.out, hll'.out]; simp only; rw [hqq'.out]; simp only; rw [hld'.out, hqd'.out, hzl'.out]; simpa using hzs'.out)
            go_wp2
            exact ⟨⟨j + 1 + 1, by omega, by go_num, hr1, hkk⟩, by simp [intOf]; omega⟩
          | false =>
            refine wp_region_noPanic ?_
            refine wp_region_held_drew (S := (fun W => Rn5 g (o + (j + 1) * 4) [.int .i64 l.head, .string N, .string F, .string V] g (o + j * 4) [.int .i64 q.head, .string Nq, .string Fq, .string Vq] wr W)) (by kernel_rfl) (⟨((Keeps.refl (fun _ => False) _).drew).rangeAt hrow.out id, ((Keeps.refl (fun _ => False) _).drew).rangeAt hprev.out id, (Keeps.refl _ _).drew⟩) (fun hHeld => ?_)
            refine tk 0 rfl ?_
            refine tk 1 rfl ?_
            refine tk 2 rfl ?_
            refine tkL 3 rfl (yieldsIf_load_mid (by rfl) 55 (.tmp 12) rfl g (o + (j + 1) * 4) rfl [.int .i64 l.head, .string N, .string F, .string V] _ (fun _ s => s.b) Tryz.underlying55 rfl lineInfo5) ?_
            refine stepL 4 rfl (by kernel_rfl) (fun K hK => ?_)
            go_simp
            (refine (rRightLine_any l.head N F V true _ hNs hVs hzl').mono ?_; rintro e w4 ⟨rfl, hk4⟩)
            go_wp2_with fail
            refine hK.out _ _ (hHeld.next hk4) (fun hHeld => ?_)
            clear hK K
            try simp only [Act.put, sA, sZ, sS]
            refine tk 5 rfl ?_
            refine tk 6 rfl ?_
            refine tk 7 rfl ?_
            refine tk 8 rfl ?_
            refine tk 9 rfl ?_
            refine tk 10 rfl ?_
            refine tk 11 rfl ?_
            refine tk 12 rfl ?_
            refine tk 13 rfl ?_
            refine tkL 14 rfl (yieldsIf_load_mid (by rfl) 55 (.tmp 23) rfl g (o + j * 4) rfl [.int .i64 q.head, .string Nq, .string Fq, .string Vq] _ (fun _ s => s.m) Tryz.underlying55 rfl lineInfo5) ?_
            refine tk 15 rfl ?_
            refine tk 16 rfl ?_
            refine tk 17 rfl ?_
            refine tkL 18 rfl (yieldsIf_load_mid (by rfl) 55 (.tmp 27) rfl g (o + (j + 1) * 4) rfl [.int .i64 l.head, .string N, .string F, .string V] _ (fun _ s => s.b) Tryz.underlying55 rfl lineInfo5) ?_
            refine stepL 19 rfl (by kernel_rfl) (fun K hK => ?_)
            go_simp
            (refine (rLess_any q.head l.head Nq Fq Vq N F V false _ hzs').mono ?_; rintro e w5 ⟨rfl, hk5⟩)
            go_wp2_with fail
            refine hK.out _ _ (hHeld.next hk5) (fun hHeld => ?_)
            clear hK K
            try simp only [Act.put, sA, sZ, sS]
            refine tk 20 rfl ?_
            refine tk 21 rfl ?_
            refine tk 22 rfl ?_
            refine wpAnyH_done (by kernel_rfl) (NoPanic.normal ?_) _
            have hkk := Lib.hid (hkr.out.trans hHeld.k)
            clear hHeld l1 l3 l4 l5 l6 l7 l8 m1 m2
            have hz0 : Hid (z = false) := Lib.hid (by
              rw [← hz.out]
              unfold rightC
              rw [riseB_le (k := j + 1 + 1) (by rw [riseB, hll'.out]; simp only; rw [hqq'.out]; simp only; rw [hld'.out, hqd'.out]; simp [hzs'.out]) ls.length (by omega)]; simp)
            go_wp2
            go_ret
            exact ⟨by rw [hz0.out]; rfl, hkk.out⟩
    · obtain rfl : k = ls.length := by omega
      by_cases h64 : ls.length ≤ 64
      · have hz1 : Hid (z = true) := Lib.hid (by rw [← hz.out]; unfold rightC; rw [hrise.out]; simp [h64])
        have h64' : decide ((ls.length : Int) ≤ 64) = true := by simp; omega
        clear h64
        go_wp2
        go_ret
        exact ⟨by rw [hz1.out]; rfl, hkr.out⟩
      · have hz1 : Hid (z = false) := Lib.hid (by rw [← hz.out]; unfold rightC; simp [h64])
        have h64' : decide ((ls.length : Int) ≤ 64) = false := by simp; omega
        clear h64
        go_wp2
        go_ret
        exact ⟨by rw [hz1.out]; rfl, hkr.out⟩
end Go.Proofs.YtialookpnoaogaaGreat
