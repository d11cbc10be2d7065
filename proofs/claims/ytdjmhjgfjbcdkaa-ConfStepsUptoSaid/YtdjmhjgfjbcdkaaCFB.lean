/- canBe, walked. -/
import Derived.Test.YtdjmhjgfjbcdkaaCFA
import Derived.Test.YtdjmhjgfjbcdkaaTK
namespace Go.Proofs.Ytdjmhjgfjbcdkaa
open Go.RowKit

theorem load_int (w : World) (b o : Nat) (v : Value) (h : w.cell? ⟨b, o, none⟩ = some v) : (loadVar 3 ⟨b, o, none⟩).run Try.prog w = .ok v w := by
  simp [go_sem, h]
theorem load_str (w : World) (b o : Nat) (v : Value) (h : w.cell? ⟨b, o, none⟩ = some v) : (loadVar 9 ⟨b, o, none⟩).run Try.prog w = .ok v w := by
  simp [go_sem, h]
/-- may a line be -/
def lineB (l : LineD) : Bool := match findD l.head l.leaf with
  | some r => namedB l.head l.name && rightB r.kind r.lo r.hi r.cs l.value
  | none => false
/-- what the region of a found row keeps -/
structure CanS (g o : Nat) (L : List Value) (p : Option Addr) (n c : Nat) (cs : List (List UInt8)) (B : Nat) (h : Int) (N F V : ByteArray) (w0 W : World) : Prop where
  r : W.rangeAt g o L
  s : StrsAt W (.slice p n c) cs
  b0 : W.cell? ⟨B, 0, none⟩ = some (.int .i64 h)
  b1 : W.cell? ⟨B, 1, none⟩ = some (.string N)
  b2 : W.cell? ⟨B, 2, none⟩ = some (.string F)
  b3 : W.cell? ⟨B, 3, none⟩ = some (.string V)
  k : Keeps (fun _ => False) w0 W
theorem CanS.next {g o : Nat} {L : List Value} {p : Option Addr} {n c : Nat} {cs : List (List UInt8)} {B : Nat} {h : Int} {N F V : ByteArray} {w0 W W' : World} (s : CanS g o L p n c cs B h N F V w0 W) (k : Keeps (fun _ => False) W W') : CanS g o L p n c cs B h N F V w0 W' :=
  ⟨k.rangeAt s.r id, s.s.keep k (fun _ _ _ f => f), (k.cell (p := ⟨B, 0, none⟩) (World.block_lt_of_cell? W _ s.b0) id).trans s.b0, (k.cell (p := ⟨B, 1, none⟩) (World.block_lt_of_cell? W _ s.b1) id).trans s.b1, (k.cell (p := ⟨B, 2, none⟩) (World.block_lt_of_cell? W _ s.b2) id).trans s.b2, (k.cell (p := ⟨B, 3, none⟩) (World.block_lt_of_cell? W _ s.b3) id).trans s.b3, s.k.trans k⟩

set_option maxRecDepth 100000 in
set_option maxHeartbeats 4000000 in
theorem canBe_any (h : Int) (N F V : ByteArray) (g Bt : Nat) (z : Bool) (w : World) (hn : N.size ≤ 9223372036854775807) (hv : V.size ≤ 9223372036854775807) (ht : Hid (TableAt Bt w g))
    (hz : Hid (lineB ⟨h, N.data.toList, F.data.toList, V.data.toList⟩ = z)) :
    Calls Try.prog 35 #[.agg #[.int .i64 h, .string N, .string F, .string V], .slice (some ⟨g, 0, none⟩) 12 12] w (NewRes (.bool z) w) := by
  go_enter Try.func35, Try.ntmps35
  go_wp2
  go_loopw [8] (fun i wr => ∃ k : Nat, k ≤ 12 ∧ i = .int .i64 k ∧ Hid (∀ (i : Nat) (q : RowD), i < k → tableD[i]? = some q → ¬ (q.head = h ∧ q.name = F.data.toList)) ∧ Hid (∃ m, wr = (w.alloc (.cells #[.int .i64 h, .string N, .string F, .string V] 36)).drewN m)) (fun i _ => 12 - (intOf i).toNat)
  case atStart => exact ⟨0, by omega, rfl, Lib.hid (fun _ _ h => by omega), Lib.hid ⟨0, rfl⟩⟩
  case round =>
    obtain ⟨k, hk12, rfl, hno, hm⟩ := hrel
    have b0 : wr.cell? ⟨w.heap.size, 0, none⟩ = some (.int .i64 h) := by obtain ⟨m, rfl⟩ := hm.out; simp [go_sem]
    have b1 : wr.cell? ⟨w.heap.size, 1, none⟩ = some (.string N) := by obtain ⟨m, rfl⟩ := hm.out; simp [go_sem]
    have b2 : wr.cell? ⟨w.heap.size, 2, none⟩ = some (.string F) := by obtain ⟨m, rfl⟩ := hm.out; simp [go_sem]
    have b3 : wr.cell? ⟨w.heap.size, 3, none⟩ = some (.string V) := by obtain ⟨m, rfl⟩ := hm.out; simp [go_sem]
    have kw : Keeps (fun _ => False) w wr := by obtain ⟨m, rfl⟩ := hm.out; exact ((Keeps.refl _ _).alloc _).drewN m
    by_cases hlt : k < 12
    · obtain ⟨r, hr⟩ : ∃ r, tableD[k]? = some r := ⟨_, List.getElem?_eq_getElem (show k < tableD.length from hlt)⟩
      obtain ⟨cv, hrange, hcs, -⟩ := (ht.out.keep kw) k r hr
      obtain ⟨p, cc, rfl, hcs0⟩ := hcs
      obtain ⟨Nm, hNm⟩ : ∃ Nm : ByteArray, Nm = ⟨r.name.toArray⟩ := ⟨_, rfl⟩
      obtain ⟨Df, hDf⟩ : ∃ Df : ByteArray, Df = ⟨r.df.toArray⟩ := ⟨_, rfl⟩
      have hra : wr.rangeAt g (k * 8) [.int .i64 r.head, .string Nm, .int .i64 r.kind, .int .i64 r.lo, .int .i64 r.hi, .slice p r.cs.length cc, .string Df, .int .i64 r.cl] := by rw [hNm, hDf]; exact hrange
      have a0 : wr.cell? ⟨g, k * 8, none⟩ = some (.int .i64 r.head) := hra 0 _ rfl
      have a1 : wr.cell? ⟨g, k * 8 + 1, none⟩ = some (.string Nm) := hra 1 _ rfl
      have hS0 : Hid (CanS g (k * 8) [.int .i64 r.head, .string Nm, .int .i64 r.kind, .int .i64 r.lo, .int .i64 r.hi, .slice p r.cs.length cc, .string Df, .int .i64 r.cl] p r.cs.length cc r.cs w.heap.size h N F V wr wr) := Lib.hid ⟨hra, ⟨p, cc, rfl, hcs0⟩, b0, b1, b2, b3, Keeps.refl _ _⟩
      have hNl : Nm.toList = r.name := by rw [hNm, Lib.toList_data]
      have hcl : r.cs.length ≤ 1000 := by
        have : ∀ q ∈ tableD, q.cs.length ≤ 1000 := by decide
        exact this r (List.mem_of_getElem? hr)
      have hr' := Lib.hid hr; have kw' := Lib.hid kw
      clear hra hrange hcs0 hNm hDf hr kw
      by_cases hh : r.head = h
      · have e1 : (r.head == h) = true := by simpa using hh
        by_cases hn2 : r.name = F.data.toList
        · have e2 : (Nm.toList == F.toList) = true := by rw [hNl, Lib.toList_data, hn2]; simp
          have hfr := find_step hr'.out hno.out ⟨hh, hn2⟩
          have hzz := hz.out
          unfold lineB at hzz
          simp only [hfr] at hzz
          have hzz' := Lib.hid hzz; clear hzz hfr hh hn2
          have hNl' := Lib.hid hNl; clear hNl
          go_wp2
          go_quiet (fail)
          go_wp2
          obtain ⟨zn, hzn⟩ : ∃ zn, namedB h N.data.toList = zn := ⟨_, rfl⟩
          obtain ⟨zr, hzr⟩ : ∃ zr, rightB r.kind r.lo r.hi r.cs V.data.toList = zr := ⟨_, rfl⟩
          have hzq : (zn && zr) = z := by rw [← hzz'.out, hzn, hzr]
          have hzn' := Lib.hid hzn; have hzr' := Lib.hid hzr
          clear hzn hzr
          cases zn with
          | true =>
            have hz2 : zr = z := hzq
            clear hzq
            subst hz2
            refine wp_region_noPanic ?_
            refine wp_region_held_drew (S := (fun W => CanS g (k * 8) [.int .i64 r.head, .string Nm, .int .i64 r.kind, .int .i64 r.lo, .int .i64 r.hi, .slice p r.cs.length cc, .string Df, .int .i64 r.cl] p r.cs.length cc r.cs w.heap.size h N F V wr W)) (by kernel_rfl) (hS0.out.next (((Keeps.refl _ _).drewN nq).drew)) (fun hHeld => ?_)
            refine tk 0 rfl ?_
            refine tkL 1 rfl (yieldsIf_load_cell (by rfl) 3 (.tmp 29) rfl w.heap.size 0 rfl _ (fun _ s => s.b0) (fun w s => load_int w _ _ _ s)) ?_
            refine tk 2 rfl ?_
            refine tkL 3 rfl (yieldsIf_load_cell (by rfl) 9 (.tmp 31) rfl w.heap.size 1 rfl _ (fun _ s => s.b1) (fun w s => load_str w _ _ _ s)) ?_
            refine stepL 4 rfl (by kernel_rfl) (fun K hK => ?_)
            go_simp
            (refine (named_any h N true _ hn hzn').mono ?_; rintro e w4 ⟨rfl, m4, rfl⟩)
            go_wp2_with fail
            refine hK.out _ _ (hHeld.next ⟨rfl, rfl, rfl, Nat.le_refl _, fun _ _ _ => rfl⟩) (fun hHeld => ?_)
            clear hK K
            try simp only [Act.put, sA, sZ, sS]
            refine tk 5 rfl ?_
            refine tk 6 rfl ?_
            refine tk 7 rfl ?_
            refine tk 8 rfl ?_
            refine tkL 9 rfl (yieldsIf_load_mid (by rfl) 75 (.tmp 37) rfl g (k * 8) rfl [.int .i64 r.head, .string Nm, .int .i64 r.kind, .int .i64 r.lo, .int .i64 r.hi, .slice p r.cs.length cc, .string Df, .int .i64 r.cl] _ (fun _ s => s.r) Try.underlying75 rfl rowInfo) ?_
            refine tk 10 rfl ?_
            refine tkL 11 rfl (yieldsIf_load_cell (by rfl) 9 (.tmp 39) rfl w.heap.size 3 rfl _ (fun _ s => s.b3) (fun w s => load_str w _ _ _ s)) ?_
            refine stepL 12 rfl (by kernel_rfl) (fun K hK => ?_)
            go_simp
            (refine (right_any r.head Nm Df r.kind r.lo r.hi r.cl p cc r.cs V zr _ hv hcl (Lib.hid hHeld.s) hzr').mono ?_; rintro e w5 ⟨rfl, hk5⟩)
            go_wp2_with fail
            refine hK.out _ _ (hHeld.next hk5) (fun hHeld => ?_)
            clear hK K
            try simp only [Act.put, sA, sZ, sS]
            refine tk 13 rfl ?_
            refine tk 14 rfl ?_
            refine wpAnyH_done (by kernel_rfl) (NoPanic.normal ?_) _
            have hkk := Lib.hid (kw'.out.trans hHeld.k)
            clear hHeld
            go_wp2
            go_ret
            exact ⟨rfl, hkk.out⟩
          | false =>
            have hz2 : false = z := hzq
            clear hzq
            subst hz2
            refine wp_region_noPanic ?_
            refine wp_region_held_drew (S := (fun W => CanS g (k * 8) [.int .i64 r.head, .string Nm, .int .i64 r.kind, .int .i64 r.lo, .int .i64 r.hi, .slice p r.cs.length cc, .string Df, .int .i64 r.cl] p r.cs.length cc r.cs w.heap.size h N F V wr W)) (by kernel_rfl) (hS0.out.next (((Keeps.refl _ _).drewN nq).drew)) (fun hHeld => ?_)
            refine tk 0 rfl ?_
            refine tkL 1 rfl (yieldsIf_load_cell (by rfl) 3 (.tmp 29) rfl w.heap.size 0 rfl _ (fun _ s => s.b0) (fun w s => load_int w _ _ _ s)) ?_
            refine tk 2 rfl ?_
            refine tkL 3 rfl (yieldsIf_load_cell (by rfl) 9 (.tmp 31) rfl w.heap.size 1 rfl _ (fun _ s => s.b1) (fun w s => load_str w _ _ _ s)) ?_
            refine stepL 4 rfl (by kernel_rfl) (fun K hK => ?_)
            go_simp
            (refine (named_any h N false _ hn hzn').mono ?_; rintro e w4 ⟨rfl, m4, rfl⟩)
            go_wp2_with fail
            refine hK.out _ _ (hHeld.next ⟨rfl, rfl, rfl, Nat.le_refl _, fun _ _ _ => rfl⟩) (fun hHeld => ?_)
            clear hK K
            try simp only [Act.put, sA, sZ, sS]
            refine tk 5 rfl ?_
            refine tkS 6 rfl ?_
            refine tkS 7 rfl ?_
            refine tkS 8 rfl ?_
            refine tkS 9 rfl ?_
            refine tkS 10 rfl ?_
            refine tkS 11 rfl ?_
            refine tkS 12 rfl ?_
            refine tk 13 rfl ?_
            refine tk 14 rfl ?_
            refine wpAnyH_done (by kernel_rfl) (NoPanic.normal ?_) _
            have hkk := Lib.hid (kw'.out.trans hHeld.k)
            clear hHeld
            go_wp2
            go_ret
            exact ⟨rfl, hkk.out⟩
        · have e2 : (Nm.toList == F.toList) = false := by rw [hNl, Lib.toList_data]; simpa using hn2
          have hno' : Hid (∀ (i : Nat) (q : RowD), i < k + 1 → tableD[i]? = some q → ¬ (q.head = h ∧ q.name = F.data.toList)) := Lib.hid (fun i q hi hq => by
            by_cases e : i = k
            · subst e
              have : q = r := by rw [hr'.out] at hq; injection hq with hq; exact hq.symm
              subst this
              exact fun ⟨_, b⟩ => hn2 b
            · exact hno.out i q (by omega) hq)
          have hNl' := Lib.hid hNl; clear hh hn2 hNl
          go_wp2
          go_quiet (fail)
          go_wp2
          exact ⟨⟨k + 1, by omega, by go_num, hno', by obtain ⟨m, rfl⟩ := hm.out; exact Lib.hid ⟨m + nq, by rw [World.drewN_drewN]⟩⟩, by simp [intOf]; omega⟩
      · have e1 : (r.head == h) = false := by simpa using hh
        have hno' : Hid (∀ (i : Nat) (q : RowD), i < k + 1 → tableD[i]? = some q → ¬ (q.head = h ∧ q.name = F.data.toList)) := Lib.hid (fun i q hi hq => by
          by_cases e : i = k
          · subst e
            have : q = r := by rw [hr'.out] at hq; injection hq with hq; exact hq.symm
            subst this
            exact fun ⟨a, _⟩ => hh a
          · exact hno.out i q (by omega) hq)
        have hNl' := Lib.hid hNl; clear hh hNl
        go_wp2
        go_quiet (fail)
        go_wp2
        exact ⟨⟨k + 1, by omega, by go_num, hno', by obtain ⟨m, rfl⟩ := hm.out; exact Lib.hid ⟨m + nq, by rw [World.drewN_drewN]⟩⟩, by simp [intOf]; omega⟩
    · obtain rfl : k = 12 := by omega
      have hfn := find_none hno.out
      have hz1 : Hid (z = false) := Lib.hid (by
        rw [← hz.out]
        unfold lineB
        simp only [hfn])
      have kw' := Lib.hid kw
      clear hfn kw
      go_wp2
      go_ret
      exact ⟨by rw [hz1.out]; rfl, kw'.out⟩
end Go.Proofs.Ytdjmhjgfjbcdkaa
