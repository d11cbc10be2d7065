/- conf.find, walked. -/
import Derived.Test.YtdjmhjgfjbcdkaaCFE
namespace Go.Proofs.Ytdjmhjgfjbcdkaa
open Go.RowKit

/-- where a line would stand -/
def posL (x : LineD) : List LineD → Nat
  | [] => 0
  | q :: ls => if lessB q x then posL x ls + 1 else 0
theorem posL_le (x : LineD) (ls : List LineD) : posL x ls ≤ ls.length := by
  induction ls with
  | nil => exact Nat.le_refl _
  | cons q ls ih => unfold posL; split <;> simp <;> omega
theorem posL_lt {x : LineD} : ∀ {ls : List LineD} {k : Nat} {q : LineD}, k < posL x ls → ls[k]? = some q → lessB q x = true := by
  intro ls
  induction ls with
  | nil => intro k q h; cases h
  | cons p ls ih =>
    intro k q h hq
    unfold posL at h
    by_cases hp : lessB p x = true
    · rw [if_pos hp] at h
      cases k with
      | zero => simp at hq; subst hq; exact hp
      | succ k => exact ih (k := k) (by omega) (by simpa using hq)
    · rw [if_neg hp] at h; omega
theorem posL_at {x : LineD} : ∀ {ls : List LineD} {q : LineD}, ls[posL x ls]? = some q → lessB q x = false := by
  intro ls
  induction ls with
  | nil => intro q hq; simp at hq
  | cons p ls ih =>
    intro q hq
    unfold posL at hq
    by_cases hp : lessB p x = true
    · rw [if_pos hp] at hq; exact ih (by simpa using hq)
    · rw [if_neg hp] at hq; simp at hq; subst hq; simpa using hp
/-- stands a line like it there -/
def thereB (x : LineD) (ls : List LineD) : Bool := match ls[posL x ls]? with
  | some q => !lessB x q
  | none => false

set_option maxRecDepth 100000 in
set_option maxHeartbeats 4000000 in
theorem find_c (v : Value) (ls : List LineD) (h : Int) (Nx Fx Vx : ByteArray) (at' : Nat) (z : Bool) (w : World) (hv : Hid (LinesAt w v ls)) (hl : ls.length ≤ 9223372036854775806)
    (ha : Hid (posL ⟨h, Nx.data.toList, Fx.data.toList, Vx.data.toList⟩ ls = at')) (hz : Hid (thereB ⟨h, Nx.data.toList, Fx.data.toList, Vx.data.toList⟩ ls = z)) :
    Calls Try.prog 37 #[v, .agg #[.int .i64 h, .string Nx, .string Fx, .string Vx]] w (NewRes (.tuple #[.int .i64 (at' : Nat), .bool z]) w) := by
  obtain ⟨p, c, rfl, hv0⟩ := hv.out
  have hv' := Lib.hid hv0; clear hv0 hv
  have hal := posL_le ⟨h, Nx.data.toList, Fx.data.toList, Vx.data.toList⟩ ls
  rw [ha.out] at hal
  have hx0 : Hid ((w.alloc (.cells #[.int .i64 h, .string Nx, .string Fx, .string Vx] 36)).rangeAt w.heap.size 0 [.int .i64 h, .string Nx, .string Fx, .string Vx]) := Lib.hid (new_range w _ _ 36 (Keeps.refl _ _))
  go_enter Try.func37, Try.ntmps37
  go_wp2_with fail
  go_loopw [6] (fun i wr => ∃ k : Nat, k ≤ at' ∧ i = .int .i64 k ∧ Hid (Keeps (fun _ => False) (w.alloc (.cells #[.int .i64 h, .string Nx, .string Fx, .string Vx] 36)) wr)) (fun i _ => at' - (intOf i).toNat)
  case atStart => exact ⟨0, by omega, rfl, Lib.hid (Keeps.refl _ _)⟩
  case round =>
    obtain ⟨k, hk, rfl, hkr⟩ := hrel
    have hxr : Hid (wr.rangeAt w.heap.size 0 [.int .i64 h, .string Nx, .string Fx, .string Vx]) := Lib.hid (hkr.out.rangeAt hx0.out id)
    have kw0 : Keeps (fun _ => False) w wr := ((Keeps.refl _ _).alloc _).trans hkr.out
    by_cases hkl : k < ls.length
    · obtain ⟨g, o, rfl, hrows⟩ := hv'.out (by omega)
      obtain ⟨q, hqq⟩ : ∃ q, ls[k]? = some q := ⟨_, List.getElem?_eq_getElem hkl⟩
      obtain ⟨N, hN⟩ : ∃ N : ByteArray, N = ⟨q.name.toArray⟩ := ⟨_, rfl⟩
      obtain ⟨F, hF⟩ : ∃ F : ByteArray, F = ⟨q.leaf.toArray⟩ := ⟨_, rfl⟩
      obtain ⟨V, hV⟩ : ∃ V : ByteArray, V = ⟨q.value.toArray⟩ := ⟨_, rfl⟩
      have hqd : q = ⟨q.head, N.data.toList, F.data.toList, V.data.toList⟩ := by rw [hN, hF, hV]
      have hrow : Hid (wr.rangeAt g (o + k * 4) [.int .i64 q.head, .string N, .string F, .string V]) := Lib.hid (by rw [hN, hF, hV]; exact kw0.rangeAt (hrows k q hqq) id)
      have m1 : (0 : Int) ≤ (k : Int) := by omega
      have m2 : (k : Int) < ls.length := by omega
      have kw := Lib.hid kw0
      clear hN hF hV hrows kw0
      by_cases hka : k < at'
      · have hls : Hid (lessB ⟨q.head, N.data.toList, F.data.toList, V.data.toList⟩ ⟨h, Nx.data.toList, Fx.data.toList, Vx.data.toList⟩ = true) := Lib.hid (by
          rw [← hqd]; exact posL_lt (by rw [ha.out]; exact hka) hqq)
        have hqd' := Lib.hid hqd; have hqq' := Lib.hid hqq; clear hqd hqq
        go_wp2_with fail
        refine wp_region_noPanic ?_
        refine wp_region_held_drew (S := (fun W => Rn5 g (o + k * 4) [.int .i64 q.head, .string N, .string F, .string V] w.heap.size 0 [.int .i64 h, .string Nx, .string Fx, .string Vx] wr W)) (by kernel_rfl) (⟨((Keeps.refl (fun _ => False) _).drew).rangeAt hrow.out id, ((Keeps.refl (fun _ => False) _).drew).rangeAt hxr.out id, (Keeps.refl _ _).drew⟩) (fun hHeld => ?_)
        refine tk 0 rfl ?_
        refine tk 1 rfl ?_
        refine tk 2 rfl ?_
        refine tk 3 rfl ?_
        refine tk 4 rfl ?_
        refine tk 5 rfl ?_
        refine tk 6 rfl ?_
        refine tk 7 rfl ?_
        refine tkL 8 rfl (yieldsIf_load_mid (by rfl) 36 (.tmp 14) rfl g (o + k * 4) rfl [.int .i64 q.head, .string N, .string F, .string V] _ (fun _ s => s.b) Try.underlying36 rfl lineInfo) ?_
        refine tkL 9 rfl (yieldsIf_load_mid (by rfl) 36 (.tmp 3) rfl w.heap.size 0 rfl [.int .i64 h, .string Nx, .string Fx, .string Vx] _ (fun _ s => s.m) Try.underlying36 rfl lineInfo) ?_
        refine stepL 10 rfl (by kernel_rfl) (fun K hK => ?_)
        go_simp
        (refine (less_any q.head h N F V Nx Fx Vx true _ hls).mono ?_; rintro e w5 ⟨rfl, hk5⟩)
        go_wp2_with fail
        refine hK.out _ _ (hHeld.next hk5) (fun hHeld => ?_)
        clear hK K
        try simp only [Act.put, sA, sZ, sS]
        refine tk 11 rfl ?_
        refine wpAnyH_done (by kernel_rfl) (NoPanic.normal ?_) _
        have hkk := Lib.hid (hkr.out.trans hHeld.k)
        clear hHeld m1 m2
        go_wp2
        exact ⟨⟨k + 1, by omega, by go_num, hkk⟩, by simp [intOf]; omega⟩
      · obtain rfl : k = at' := by omega
        have hls : Hid (lessB ⟨q.head, N.data.toList, F.data.toList, V.data.toList⟩ ⟨h, Nx.data.toList, Fx.data.toList, Vx.data.toList⟩ = false) := Lib.hid (by
          rw [← hqd]; exact posL_at (by rw [ha.out]; exact hqq))
        obtain ⟨zb, hzb⟩ : ∃ zb, lessB ⟨h, Nx.data.toList, Fx.data.toList, Vx.data.toList⟩ ⟨q.head, N.data.toList, F.data.toList, V.data.toList⟩ = zb := ⟨_, rfl⟩
        have hzz : (!zb) = z := by
          rw [← hz.out]; unfold thereB; rw [ha.out, hqq]; simp only; rw [← hzb, ← hqd]
        have hzb' := Lib.hid hzb; have hqd' := Lib.hid hqd; have hqq' := Lib.hid hqq; clear hqd hqq hzb
        go_wp2_with fail
        refine wp_region_noPanic ?_
        refine wp_region_held_drew (S := (fun W => Rn5 g (o + k * 4) [.int .i64 q.head, .string N, .string F, .string V] w.heap.size 0 [.int .i64 h, .string Nx, .string Fx, .string Vx] wr W)) (by kernel_rfl) (⟨((Keeps.refl (fun _ => False) _).drew).rangeAt hrow.out id, ((Keeps.refl (fun _ => False) _).drew).rangeAt hxr.out id, (Keeps.refl _ _).drew⟩) (fun hHeld => ?_)
        refine tk 0 rfl ?_
        refine tk 1 rfl ?_
        refine tk 2 rfl ?_
        refine tk 3 rfl ?_
        refine tk 4 rfl ?_
        refine tk 5 rfl ?_
        refine tk 6 rfl ?_
        refine tk 7 rfl ?_
        refine tkL 8 rfl (yieldsIf_load_mid (by rfl) 36 (.tmp 14) rfl g (o + k * 4) rfl [.int .i64 q.head, .string N, .string F, .string V] _ (fun _ s => s.b) Try.underlying36 rfl lineInfo) ?_
        refine tkL 9 rfl (yieldsIf_load_mid (by rfl) 36 (.tmp 3) rfl w.heap.size 0 rfl [.int .i64 h, .string Nx, .string Fx, .string Vx] _ (fun _ s => s.m) Try.underlying36 rfl lineInfo) ?_
        refine stepL 10 rfl (by kernel_rfl) (fun K hK => ?_)
        go_simp
        (refine (less_any q.head h N F V Nx Fx Vx false _ hls).mono ?_; rintro e w5 ⟨rfl, hk5⟩)
        go_wp2_with fail
        refine hK.out _ _ (hHeld.next hk5) (fun hHeld => ?_)
        clear hK K
        try simp only [Act.put, sA, sZ, sS]
        refine tk 11 rfl ?_
        refine wpAnyH_done (by kernel_rfl) (NoPanic.normal ?_) _
        have hkk := Lib.hid hHeld
        clear hHeld
        go_wp2_with fail
        cases zb with
        | true =>
          have hz2 : false = z := hzz
          clear hzz
          subst hz2
          refine wp_region_noPanic ?_
          refine wp_region_held_drew (S := (fun W => Rn5 g (o + k * 4) [.int .i64 q.head, .string N, .string F, .string V] w.heap.size 0 [.int .i64 h, .string Nx, .string Fx, .string Vx] wr W)) (by kernel_rfl) (hkk.out.next ((Keeps.refl _ _).drew)) (fun hHeld => ?_)
          refine tk 0 rfl ?_
          refine tk 1 rfl ?_
          refine tk 2 rfl ?_
          refine tk 3 rfl ?_
          refine tk 4 rfl ?_
          refine tk 5 rfl ?_
          refine tkL 6 rfl (yieldsIf_load_mid (by rfl) 36 (.tmp 3) rfl w.heap.size 0 rfl [.int .i64 h, .string Nx, .string Fx, .string Vx] _ (fun _ s => s.m) Try.underlying36 rfl lineInfo) ?_
          refine tk 7 rfl ?_
          refine tk 8 rfl ?_
          refine tk 9 rfl ?_
          refine tkL 10 rfl (yieldsIf_load_mid (by rfl) 36 (.tmp 30) rfl g (o + k * 4) rfl [.int .i64 q.head, .string N, .string F, .string V] _ (fun _ s => s.b) Try.underlying36 rfl lineInfo) ?_
          refine stepL 11 rfl (by kernel_rfl) (fun K hK => ?_)
          go_simp
          (refine (less_any h q.head Nx Fx Vx N F V true _ hzb').mono ?_; rintro e w6 ⟨rfl, hk6⟩)
          go_wp2_with fail
          refine hK.out _ _ (hHeld.next hk6) (fun hHeld => ?_)
          clear hK K
          try simp only [Act.put, sA, sZ, sS]
          refine tk 12 rfl ?_
          refine tk 13 rfl ?_
          refine tk 14 rfl ?_
          refine tk 15 rfl ?_
          refine wpAnyH_done (by kernel_rfl) (NoPanic.normal ?_) _
          have hfin := Lib.hid (kw.out.trans hHeld.k)
          clear hHeld m1 m2
          go_wp2
          go_ret2
          exact ⟨rfl, hfin.out⟩
        | false =>
          have hz2 : true = z := hzz
          clear hzz
          subst hz2
          refine wp_region_noPanic ?_
          refine wp_region_held_drew (S := (fun W => Rn5 g (o + k * 4) [.int .i64 q.head, .string N, .string F, .string V] w.heap.size 0 [.int .i64 h, .string Nx, .string Fx, .string Vx] wr W)) (by kernel_rfl) (hkk.out.next ((Keeps.refl _ _).drew)) (fun hHeld => ?_)
          refine tk 0 rfl ?_
          refine tk 1 rfl ?_
          refine tk 2 rfl ?_
          refine tk 3 rfl ?_
          refine tk 4 rfl ?_
          refine tk 5 rfl ?_
          refine tkL 6 rfl (yieldsIf_load_mid (by rfl) 36 (.tmp 3) rfl w.heap.size 0 rfl [.int .i64 h, .string Nx, .string Fx, .string Vx] _ (fun _ s => s.m) Try.underlying36 rfl lineInfo) ?_
          refine tk 7 rfl ?_
          refine tk 8 rfl ?_
          refine tk 9 rfl ?_
          refine tkL 10 rfl (yieldsIf_load_mid (by rfl) 36 (.tmp 30) rfl g (o + k * 4) rfl [.int .i64 q.head, .string N, .string F, .string V] _ (fun _ s => s.b) Try.underlying36 rfl lineInfo) ?_
          refine stepL 11 rfl (by kernel_rfl) (fun K hK => ?_)
          go_simp
          (refine (less_any h q.head Nx Fx Vx N F V false _ hzb').mono ?_; rintro e w6 ⟨rfl, hk6⟩)
          go_wp2_with fail
          refine hK.out _ _ (hHeld.next hk6) (fun hHeld => ?_)
          clear hK K
          try simp only [Act.put, sA, sZ, sS]
          refine tk 12 rfl ?_
          refine tk 13 rfl ?_
          refine tk 14 rfl ?_
          refine tk 15 rfl ?_
          refine wpAnyH_done (by kernel_rfl) (NoPanic.normal ?_) _
          have hfin := Lib.hid (kw.out.trans hHeld.k)
          clear hHeld m1 m2
          go_wp2
          go_ret2
          exact ⟨rfl, hfin.out⟩
    · obtain rfl : k = at' := by omega
      have hz2 : false = z := by
        rw [← hz.out]; unfold thereB; rw [ha.out, List.getElem?_eq_none (by omega)]
      subst hz2
      have kw := Lib.hid kw0; clear kw0
      go_wp2_with fail
      refine wp_region_noPanic ?_
      refine wp_region_held_drew (S := (fun W => Keeps (fun _ => False) wr W)) (by kernel_rfl) ((Keeps.refl _ _).drew) (fun hHeld => ?_)
      refine tk 0 rfl ?_
      refine tk 1 rfl ?_
      refine tk 2 rfl ?_
      refine tk 3 rfl ?_
      refine tk 4 rfl ?_
      refine tkS 5 rfl ?_
      refine tkS 6 rfl ?_
      refine tkS 7 rfl ?_
      refine tkS 8 rfl ?_
      refine tkS 9 rfl ?_
      refine tkS 10 rfl ?_
      refine tk 11 rfl ?_
      refine wpAnyH_done (by kernel_rfl) (NoPanic.normal ?_) _
      have hkk := Lib.hid hHeld
      clear hHeld
      go_wp2_with fail
      refine wp_region_noPanic ?_
      refine wp_region_held_drew (S := (fun W => Keeps (fun _ => False) wr W)) (by kernel_rfl) (hkk.out.drew) (fun hHeld => ?_)
      refine tk 0 rfl ?_
      refine tk 1 rfl ?_
      refine tk 2 rfl ?_
      refine tk 3 rfl ?_
      refine tk 4 rfl ?_
      refine tk 5 rfl ?_
      refine tkS 6 rfl ?_
      refine tkS 7 rfl ?_
      refine tkS 8 rfl ?_
      refine tkS 9 rfl ?_
      refine tkS 10 rfl ?_
      refine tkS 11 rfl ?_
      refine tkS 12 rfl ?_
      refine tk 13 rfl ?_
      refine tk 14 rfl ?_
      refine tk 15 rfl ?_
      refine wpAnyH_done (by kernel_rfl) (NoPanic.normal ?_) _
      have hfin := Lib.hid (kw.out.trans hHeld)
      clear hHeld
      go_wp2
      go_ret2
      exact ⟨rfl, hfin.out⟩
end Go.Proofs.Ytdjmhjgfjbcdkaa
