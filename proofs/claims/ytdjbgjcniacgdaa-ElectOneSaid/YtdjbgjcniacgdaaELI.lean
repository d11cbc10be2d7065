/- elect.Stable, walked. -/
import Derived.Test.YtdjbgjcniacgdaaELH
namespace Go.Proofs.Ytdjbgjcniacgdaa
open Go.RowKit

theorem passFrom_len : ∀ (m i : Nat) (ch : Bool) (ls : List VotD), (passFrom m i ch ls).2.length = ls.length
  | 0, _, _, _ => rfl
  | m + 1, i, ch, ls => by
    unfold passFrom
    split
    · rfl
    · rw [passFrom_len, List.length_set]
def stableFrom : Nat → Nat → List VotD → List VotD × Nat
  | 0, p, ls => (ls, p)
  | m + 1, p, ls => match passFrom ls.length 0 false ls with
    | (z, l') => if z && decide (p < 16) then stableFrom m (p + 1) l' else (l', p)
theorem stableFrom_step (m p : Nat) (ls l1 : List VotD) (z : Bool) (R : List VotD × Nat) (h : passFrom ls.length 0 false ls = (z, l1)) (hR : stableFrom (m + 1) p ls = R) : (if z && decide (p < 16) then stableFrom m (p + 1) l1 else (l1, p)) = R := by
  rw [← hR]; conv => rhs; rw [stableFrom]
  rw [h]
set_option maxRecDepth 100000 in
set_option maxHeartbeats 2000000 in
theorem elStable_any (sl : Value) (ls l' : List VotD) (f : VotD) (r : List VotD) (P n : Nat) (hn : Hid (ls.length = n)) (h0 : 0 < n) (hl : n ≤ 1000000) (w : World) (h : Hid (VotersAt w sl ls)) (hz : Hid (stableFrom 16 1 ls = (l', P))) (hf : Hid (l' = f :: r)) :
    Calls Try.prog 4 #[sl] w (fun e w' => e = .returned (.tuple #[.int .u32 f.dr, .int .u32 f.bdr, .int .i64 P]) ∧ Keeps (fun _ => False) w w') := by
  obtain ⟨p0, c0, rfl, hp0, hc0, hrow0⟩ := h.out
  clear hp0 hc0 hrow0
  rw [hn.out] at h ⊢
  have hne : ((n : Int) == 0) = false := by rw [beq_eq_false_iff_ne]; omega
  have h0' := Lib.hid h0
  have hl' := Lib.hid hl
  go_enter Try.func4, Try.ntmps4
  go_wp2_with fail
  refine (elClone_any _ ls (by rw [hn.out]; exact h0) (by rw [hn.out]; exact hl) _ h).mono ?_
  rintro e w1 ⟨⟨cv, rfl, ho⟩, k1⟩
  obtain ⟨G, c, rfl, hG, -, hc, -⟩ := ho.block (by rw [hn.out]; exact h0)
  rw [hn.out] at ho hc ⊢
  have ho' := Lib.hid ho
  have k1' := Lib.hid k1
  have hG' := Lib.hid hG
  have hc2 : Hid (c ≤ 9223372036854775807) := Lib.hid (by
    rcases ho.1.2 with ⟨e, -⟩ | ⟨g, cap, cur, he, -, -, -, hm, -⟩
    · cases e
    · injection he with e1 e2 e3
      unfold maxLen at hm; omega)
  have hc' := Lib.hid hc
  clear ho k1 h hG hc
  go_wp2_with fail
  go_loopw [6] (fun pv wr => ∃ (p : Nat) (l1 : List VotD), 1 ≤ p ∧ p ≤ 16 ∧ pv = .int .i64 p ∧ Hid (stableFrom (17 - p) p l1 = (l', P)) ∧ Hid (l1.length = n) ∧ Hid (OwnV w wr (.slice (some ⟨G, 0, none⟩) n c) l1) ∧ Hid (Keeps (fun _ => False) w wr)) (fun pv _ => 17 - (intOf pv).toNat)
  case atStart => exact ⟨1, ls, by omega, by omega, rfl, hz, hn, ho', k1'⟩
  case round =>
    obtain ⟨p, l1, hp1, hp2, rfl, hst, hn1, hown, hkr⟩ := hrel
    obtain ⟨⟨z, l2⟩, hps⟩ : ∃ R, passFrom n 0 false l1 = R := ⟨_, rfl⟩
    have hlen2 : l2.length = n := by have := passFrom_len n 0 false l1; rw [hps] at this; rw [← hn1.out]; exact this
    have hst2 := stableFrom_step (16 - p) p l1 l2 z (l', P) (by rw [hn1.out]; exact hps) (by rw [show 16 - p + 1 = 17 - p by omega]; exact hst.out)
    have hps' := Lib.hid hps
    have hlen2' := Lib.hid hlen2
    have hst2' := Lib.hid hst2
    clear hps hst hlen2 hst2
    go_wp2_with fail
    refine (elPass_any G n c l1 l2 z hn1 hl'.out hc'.out hc2.out w wr hown hps').mono ?_
    rintro e w2 ⟨rfl, ho2, k2⟩
    have ho2' := Lib.hid ho2
    have hk2' := Lib.hid (hkr.out.trans' k2 (fun i e => .inr (by rw [e]; exact hG'.out)))
    clear ho2 k2 hown hkr
    have hdone : Hid ((z && decide (p < 16)) = false → l2 = l' ∧ p = P) := Lib.hid (fun e => by
      have := hst2'.out
      rw [if_neg (by rw [e]; decide)] at this
      injection this with a b
      exact ⟨a, b⟩)
    have hgo : Hid ((z && decide (p < 16)) = true → stableFrom (16 - p) (p + 1) l2 = (l', P)) := Lib.hid (fun e => by
      have := hst2'.out
      rw [if_pos e] at this
      exact this)
    clear hst2'
    have hrd : Hid (l2 = l' → w2.cell? ⟨G, 3, none⟩ = some (.int .u32 f.dr) ∧ w2.cell? ⟨G, 4, none⟩ = some (.int .u32 f.bdr)) := Lib.hid (fun e => by
      obtain ⟨p, c', e2, -, -, hr⟩ := ho2'.out.at
      obtain ⟨g, o, ep, hr⟩ := hr (by rw [hlen2'.out]; exact h0'.out)
      injection e2 with e1 e2 e3
      rw [← e1] at ep
      injection ep with ep; injection ep with ep1 ep2
      subst ep1; subst ep2
      have := hr 0 f (by rw [e, hf.out]; rfl)
      exact ⟨this 3 (.int .u32 f.dr) rfl, this 4 (.int .u32 f.bdr) rfl⟩)
    cases z with
    | true =>
      by_cases h16 : p < 16
      · have hgo' := Lib.hid (hgo.out (by simp [h16]))
        have h16i : (p : Int) < 16 := by omega
        clear hgo hdone hrd
        go_wp2_with fail
        exact ⟨⟨p + 1, l2, by omega, by omega, by go_num, by rw [show 17 - (p + 1) = 16 - p by omega]; exact hgo', hlen2', ho2', hk2'⟩, by simp [intOf]; omega⟩
      · have hd := hdone.out (by simp [h16])
        have hr := hrd.out hd.1
        obtain ⟨c3, c4⟩ := hr
        have hP := Lib.hid hd.2
        have h16i : ¬ (p : Int) < 16 := by omega
        clear hd hgo hdone hrd h0'
        go_wp2_with fail
        refine wp_region_noPanic ?_
        refine wp_region_held_drew (S := (fun W => Keeps (fun _ => False) w2 W)) (by kernel_rfl) (((Keeps.refl (fun _ => False) _).drew)) (fun hHeld => ?_)
        refine takeL 0 (v := ?_) rfl (by kernel_rfl) (by kernel_rfl) (by kernel_rfl) (fun _ _ _ h => h) (Or.inl ⟨by rfl, ?_⟩) (by assumption) ?_
        rotate_left
        · (intro wS hSw; go_simp; try with_reducible rfl)
        try simp only [Act.put, List.setIfInBounds_toArray, List.set_cons_zero, List.set_cons_succ]
        refine takeL 1 (v := ?_) rfl (by kernel_rfl) (by kernel_rfl) (by kernel_rfl) (fun _ _ _ h => h) (Or.inl ⟨by rfl, ?_⟩) (by assumption) ?_
        rotate_left
        · (intro wS hSw; go_simp; try with_reducible rfl)
        try simp only [Act.put, List.setIfInBounds_toArray, List.set_cons_zero, List.set_cons_succ]
        refine takeL 2 (v := ?_) rfl (by kernel_rfl) (by kernel_rfl) (by kernel_rfl) (fun _ _ _ h => h) (Or.inl ⟨by rfl, ?_⟩) (by assumption) ?_
        rotate_left
        · (intro wS hSw; go_simp; try with_reducible rfl)
        try simp only [Act.put, List.setIfInBounds_toArray, List.set_cons_zero, List.set_cons_succ]
        refine takeL 3 rfl (by kernel_rfl) (by kernel_rfl) (by kernel_rfl) (fun _ _ _ h => h) (yieldsIf_load_cell (by rfl) 24 (.tmp 22) rfl G 3 rfl _ (fun _ s => by rw [s.cell (p := ⟨G, 3, none⟩) (World.block_lt_of_cell? _ _ c3) id]; exact c3) (fun w s => load_u32v w _ _ _ s)) (by assumption) ?_
        try simp only [Act.put, List.setIfInBounds_toArray, List.set_cons_zero, List.set_cons_succ]
        refine takeL 4 (v := ?_) rfl (by kernel_rfl) (by kernel_rfl) (by kernel_rfl) (fun _ _ _ h => h) (Or.inl ⟨by rfl, ?_⟩) (by assumption) ?_
        rotate_left
        · (intro wS hSw; go_simp; try with_reducible rfl)
        try simp only [Act.put, List.setIfInBounds_toArray, List.set_cons_zero, List.set_cons_succ]
        refine takeL 5 (v := ?_) rfl (by kernel_rfl) (by kernel_rfl) (by kernel_rfl) (fun _ _ _ h => h) (Or.inl ⟨by rfl, ?_⟩) (by assumption) ?_
        rotate_left
        · (intro wS hSw; go_simp; try with_reducible rfl)
        try simp only [Act.put, List.setIfInBounds_toArray, List.set_cons_zero, List.set_cons_succ]
        refine takeL 6 (v := ?_) rfl (by kernel_rfl) (by kernel_rfl) (by kernel_rfl) (fun _ _ _ h => h) (Or.inl ⟨by rfl, ?_⟩) (by assumption) ?_
        rotate_left
        · (intro wS hSw; go_simp; try with_reducible rfl)
        try simp only [Act.put, List.setIfInBounds_toArray, List.set_cons_zero, List.set_cons_succ]
        refine takeL 7 rfl (by kernel_rfl) (by kernel_rfl) (by kernel_rfl) (fun _ _ _ h => h) (yieldsIf_load_cell (by rfl) 24 (.tmp 26) rfl G 4 rfl _ (fun _ s => by rw [s.cell (p := ⟨G, 4, none⟩) (World.block_lt_of_cell? _ _ c4) id]; exact c4) (fun w s => load_u32v w _ _ _ s)) (by assumption) ?_
        try simp only [Act.put, List.setIfInBounds_toArray, List.set_cons_zero, List.set_cons_succ]
        refine takeL 8 (v := ?_) rfl (by kernel_rfl) (by kernel_rfl) (by kernel_rfl) (fun _ _ _ h => h) (Or.inl ⟨by rfl, ?_⟩) (by assumption) ?_
        rotate_left
        · (intro wS hSw; go_simp; try with_reducible rfl)
        try simp only [Act.put, List.setIfInBounds_toArray, List.set_cons_zero, List.set_cons_succ]
        refine takeL 9 (v := ?_) rfl (by kernel_rfl) (by kernel_rfl) (by kernel_rfl) (fun _ _ _ h => h) (Or.inl ⟨by rfl, ?_⟩) (by assumption) ?_
        rotate_left
        · (intro wS hSw; go_simp; try with_reducible rfl)
        try simp only [Act.put, List.setIfInBounds_toArray, List.set_cons_zero, List.set_cons_succ]
        refine takeL 10 (v := ?_) rfl (by kernel_rfl) (by kernel_rfl) (by kernel_rfl) (fun _ _ _ h => h) (Or.inl ⟨by rfl, ?_⟩) (by assumption) ?_
        rotate_left
        · (intro wS hSw; go_simp; try with_reducible rfl)
        try simp only [Act.put, List.setIfInBounds_toArray, List.set_cons_zero, List.set_cons_succ]
        refine takeL 11 (v := ?_) rfl (by kernel_rfl) (by kernel_rfl) (by kernel_rfl) (fun _ _ _ h => h) (Or.inl ⟨by rfl, ?_⟩) (by assumption) ?_
        rotate_left
        · (intro wS hSw; go_simp; try with_reducible rfl)
        try simp only [Act.put, List.setIfInBounds_toArray, List.set_cons_zero, List.set_cons_succ]
        refine wpAnyH_done (by kernel_rfl) (NoPanic.normal ?_) _
        have hH := Lib.hid (hk2'.out.trans hHeld)
        clear hHeld c3 c4
        go_wp2_with fail
        go_ret3
        exact ⟨by rw [← hP.out]; rfl, hH.out⟩
    | false =>
      have hd := hdone.out rfl
      have hr := hrd.out hd.1
      obtain ⟨c3, c4⟩ := hr
      have hP := Lib.hid hd.2
      clear hd hgo hdone hrd h0'
      go_wp2_with fail
      refine wp_region_noPanic ?_
      refine wp_region_held_drew (S := (fun W => Keeps (fun _ => False) w2 W)) (by kernel_rfl) (((Keeps.refl (fun _ => False) _).drew)) (fun hHeld => ?_)
      refine takeL 0 (v := ?_) rfl (by kernel_rfl) (by kernel_rfl) (by kernel_rfl) (fun _ _ _ h => h) (Or.inl ⟨by rfl, ?_⟩) (by assumption) ?_
      rotate_left
      · (intro wS hSw; go_simp; try with_reducible rfl)
      try simp only [Act.put, List.setIfInBounds_toArray, List.set_cons_zero, List.set_cons_succ]
      refine takeL 1 (v := ?_) rfl (by kernel_rfl) (by kernel_rfl) (by kernel_rfl) (fun _ _ _ h => h) (Or.inl ⟨by rfl, ?_⟩) (by assumption) ?_
      rotate_left
      · (intro wS hSw; go_simp; try with_reducible rfl)
      try simp only [Act.put, List.setIfInBounds_toArray, List.set_cons_zero, List.set_cons_succ]
      refine takeL 2 (v := ?_) rfl (by kernel_rfl) (by kernel_rfl) (by kernel_rfl) (fun _ _ _ h => h) (Or.inl ⟨by rfl, ?_⟩) (by assumption) ?_
      rotate_left
      · (intro wS hSw; go_simp; try with_reducible rfl)
      try simp only [Act.put, List.setIfInBounds_toArray, List.set_cons_zero, List.set_cons_succ]
      refine takeL 3 rfl (by kernel_rfl) (by kernel_rfl) (by kernel_rfl) (fun _ _ _ h => h) (yieldsIf_load_cell (by rfl) 24 (.tmp 22) rfl G 3 rfl _ (fun _ s => by rw [s.cell (p := ⟨G, 3, none⟩) (World.block_lt_of_cell? _ _ c3) id]; exact c3) (fun w s => load_u32v w _ _ _ s)) (by assumption) ?_
      try simp only [Act.put, List.setIfInBounds_toArray, List.set_cons_zero, List.set_cons_succ]
      refine takeL 4 (v := ?_) rfl (by kernel_rfl) (by kernel_rfl) (by kernel_rfl) (fun _ _ _ h => h) (Or.inl ⟨by rfl, ?_⟩) (by assumption) ?_
      rotate_left
      · (intro wS hSw; go_simp; try with_reducible rfl)
      try simp only [Act.put, List.setIfInBounds_toArray, List.set_cons_zero, List.set_cons_succ]
      refine takeL 5 (v := ?_) rfl (by kernel_rfl) (by kernel_rfl) (by kernel_rfl) (fun _ _ _ h => h) (Or.inl ⟨by rfl, ?_⟩) (by assumption) ?_
      rotate_left
      · (intro wS hSw; go_simp; try with_reducible rfl)
      try simp only [Act.put, List.setIfInBounds_toArray, List.set_cons_zero, List.set_cons_succ]
      refine takeL 6 (v := ?_) rfl (by kernel_rfl) (by kernel_rfl) (by kernel_rfl) (fun _ _ _ h => h) (Or.inl ⟨by rfl, ?_⟩) (by assumption) ?_
      rotate_left
      · (intro wS hSw; go_simp; try with_reducible rfl)
      try simp only [Act.put, List.setIfInBounds_toArray, List.set_cons_zero, List.set_cons_succ]
      refine takeL 7 rfl (by kernel_rfl) (by kernel_rfl) (by kernel_rfl) (fun _ _ _ h => h) (yieldsIf_load_cell (by rfl) 24 (.tmp 26) rfl G 4 rfl _ (fun _ s => by rw [s.cell (p := ⟨G, 4, none⟩) (World.block_lt_of_cell? _ _ c4) id]; exact c4) (fun w s => load_u32v w _ _ _ s)) (by assumption) ?_
      try simp only [Act.put, List.setIfInBounds_toArray, List.set_cons_zero, List.set_cons_succ]
      refine takeL 8 (v := ?_) rfl (by kernel_rfl) (by kernel_rfl) (by kernel_rfl) (fun _ _ _ h => h) (Or.inl ⟨by rfl, ?_⟩) (by assumption) ?_
      rotate_left
      · (intro wS hSw; go_simp; try with_reducible rfl)
      try simp only [Act.put, List.setIfInBounds_toArray, List.set_cons_zero, List.set_cons_succ]
      refine takeL 9 (v := ?_) rfl (by kernel_rfl) (by kernel_rfl) (by kernel_rfl) (fun _ _ _ h => h) (Or.inl ⟨by rfl, ?_⟩) (by assumption) ?_
      rotate_left
      · (intro wS hSw; go_simp; try with_reducible rfl)
      try simp only [Act.put, List.setIfInBounds_toArray, List.set_cons_zero, List.set_cons_succ]
      refine takeL 10 (v := ?_) rfl (by kernel_rfl) (by kernel_rfl) (by kernel_rfl) (fun _ _ _ h => h) (Or.inl ⟨by rfl, ?_⟩) (by assumption) ?_
      rotate_left
      · (intro wS hSw; go_simp; try with_reducible rfl)
      try simp only [Act.put, List.setIfInBounds_toArray, List.set_cons_zero, List.set_cons_succ]
      refine takeL 11 (v := ?_) rfl (by kernel_rfl) (by kernel_rfl) (by kernel_rfl) (fun _ _ _ h => h) (Or.inl ⟨by rfl, ?_⟩) (by assumption) ?_
      rotate_left
      · (intro wS hSw; go_simp; try with_reducible rfl)
      try simp only [Act.put, List.setIfInBounds_toArray, List.set_cons_zero, List.set_cons_succ]
      refine wpAnyH_done (by kernel_rfl) (NoPanic.normal ?_) _
      have hH := Lib.hid (hk2'.out.trans hHeld)
      clear hHeld c3 c4
      go_wp2_with fail
      go_ret3
      exact ⟨by rw [← hP.out]; rfl, hH.out⟩
end Go.Proofs.Ytdjbgjcniacgdaa
