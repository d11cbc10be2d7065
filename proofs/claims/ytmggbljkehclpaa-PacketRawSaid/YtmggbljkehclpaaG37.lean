/- QD QF QFh QFk -/
import Derived.Test.YtmggbljkehclpaaG24
import Derived.Test.YtmggbljkehclpaaG35
import Derived.Test.YtmggbljkehclpaaG36
set_option linter.unusedVariables false
set_option linter.unusedSimpArgs false
namespace Go.Proofs.Ytmggbljkehclpaa
open Go.RowKit
set_option maxRecDepth 100000 in
set_option maxHeartbeats 32000000 in
theorem k09 (sl : Value) (x : List UInt8) (hx : x.length ≤ 900000) (S : ByteArray) (a : List UInt8) (hS : Hid (S = ⟨a.toArray⟩)) (hal9 : a.length ≤ 9223372036854775807) (G : a0x × Int) (w : World) (h : Hid (a0a w sl x)) (hG : Hid (getP x a = G)) (hokG : Hid (∀ P : a0x, P = (b0p ((x.getD 1 0).toNat : Int) (a0d (sub x 4 4)) (a0d (sub x 8 4)) a (x.drop 24)).1 → P.ok)) :
 Calls Try.prog 11 #[sl, .string S] w (e0x G w) := by
 obtain ⟨p, c, rfl, -, hc, hb⟩ := h.out
 obtain ⟨j0, hj0, hj1, hj2, hj3⟩ := info_parts b0g
 have hR : Hid (a06 (w.alloc (.cells Zp 30)) w.heap.size 30 Zq) := Hi (a06.new w _ Zq)
 have hk : Hid (a02 (fun _ => False) w (w.alloc (.cells Zp 30))) := Hi ((a02.refl _ _).alloc _)
 have hsz : Hid (w.heap.size < (w.alloc (.cells Zp 30)).heap.size) := Hi (by simp)
 have hSa : Hid (S.data.toList = a) := Hi (by rw [hS.out])
 have hSl : S.size = a.length := by rw [hS.out]; exact List.size_toArray ..
 have hGq := hG.out
 go_enter Try.func11, Try.ntmps11
 go_upto_region 1 with fail
 generalize w.alloc (.cells Zp 30) = w0 at hR hk hsz ⊢
 by_cases h24 : x.length < 24
 ·have hg : Hid (G = (b0y, 4)) := Hi (by rw [← hGq]; unfold getP; rw [if_pos h24])
  clear hGq hb h hSl
  go_wp2_with ((with_reducible refine a08 4 ?_); go_must (refine a05 rfl 30 (.tmp 4) (.tmp 25) rfl w.heap.size Zp rfl rfl (a06.there hR.out 0 16 (Nat.le_refl 16)) a0l (a0s _ _ _ _ _ _ _ _ _ _ _ _ _ _ _ _ (a03 _ _ _) (a03 _ _ _) (a03 _ _ _) (a03 _ _ _)) ?_; intro w9 hr9 hs9))
  refine bodyPost_ret (v := .tuple #[.agg Zp, .int .i64 4]) (a0g Try.results11 _ _ w.heap.size Zq _ rfl hr9.out Try.underlying30 rfl a0l) rfl ⟨⟨_, by rw [hg.out], by rw [hg.out]; exact b0f.zero _ _⟩, hk.out.trans' hs9.out (fun i e => .inr (by omega))⟩
 ·obtain ⟨g, o, rfl, hr⟩ := hb (by omega)
  obtain ⟨n, hn⟩ : ∃ n, n = x.length := ⟨_, rfl⟩
  have hn' := Hi hn.symm
  have hr0 := Hi (hk.out.rangeAt hr id)
  have i4 : (4 : Int) ≤ c := by omega
  have i14 : (14 : Int) ≤ c := by omega
  have i16 : (16 : Int) ≤ c := by omega
  have i24 : (24 : Int) ≤ c := by omega
  have i8 : (8 : Int) ≤ c := by omega
  have i12 : (12 : Int) ≤ c := by omega
  have i0n : (0 : Int) < n := by omega
  have i1n : (1 : Int) < n := by omega
  have i24n : (24 : Int) ≤ n := by omega
  have j2 : ¬ c = 2 := by omega
  have j12 : ¬ c = 12 := by omega
  have j14 : ¬ c = 14 := by omega
  have j16 : ¬ c = 16 := by omega
  have j4 : ¬ c = 4 := by omega
  have j8 : ¬ c = 8 := by omega
  have hcn : n ≤ c := by omega
  have hn24 : 24 ≤ n := by omega
  have hn9 : n ≤ 900000 := by omega
  obtain ⟨y0, hy0⟩ : ∃ y, (x.getD 0 0).toNat = y := ⟨_, rfl⟩
  have c0 : w0.cell? ⟨g, o, none⟩ = some (.int .u8 y0) := by
   have := a0i hr0.out 0 (by omega)
   rw [Nat.add_zero] at this
   rw [this, ← hy0, List.getD_eq_getElem?_getD, List.getElem?_eq_getElem (by omega)]; rfl
  have e0 : (x.getD 0 0 ≠ 2) ↔ y0 ≠ 2 := by rw [← hy0]; exact u8_ne
  obtain ⟨n2, hn2⟩ : ∃ m, a0d (sub x 2 2) = m := ⟨_, rfl⟩
  obtain ⟨n12, hn12⟩ : ∃ m, a0d (sub x 12 2) = m := ⟨_, rfl⟩
  obtain ⟨n14, hn14⟩ : ∃ m, a0d (sub x 14 2) = m := ⟨_, rfl⟩
  obtain ⟨rt, hrt⟩ : ∃ m, a0d (sub x 4 4) = m := ⟨_, rfl⟩
  obtain ⟨ar, har⟩ : ∃ m, a0d (sub x 8 4) = m := ⟨_, rfl⟩
  obtain ⟨sm, hsm⟩ : ∃ m, sumX x = m := ⟨_, rfl⟩
  obtain ⟨kd, hkd⟩ : ∃ m, e01 a = m := ⟨_, rfl⟩
  obtain ⟨ty, hty⟩ : ∃ m, (x.getD 1 0).toNat = m := ⟨_, rfl⟩
  have lrt : rt < 4294967296 := by rw [← hrt]; exact b0c x 4 4 (by omega)
  have lar : ar < 4294967296 := by rw [← har]; exact b0c x 8 4 (by omega)
  have s2 : (sub x 2 2).length ≤ 4 := by rw [a0k (by omega)]; omega
  have s12 : (sub x 12 2).length ≤ 4 := by rw [a0k (by omega)]; omega
  have s14 : (sub x 14 2).length ≤ 4 := by rw [a0k (by omega)]; omega
  have s4 : (sub x 4 4).length ≤ 4 := by rw [a0k (by omega)]; omega
  have s8 : (sub x 8 4).length ≤ 4 := by rw [a0k (by omega)]; omega
  have hn2' := Hi hn2; have hn12' := Hi hn12; have hn14' := Hi hn14; have hrt' := Hi hrt; have har' := Hi har; have hsm' := Hi hsm; have hkd' := Hi hkd; have hty' := Hi hty
  have kk : Hid (∀ W : World, a02 (fun _ => False) w W → W.rangeAt g o (x.map bv)) := Hi (fun W k => k.rangeAt hr id)
  have k2 := Hi (a0c hr0.out hc 2 2 (by omega))
  rw [← hn]
  have hy0' := Hi hy0
  clear hn2 hn12 hn14 hrt har hsm hkd hty hr hb h hy0
  have hx9 : x.length ≤ 900000 := hx
  clear hx
  have h24' := Hi h24
  clear h24
  by_cases hy : y0 = 2
  rotate_left
  ·have d0 : ((y0 : Int) != 2) = true := by simp; omega
   have hg : Hid (G = (b0y, 3)) := Hi (by rw [← hGq]; unfold getP; rw [if_neg h24'.out, if_pos (.inl (e0.2 hy))])
   clear hGq e0 hn hc hSl
   go_wp2_with ((with_reducible refine a08 4 ?_); go_must (refine a05 rfl 30 (.tmp 4) (.tmp 38) rfl w.heap.size Zp rfl rfl (a06.there hR.out 0 16 (Nat.le_refl 16)) a0l (a0s _ _ _ _ _ _ _ _ _ _ _ _ _ _ _ _ (a03 _ _ _) (a03 _ _ _) (a03 _ _ _) (a03 _ _ _)) ?_; intro w9 hr9 hs9))
   refine bodyPost_ret (v := .tuple #[.agg Zp, .int .i64 3]) (a0g Try.results11 _ _ w.heap.size Zq _ rfl hr9.out Try.underlying30 rfl a0l) rfl ⟨⟨_, by rw [hg.out], by rw [hg.out]; exact b0f.zero _ _⟩, hk.out.trans' hs9.out (fun i e => .inr (by omega))⟩
  have d0 : ((y0 : Int) != 2) = false := by rw [hy]; rfl
  have e0' : Hid (x.getD 0 0 = 2) := Hi (Classical.byContradiction fun h => e0.1 h hy)
  have hGq' := Hi hGq
  have hc' := Hi hc; have hSl' := Hi hSl
  clear hGq e0 hn hc hSl
  go_wp2_with fail
  refine (a0y _ _ n2 s2 _ k2 hn2').mono ?_
  rintro e w' ⟨rfl, rfl⟩
  by_cases h2 : n2 = n
  rotate_left
  ·have d2 : ((n2 : Int) != (n : Int)) = true := by simp; omega
   have hg : Hid (G = (b0y, 3)) := Hi (by rw [← hGq'.out]; unfold getP; rw [if_neg h24'.out, if_pos (.inr (by rw [hn2'.out, hn'.out]; exact h2))])
   go_wp2_with ((with_reducible refine a08 4 ?_); go_must (refine a05 rfl 30 (.tmp 4) (.tmp 38) rfl w.heap.size Zp rfl rfl (a06.there hR.out 0 16 (Nat.le_refl 16)) a0l (a0s _ _ _ _ _ _ _ _ _ _ _ _ _ _ _ _ (a03 _ _ _) (a03 _ _ _) (a03 _ _ _) (a03 _ _ _)) ?_; intro w9 hr9 hs9))
   refine bodyPost_ret (v := .tuple #[.agg Zp, .int .i64 3]) (a0g Try.results11 _ _ w.heap.size Zq _ rfl hr9.out Try.underlying30 rfl a0l) rfl ⟨⟨_, by rw [hg.out], by rw [hg.out]; exact b0f.zero _ _⟩, hk.out.trans' hs9.out (fun i e => .inr (by omega))⟩
  have d2 : ((n2 : Int) != (n : Int)) = false := by rw [h2]; simp
  have h2' : Hid (a0d (sub x 2 2) = x.length) := Hi (by rw [hn2'.out, hn'.out]; exact h2)
  clear h2
  go_upto_region 5 with fail
  clear d0 d2 c0 k2 hr0
  obtain ⟨pp, hpp⟩ : ∃ pp, (if c = 24 then some (⟨g, o, none⟩ : Addr) else some ⟨g, o + 24, none⟩) = pp := ⟨_, rfl⟩
  have hpp' := Hi hpp
  clear hpp
  have hb24 : Hid (∀ W, a02 (fun _ => False) w W → a0a W (.slice pp (n - 24) (c - 24)) (x.drop 24)) := Hi (fun W k => by
   have := a0w (kk.out W k) hc'.out 24 (by rw [hn'.out]; exact hn24)
   rw [hpp'.out, hn'.out] at this; exact this)
  have hb16 : Hid (∀ W, a02 (fun _ => False) w W → a0a W (.slice (some ⟨g, o, none⟩) 16 c) (x.take 16)) := Hi (fun W k => e0d (kk.out W k) hc'.out 16 (by rw [hn'.out]; omega))
  have hl16 : Hid ((x.take 16).length = 16) := Hi (by rw [List.length_take, hn'.out]; omega)
  have hl24 : Hid ((x.drop 24).length = n - 24) := Hi (by rw [List.length_drop, hn'.out])
  have hOe : Hid (OwnB w0 (w0.drew.alloc (.cells #[] 5)) (.slice (some ⟨w0.drew.heap.size, 0, none⟩) 0 0) []) := Hi (OwnB.empty w0 w0.drew (Nat.le_refl _))
  refine wp_region_noPanic ?_
  refine wp_region_held_drew (S := (fun W => a02 (fun _ => False) w0 W)) (by kernel_rfl) ((a02.refl (fun _ => False) _).drew) (fun hHeld => ?_)
  refine tk 1 rfl ?_
  refine tk 2 rfl ?_
  refine tk 4 rfl ?_
  refine tk 5 rfl ?_
  try rw [hpp'.out]
  refine sL 0 rfl fun K hK => ?_
  go_simp
  refine hK.out _ _ (hHeld.alloc _) (fun hHeld => ?_)
  clear hK K
  try simp only [Act.put, sA, sZ, sS]
  refine sL 3 rfl fun K hK => ?_
  rw [if_pos (by rfl)]
  (refine a0m (.tmp 39) (.tmp 41) 31 rfl j0 Try.underlying31 hj0 hj1 hj2 hj3 w0 _ [] rfl hOe.out _ rfl (x.take 16) (hb16.out _ (hk.out.trans hHeld)) (by rw [hl16.out]; simp) ?_; intro q1 d1 w1 hO1 hg1; have hO1' : Hid (OwnB w0 w1 (.slice q1 16 d1) (x.take 16)) := Hi (by have := hO1; rw [List.nil_append, hl16.out, List.length_nil, Nat.zero_add] at this; exact this))
  refine hK.out _ _ ((hOe.out.keeps hHeld hg1)) (fun hHeld => ?_)
  clear hK K
  try simp only [Act.put, sA, sZ, sS]
  rw [hl16.out]
  clear hO1 hg1 hOe
  refine sL 6 rfl fun K hK => ?_
  rw [if_pos (by rfl)]
  (refine a0m (.tmp 42) (.tmp 44) 31 rfl j0 Try.underlying31 hj0 hj1 hj2 hj3 w0 _ (x.take 16) (by rfl) hO1'.out _ rfl (x.drop 24) (hb24.out _ (hk.out.trans hHeld)) (by rw [hl16.out, hl24.out]; omega) ?_; intro q2 d2 w2 hO2 hg2)
  refine hK.out _ _ ((hO1'.out.keeps hHeld hg2)) (fun hHeld => ?_)
  clear hK K
  try simp only [Act.put, sA, sZ, sS]
  obtain ⟨m, hm⟩ : ∃ m, m = n - 8 := ⟨_, rfl⟩
  have hlm : (x.take 16).length + (x.drop 24).length = m := by rw [hl16.out, hl24.out]; omega
  have hm16 : 16 ≤ m := by omega
  have hm9 : m ≤ 900000 := by omega
  have hm' := Hi hm
  rw [hlm] at hO2 ⊢
  clear hm
  obtain ⟨X, hX⟩ : ∃ X, x.take 16 ++ x.drop 24 = X := ⟨_, rfl⟩
  have hXl : X.length = m := by rw [← hX, List.length_append]; exact hlm
  rw [hX] at hO2
  refine tk 7 rfl ?_
  refine wpAnyH_done (by kernel_rfl) (NoPanic.normal ?_) _
  have hcut : Hid (inet ((X.set 12 0).set 13 0) = sm) := Hi (by rw [← hX, sum_cut (by rw [hn'.out]; exact hn24), ← hsm'.out]; rfl)
  obtain ⟨gX, rfl, hgX, hcell, -⟩ := hO2.writes (by omega)
  obtain ⟨u12, c12⟩ : ∃ u, w2.cell? ⟨gX, 12, none⟩ = some u := ⟨_, (hcell 12 (by omega)).1⟩
  have f12 := (hcell 12 (by omega)).2
  obtain ⟨u13, c13⟩ : ∃ u, w2.cell? ⟨gX, 13, none⟩ = some u := ⟨_, (hcell 13 (by omega)).1⟩
  have f13 := (hcell 13 (by omega)).2
  have i12m : (12 : Int) < m := by omega
  have i13m : (13 : Int) < m := by omega
  have hsp := Hi (hO2.set_pair 12 0 0 (by omega))
  have hk2 := Hi hHeld
  have hXl' := Hi hXl; have hgX' := Hi hgX
  clear hcell hO2 hHeld hX hXl hlm hgX hg2 hO1'
  go_upto_region 7 with fail
  have hsp2 : Hid (OwnB w0 ((w2.setCell ⟨gX, 12, none⟩ (.int .u8 0)).setCell ⟨gX, 13, none⟩ (.int .u8 0)) (.slice (some ⟨gX, 0, none⟩) m d2) ((X.set 12 0).set 13 0)) := hsp
  have hk3 : Hid (a02 (fun _ => False) w0 ((w2.setCell ⟨gX, 12, none⟩ (.int .u8 0)).setCell ⟨gX, 13, none⟩ (.int .u8 0))) := Hi ((hk2.out.setCell (p := ⟨gX, 12, none⟩) (.inr hgX'.out) _).setCell (p := ⟨gX, 13, none⟩) (.inr hgX'.out) _)
  clear hsp c12 f12 c13 f13 hk2
  generalize (w2.setCell ⟨gX, 12, none⟩ (.int .u8 0)).setCell ⟨gX, 13, none⟩ (.int .u8 0) = w3 at hsp2 hk3 ⊢
  have hbX := Hi (hsp2.out.bytes.keep ((a02.refl (fun _ => False) _).drew))
  have lsm : sm < 65536 := by rw [← hsm'.out]; exact n0f _
  have wsm : IntKind.i64.wrap (sm : Int) = (sm : Int) := IntWalk.i64_in _ (by omega)
  have hXs : ((X.set 12 0).set 13 0).length ≤ 1000000 := by simp [hXl'.out]; omega
  have hk12 := Hi (a0c (kk.out w3.drew (hk.out.trans hk3.out.drew)) hc'.out 12 2 (by rw [hn'.out]; omega))
  refine wp_region_noPanic ?_
  refine wp_region_held_drew (S := (fun W => W = w3.drew)) (by kernel_rfl) (rfl) (fun hHeld => ?_)
  refine tk 0 rfl ?_
  refine tk 3 rfl ?_
  refine tk 4 rfl ?_
  refine sL 1 rfl fun K hK => ?_
  go_simp
  (refine (e0y _ _ hXs _ hbX).mono ?_; rintro e w' ⟨rfl, rfl⟩; rw [hcut.out])
  go_wp2_with fail
  refine hK.out _ _ (rfl) (fun hHeld => ?_)
  clear hK K
  try simp only [Act.put, sA, sZ, sS]
  refine tk 2 rfl ?_
  refine sL 5 rfl fun K hK => ?_
  go_simp
  (refine (a0y _ _ n12 s12 _ hk12 hn12').mono ?_; rintro e w' ⟨rfl, rfl⟩)
  go_wp2_with fail
  refine hK.out _ _ (rfl) (fun hHeld => ?_)
  clear hK K
  try simp only [Act.put, sA, sZ, sS]
  by_cases h12 : n12 = sm
  rotate_left
  ·have d12 : ((sm : Int) != (n12 : Int)) = true := by simp; omega
   have hg : Hid (G = (b0y, 8)) := Hi (by
    rw [← hGq'.out]; unfold getP
    rw [if_neg h24'.out, if_neg (by rintro (h | h); exact h e0'.out; exact h h2'.out), if_pos (by rw [hn12'.out, hsm'.out]; exact h12)])
   have hR3 := Hi ((hR.out.keep hk3.out.drew id))
   have hk4 := Hi (hk.out.trans hk3.out.drew)
   refine tk 6 rfl ?_
   try rw [d12]
   refine wpAnyH_done (by kernel_rfl) (NoPanic.normal ?_) _
   clear hHeld
   go_wp2_with ((with_reducible refine a08 4 ?_); go_must (refine a05 rfl 30 (.tmp 4) (.tmp 57) rfl w.heap.size Zp rfl rfl (a06.there hR3.out 0 16 (Nat.le_refl 16)) a0l (a0s _ _ _ _ _ _ _ _ _ _ _ _ _ _ _ _ (a03 _ _ _) (a03 _ _ _) (a03 _ _ _) (a03 _ _ _)) ?_; intro w9 hr9 hs9))
   refine bodyPost_ret (v := .tuple #[.agg Zp, .int .i64 8]) (a0g Try.results11 _ _ w.heap.size Zq _ rfl hr9.out Try.underlying30 rfl a0l) rfl ⟨⟨_, by rw [hg.out], by rw [hg.out]; exact b0f.zero _ _⟩, hk4.out.trans' hs9.out (fun i e => .inr (by omega))⟩
  have d12 : ((sm : Int) != (n12 : Int)) = false := by rw [h12]; simp
  have h12' : Hid (a0d (sub x 12 2) = sumX x) := Hi (by rw [hn12'.out, hsm'.out]; exact h12)
  refine tk 6 rfl ?_
  try rw [d12]
  refine wpAnyH_done (by kernel_rfl) (NoPanic.normal ?_) _
  clear hHeld hbX hk12 hXs h12 wsm
  have hR3 := Hi (hR.out.keep hk3.out.drew id)
  have hk4 := Hi (hk.out.trans hk3.out.drew)
  have hk34 := Hi hk3.out.drew
  generalize w3.drew = w4 at hR3 hk4 hk34 ⊢
  obtain ⟨y8, hy8⟩ : ∃ y, y = a.take 8 := ⟨_, rfl⟩
  have hk8 : Hid (h0i (d0q 8) 0 y8 = key8 a) := Hi (by rw [hy8]; rfl)
  have ht8 : Hid (S.data.toList.take 8 = y8) := Hi (by rw [hSa.out, hy8])
  have hl8 : Hid (y8.length ≤ 8) := Hi (by rw [hy8, List.length_take]; omega)
  have hj3' := Hi hj3
  clear hy8 hsp2 hk3
  go_upto_region 10 with (at_make; go_must (refine wpList_make_full _ rfl (.const (.int .i64 8)) (.const (.int .i64 8)) 31 rfl 0 5 j0 (.int .u8 0) 1 Try.underlying31 hj0 hj1 hj2 .i64 .i64 8 8 8 rfl rfl rfl rfl ?c1 ?c2 ?c3 ?_); rotate_right; intro w5 ho5 hg5; have hB5 := Hi (g02 ho5); clear ho5; have hK5 := Hi (a02.grown (a02.refl (fun _ => False) _) hg5 (fun k e => by cases e)); clear hg5)
  case c1 => have := hj3'.out; omega
  case c2 => decide
  case c3 => exact Nat.zero_le _
  go_upto_region 11 with ((with_reducible refine a09 61 ?_); refine d03 rfl (.tmp 59) (.tmp 60) 31 9 rfl 5 Try.underlying31 n0p w4.heap.size 0 8 8 _ rfl rfl (d0q 8) y8 ht8.out hB5.out (by have := hl8.out; rw [e0k]; omega) ?_; intro w6 hL6)
  have hkw6 : Hid (a02 (fun _ => False) w4 w6) := Hi (hK5.out.laid hL6.out (Nat.le_refl _))
  have hK8 : Hid (a0a w6 (.slice (some ⟨w4.heap.size, 0, none⟩) 8 8) (key8 a)) := Hi (by
   have h1 := hL6.out.1
   rw [hk8.out] at h1
   exact (OwnB.buf (w0 := w4) h1 (d0v _) (by omega) (Nat.le_refl _)).bytes)
  have hR6 := Hi (hR3.out.keep hkw6.out id)
  have hk6 := Hi (hk4.out.trans hkw6.out)
  have hk06 := Hi (hk34.out.trans hkw6.out)
  obtain ⟨g8, hg8⟩ : ∃ g, g = w4.heap.size := ⟨_, rfl⟩
  rw [← hg8] at hK8 ⊢
  clear hB5 hK5 hL6 hkw6 hk8 ht8 hl8 hj3' hg8 hR3 hk4 hk34
  go_upto_if 63 with fail
  go_cut [8] (fun kv wx => kv = .int .i64 (kd : Nat) ∧ wx = w6)
  case first =>
   cases ha : a with
   | nil =>
    have hkd0 : Hid (kd = 0) := Hi (by rw [← hkd'.out, ha]; rfl)
    have h0 : S.toList.isEmpty = true := by rw [Lib.toList_data, hSa.out, ha]; rfl
    clear ha
    rw [h0]
    clear h0
    go_wp2_with fail
    go_meet
    case rel => exact ⟨by rw [hkd0.out]; rfl, rfl⟩
   | cons b r =>
    have hkd0 : Hid (kd = 1) := Hi (by rw [← hkd'.out, ha]; rfl)
    have h0 : S.toList.isEmpty = false := by rw [Lib.toList_data, hSa.out, ha]; rfl
    clear ha
    rw [h0]
    clear h0
    go_wp2_with fail
    go_meet
    case rel => exact ⟨by rw [hkd0.out]; rfl, rfl⟩
  case rest =>
   as_aux_lemma =>
   obtain ⟨rfl, rfl⟩ := hcut
   have hk14 := Hi (a0c (kk.out wc.drew hk6.out.drew) hc'.out 14 2 (by rw [hn'.out]; omega))
   have hR7 := Hi (hR6.out.keep ((a02.refl (fun _ => False) _).drew) id)
   have hk7 := Hi hk6.out.drew
   go_upto_region 14 with fail
   by_cases h14 : n14 = kd
   rotate_left
   ·have d14 : ((n14 : Int) != (kd : Int)) = true := by simp; omega
    have hg : Hid (G = (b0y, 9)) := Hi (by
     rw [← hGq'.out]; unfold getP
     rw [if_neg h24'.out, if_neg (by rintro (h | h); exact h e0'.out; exact h h2'.out), if_neg (fun h => h h12'.out), if_pos (.inr (.inl (by rw [hn14'.out, hkd'.out]; exact h14)))])
    refine wp_region_noPanic ?_
    refine wp_region_held_drew (S := (fun W => W = wc.drew)) (by kernel_rfl) (rfl) (fun hHeld => ?_)
    refine tk 0 rfl ?_
    refine tk 1 rfl ?_
    refine tk 3 rfl ?_
    refine sL 2 rfl fun K hK => ?_
    go_simp
    (refine (a0y _ _ n14 s14 _ hk14 hn14').mono ?_; rintro e w' ⟨rfl, rfl⟩)
    go_wp2_with fail
    refine hK.out _ _ (rfl) (fun hHeld => ?_)
    clear hK K
    try simp only [Act.put, sA, sZ, sS]
    refine tk 4 rfl ?_
    try rw [d14]
    refine tk 5 rfl ?_
    refine tkS 6 rfl ?_
    refine tkS 7 rfl ?_
    refine tkS 8 rfl ?_
    refine tkS 9 rfl ?_
    refine tkS 10 rfl ?_
    refine tkS 11 rfl ?_
    refine tk 12 rfl ?_
    refine tk 13 rfl ?_
    refine tkS 14 rfl ?_
    refine tkS 15 rfl ?_
    refine tkS 16 rfl ?_
    refine tk 17 rfl ?_
    refine wpAnyH_done (by kernel_rfl) (NoPanic.normal ?_) _
    clear hHeld
    go_wp2_with ((with_reducible refine a08 4 ?_); go_must (refine a05 rfl 30 (.tmp 4) (.tmp 82) rfl w.heap.size Zp rfl rfl (a06.there hR7.out 0 16 (Nat.le_refl 16)) a0l (a0s _ _ _ _ _ _ _ _ _ _ _ _ _ _ _ _ (a03 _ _ _) (a03 _ _ _) (a03 _ _ _) (a03 _ _ _)) ?_; intro w9 hr9 hs9))
    refine bodyPost_ret (v := .tuple #[.agg Zp, .int .i64 9]) (a0g Try.results11 _ _ w.heap.size Zq _ rfl hr9.out Try.underlying30 rfl a0l) rfl ⟨⟨_, by rw [hg.out], by rw [hg.out]; exact b0f.zero _ _⟩, hk7.out.trans' hs9.out (fun i e => .inr (by omega))⟩
   have d14 : ((n14 : Int) != (kd : Int)) = false := by rw [h14]; simp
   have h14' : Hid (a0d (sub x 14 2) = e01 a) := Hi (by rw [hn14'.out, hkd'.out]; exact h14)
   have hKd := Hi (hK8.out.keep ((a02.refl (fun _ => False) _).drew))
   have hB16 := Hi (a0c (kk.out wc.drew hk6.out.drew) hc'.out 16 8 (by rw [hn'.out]; omega))
   obtain ⟨S1, hS1⟩ : ∃ S : ByteArray, S = ⟨(sub x 16 8).toArray⟩ := ⟨_, rfl⟩
   obtain ⟨S2, hS2⟩ : ∃ S : ByteArray, S = ⟨(key8 a).toArray⟩ := ⟨_, rfl⟩
   have cv1 : Hid ((convert 31 9 (.slice (some ⟨g, o + 16, none⟩) 8 (c - 16))).run Try.prog wc.drew = .ok (.string S1) wc.drew) := Hi (by rw [hS1]; exact c08 hB16.out (by rw [a0k (by rw [hn'.out]; omega)]; omega))
   have cv2 : Hid ((convert 31 9 (.slice (some ⟨g8, 0, none⟩) 8 8)).run Try.prog wc.drew = .ok (.string S2) wc.drew) := Hi (by rw [hS2]; exact c08 hKd.out (by rw [d0v]; omega))
   have heqS : ((sub x 16 8 == key8 a) = (S1.toList == S2.toList)) := by rw [Lib.toList_data, Lib.toList_data, hS1, hS2]
   clear h14
   cases hkq : (sub x 16 8 == key8 a) with
   | false =>
    have dS : (S1.toList == S2.toList) = false := by rw [← heqS]; exact hkq
    have hg : Hid (G = (b0y, 9)) := Hi (by
     rw [← hGq'.out]; unfold getP
     rw [if_neg h24'.out, if_neg (by rintro (h | h); exact h e0'.out; exact h h2'.out), if_neg (fun h => h h12'.out), if_pos (.inr (.inr (by simpa using hkq)))])
    clear heqS hkq hS1 hS2
    refine wp_region_noPanic ?_
    refine wp_region_held_drew (S := (fun W => W = wc.drew)) (by kernel_rfl) (rfl) (fun hHeld => ?_)
    refine tk 0 rfl ?_
    refine tk 1 rfl ?_
    refine tk 3 rfl ?_
    refine sL 2 rfl fun K hK => ?_
    go_simp
    (refine (a0y _ _ n14 s14 _ hk14 hn14').mono ?_; rintro e w' ⟨rfl, rfl⟩)
    go_wp2_with fail
    refine hK.out _ _ (rfl) (fun hHeld => ?_)
    clear hK K
    try simp only [Act.put, sA, sZ, sS]
    refine tk 4 rfl ?_
    try rw [d14]
    refine tk 5 rfl ?_
    refine tk 6 rfl ?_
    refine tk 7 rfl ?_
    refine tk 9 rfl ?_
    refine tkL 8 rfl (c0q (by rfl) 31 9 (.tmp 71) rfl _ (.string S1) rfl (fun w s => by rw [s]; exact cv1.out)) ?_
    refine tkL 10 rfl (c0q (by rfl) 31 9 (.tmp 73) rfl _ (.string S2) rfl (fun w s => by rw [s]; exact cv2.out)) ?_
    refine tk 11 rfl ?_
    refine tk 12 rfl ?_
    refine tk 13 rfl ?_
    refine tkS 14 rfl ?_
    refine tkS 15 rfl ?_
    refine tkS 16 rfl ?_
    refine tk 17 rfl ?_
    refine wpAnyH_done (by kernel_rfl) (NoPanic.normal ?_) _
    clear hHeld
    go_wp2_with ((with_reducible refine a08 4 ?_); go_must (refine a05 rfl 30 (.tmp 4) (.tmp 82) rfl w.heap.size Zp rfl rfl (a06.there hR7.out 0 16 (Nat.le_refl 16)) a0l (a0s _ _ _ _ _ _ _ _ _ _ _ _ _ _ _ _ (a03 _ _ _) (a03 _ _ _) (a03 _ _ _) (a03 _ _ _)) ?_; intro w9 hr9 hs9))
    refine bodyPost_ret (v := .tuple #[.agg Zp, .int .i64 9]) (a0g Try.results11 _ _ w.heap.size Zq _ rfl hr9.out Try.underlying30 rfl a0l) rfl ⟨⟨_, by rw [hg.out], by rw [hg.out]; exact b0f.zero _ _⟩, hk7.out.trans' hs9.out (fun i e => .inr (by omega))⟩
   | true =>
   have dS : (S1.toList == S2.toList) = true := by rw [← heqS]; exact hkq
   have hkey : Hid (sub x 16 8 = key8 a) := Hi (by simpa using hkq)
   clear heqS hkq hS1 hS2
   by_cases hal : 8 < a.length
   ·have hda : decide ((8 : Int) < (S.size : Int)) = true := by rw [hSl'.out]; simp; omega
    have hda2 : decide (8 < S.size) = true := by rw [hSl'.out]; simp; omega
    have hg : Hid (G = (b0y, 9)) := Hi (by
     rw [← hGq'.out]; unfold getP
     rw [if_neg h24'.out, if_neg (by rintro (h | h); exact h e0'.out; exact h h2'.out), if_neg (fun h => h h12'.out), if_pos (.inl hal)])
    refine wp_region_noPanic ?_
    refine wp_region_held_drew (S := (fun W => W = wc.drew)) (by kernel_rfl) (rfl) (fun hHeld => ?_)
    refine tk 0 rfl ?_
    refine tk 1 rfl ?_
    refine tk 3 rfl ?_
    refine sL 2 rfl fun K hK => ?_
    go_simp
    (refine (a0y _ _ n14 s14 _ hk14 hn14').mono ?_; rintro e w' ⟨rfl, rfl⟩)
    go_wp2_with fail
    refine hK.out _ _ (rfl) (fun hHeld => ?_)
    clear hK K
    try simp only [Act.put, sA, sZ, sS]
    refine tk 4 rfl ?_
    try rw [d14]
    refine tk 5 rfl ?_
    refine tk 6 rfl ?_
    refine tk 7 rfl ?_
    refine tk 9 rfl ?_
    refine tkL 8 rfl (c0q (by rfl) 31 9 (.tmp 71) rfl _ (.string S1) rfl (fun w s => by rw [s]; exact cv1.out)) ?_
    refine tkL 10 rfl (c0q (by rfl) 31 9 (.tmp 73) rfl _ (.string S2) rfl (fun w s => by rw [s]; exact cv2.out)) ?_
    refine tk 11 rfl ?_
    refine tk 12 rfl ?_
    refine tk 13 rfl ?_
    refine tk 14 rfl ?_
    refine tk 15 rfl ?_
    refine tk 16 rfl ?_
    try rw [hda]
    try rw [hda2]
    refine tk 17 rfl ?_
    refine wpAnyH_done (by kernel_rfl) (NoPanic.normal ?_) _
    clear hHeld
    go_wp2_with ((with_reducible refine a08 4 ?_); go_must (refine a05 rfl 30 (.tmp 4) (.tmp 82) rfl w.heap.size Zp rfl rfl (a06.there hR7.out 0 16 (Nat.le_refl 16)) a0l (a0s _ _ _ _ _ _ _ _ _ _ _ _ _ _ _ _ (a03 _ _ _) (a03 _ _ _) (a03 _ _ _) (a03 _ _ _)) ?_; intro w9 hr9 hs9))
    refine bodyPost_ret (v := .tuple #[.agg Zp, .int .i64 9]) (a0g Try.results11 _ _ w.heap.size Zq _ rfl hr9.out Try.underlying30 rfl a0l) rfl ⟨⟨_, by rw [hg.out], by rw [hg.out]; exact b0f.zero _ _⟩, hk7.out.trans' hs9.out (fun i e => .inr (by omega))⟩
   have hda : decide ((8 : Int) < (S.size : Int)) = false := by rw [hSl'.out]; simp; omega
   have hda2 : decide (8 < S.size) = false := by rw [hSl'.out]; simp; omega
   have hla : a.length ≤ 8 := by omega
   refine wp_region_noPanic ?_
   refine wp_region_held_drew (S := (fun W => W = wc.drew)) (by kernel_rfl) (rfl) (fun hHeld => ?_)
   refine tk 0 rfl ?_
   refine tk 1 rfl ?_
   refine tk 3 rfl ?_
   refine sL 2 rfl fun K hK => ?_
   go_simp
   (refine (a0y _ _ n14 s14 _ hk14 hn14').mono ?_; rintro e w' ⟨rfl, rfl⟩)
   go_wp2_with fail
   refine hK.out _ _ (rfl) (fun hHeld => ?_)
   clear hK K
   try simp only [Act.put, sA, sZ, sS]
   refine tk 4 rfl ?_
   try rw [d14]
   refine tk 5 rfl ?_
   refine tk 6 rfl ?_
   refine tk 7 rfl ?_
   refine tk 9 rfl ?_
   refine tkL 8 rfl (c0q (by rfl) 31 9 (.tmp 71) rfl _ (.string S1) rfl (fun w s => by rw [s]; exact cv1.out)) ?_
   refine tkL 10 rfl (c0q (by rfl) 31 9 (.tmp 73) rfl _ (.string S2) rfl (fun w s => by rw [s]; exact cv2.out)) ?_
   refine tk 11 rfl ?_
   refine tk 12 rfl ?_
   refine tk 13 rfl ?_
   refine tk 14 rfl ?_
   refine tk 15 rfl ?_
   refine tk 16 rfl ?_
   try rw [hda]
   try rw [hda2]
   refine tk 17 rfl ?_
   refine wpAnyH_done (by kernel_rfl) (NoPanic.normal ?_) _
   clear hHeld
   cases hP : b0p (ty : Int) rt ar a (x.drop 24) with
   | mk P er =>
   have hGg : Hid (G = if er ≠ 0 then (b0y, er) else f08 P x) := Hi (by
    rw [← hGq'.out]
    exact getP_go x a h24'.out e0'.out h2'.out h12'.out (by omega) h14'.out hkey.out P er (by rw [hrt'.out, har'.out, hty'.out]; exact hP))
   have hPe := Hi hP
   clear hP hda hda2 dS cv1 cv2 hKd hB16 hk14 d14 hal hK8 hR6 hk6
   have hk07 := Hi hk06.out.drew
   clear hk06
   generalize wc.drew = w7 at hR7 hk7 hk07 ⊢
   have hc1 : Hid (∀ W, a02 (fun _ => False) w7 W → W.cell? ⟨g, o + 1, none⟩ = some (.int .u8 ty)) := Hi (fun W k => by
    have := a0i (kk.out W (hk7.out.trans k)) 1 (by rw [hn'.out]; omega)
    rw [this, ← hty'.out, List.getD_eq_getElem?_getD, List.getElem?_eq_getElem (by rw [hn'.out]; omega)]; rfl)
   have lty : ty < 256 := by rw [← hty'.out]; exact UInt8.toNat_lt _
   have hk4' := Hi (show ∀ W, a02 (fun _ => False) w7 W → a0a W (.slice (some ⟨g, o + 4, none⟩) 4 (c - 4)) (sub x 4 4) from fun W k => a0c (kk.out W (hk7.out.trans k)) hc'.out 4 4 (by rw [hn'.out]; omega))
   have hk8' := Hi (show ∀ W, a02 (fun _ => False) w7 W → a0a W (.slice (some ⟨g, o + 8, none⟩) 4 (c - 8)) (sub x 8 4) from fun W k => a0c (kk.out W (hk7.out.trans k)) hc'.out 8 4 (by rw [hn'.out]; omega))
   go_upto_region 16 with fail
   go_cut [9] (fun pv wx => (∃ B, pv = .pointer (some ⟨B, 0, none⟩) ∧ Hid (w7.heap.size ≤ B ∧ a06 wx B 30 (Pa' ty rt ar S 0 0 0 0 0 0 Sn 0 0 Sn Sn Sn))) ∧ Hid (a02 (fun _ => False) w7 wx))
   case first =>
    have wty : IntKind.i64.wrap (ty : Int) = (ty : Int) := IntWalk.i64_in _ (by omega)
    have wrt : IntKind.u32.wrap (rt : Int) = (rt : Int) := by rw [c01]; omega
    have war : IntKind.u32.wrap (ar : Int) = (ar : Int) := by rw [c01]; omega
    refine wp_region_noPanic ?_
    refine wp_region_held_drew (S := (fun W => a02 (fun _ => False) w7 W)) (by kernel_rfl) ((a02.refl (fun _ => False) _).drew) (fun hHeld => ?_)
    refine tk 0 rfl ?_
    refine tk 1 rfl ?_
    refine tkL 2 rfl (a04 (by rfl) 5 (.tmp 84) rfl g (o + 1) rfl _ (fun _ s => hc1.out _ s) (fun w s => g05 w _ _ _ s)) ?_
    refine tk 3 rfl ?_
    refine tk 4 rfl ?_
    refine tk 5 rfl ?_
    refine tk 8 rfl ?_
    refine tk 9 rfl ?_
    refine tk 12 rfl ?_
    refine c0a 6 14 rfl rfl (by kernel_rfl) (fun K hK => ?_) (fun K hK => ?_)
    ·skip
     go_simp
     refine (a0y _ _ rt s4 _ (Hi (hk4'.out _ hHeld)) hrt').mono ?_
     rintro e w' ⟨rfl, rfl⟩
     go_wp2_with fail
     refine hK.out _ _ hHeld (fun hHeld => ?_)
     clear hK K
     try simp only [Act.put, sA, sZ, sS]
     refine tk 7 rfl ?_
     refine c0a 10 14 rfl rfl (by kernel_rfl) (fun K hK => ?_) (fun K hK => ?_)
     ·skip
      go_simp
      refine (a0y _ _ ar s8 _ (Hi (hk8'.out _ hHeld)) har').mono ?_
      rintro e w' ⟨rfl, rfl⟩
      go_wp2_with fail
      refine hK.out _ _ hHeld (fun hHeld => ?_)
      clear hK K
      try simp only [Act.put, sA, sZ, sS]
      refine tk 11 rfl ?_
      refine tk 13 rfl ?_
      refine sL 14 rfl fun K hK => ?_
      go_simp
      refine hK.out _ _ (hHeld.alloc _) (fun hHeld => ?_)
      clear hK K
      try simp only [Act.put, sA, sZ, sS]
      have hZ : Hid (a06 (w7.drew.alloc (.cells Zp 30)) w7.heap.size 30 Zq) := Hi (a06.new w7.drew _ Zq)
      have hT := hZ.out.there 0 16 (Nat.le_refl 16)
      refine sL 15 rfl fun K hK => ?_
      rw [if_pos (by rfl)]
      (refine wp_store_mid 30 (.tmp 9) (.tmp 96) rfl w7.heap.size 0 (Pa ty rt ar S 0 0 0 0 0 0 Sn 0 0 Sn Sn Sn) rfl rfl hT a0l (a0s _ _ _ _ _ _ _ _ _ _ _ _ _ _ _ _ (a03 _ _ _) (a03 _ _ _) (a03 _ _ _) (a03 _ _ _)) ?_)
      refine hK.out _ _ ((hHeld.trans' (a02.setCells (F := fun i => i = w7.heap.size) (.inl rfl) _ _ _ (a02.refl _ _)) (fun i e => .inr (by omega)))) (fun hHeld => ?_)
      clear hK K
      try simp only [Act.put, sA, sZ, sS]
      refine wpAnyH_done (by kernel_rfl) (NoPanic.normal ?_) _
      have hH := Hi hHeld
      have hC : Hid (w7.heap.size ≤ w7.heap.size ∧ a06 ((w7.drew.alloc (.cells Zp 30)).setCells w7.heap.size 0 (Pa' ty rt ar S 0 0 0 0 0 0 Sn 0 0 Sn Sn Sn)) w7.heap.size 30 (Pa' ty rt ar S 0 0 0 0 0 0 Sn 0 0 Sn Sn Sn)) := Hi ⟨Nat.le_refl _, hZ.out.whole (Pa' ty rt ar S 0 0 0 0 0 0 Sn 0 0 Sn Sn Sn) rfl⟩
      clear hHeld hT hZ
      go_wp2_with fail
      go_meet
      case rel => exact ⟨⟨_, rfl, hC⟩, hH⟩
     ·skip
      go_simp
      refine hK.out _ _ (hHeld.alloc _) (fun hHeld => ?_)
      clear hK K
      try simp only [Act.put, sA, sZ, sS]
      have hZ : Hid (a06 (w7.drew.alloc (.cells Zp 30)) w7.heap.size 30 Zq) := Hi (a06.new w7.drew _ Zq)
      refine sL 10 rfl fun K hK => ?_
      go_simp
      refine (a0y _ _ ar s8 _ (Hi (hk8'.out _ hHeld)) har').mono ?_
      rintro e w' ⟨rfl, rfl⟩
      go_wp2_with fail
      refine hK.out _ _ hHeld (fun hHeld => ?_)
      clear hK K
      try simp only [Act.put, sA, sZ, sS]
      refine tk 11 rfl ?_
      refine tk 13 rfl ?_
      have hT := hZ.out.there 0 16 (Nat.le_refl 16)
      refine sL 15 rfl fun K hK => ?_
      rw [if_pos (by rfl)]
      (refine wp_store_mid 30 (.tmp 9) (.tmp 96) rfl w7.heap.size 0 (Pa ty rt ar S 0 0 0 0 0 0 Sn 0 0 Sn Sn Sn) rfl rfl hT a0l (a0s _ _ _ _ _ _ _ _ _ _ _ _ _ _ _ _ (a03 _ _ _) (a03 _ _ _) (a03 _ _ _) (a03 _ _ _)) ?_)
      refine hK.out _ _ ((hHeld.trans' (a02.setCells (F := fun i => i = w7.heap.size) (.inl rfl) _ _ _ (a02.refl _ _)) (fun i e => .inr (by omega)))) (fun hHeld => ?_)
      clear hK K
      try simp only [Act.put, sA, sZ, sS]
      refine wpAnyH_done (by kernel_rfl) (NoPanic.normal ?_) _
      have hH := Hi hHeld
      have hC : Hid (w7.heap.size ≤ w7.heap.size ∧ a06 ((w7.drew.alloc (.cells Zp 30)).setCells w7.heap.size 0 (Pa' ty rt ar S 0 0 0 0 0 0 Sn 0 0 Sn Sn Sn)) w7.heap.size 30 (Pa' ty rt ar S 0 0 0 0 0 0 Sn 0 0 Sn Sn Sn)) := Hi ⟨Nat.le_refl _, hZ.out.whole (Pa' ty rt ar S 0 0 0 0 0 0 Sn 0 0 Sn Sn Sn) rfl⟩
      clear hHeld hT hZ
      go_wp2_with fail
      go_meet
      case rel => exact ⟨⟨_, rfl, hC⟩, hH⟩
    ·skip
     go_simp
     refine hK.out _ _ (hHeld.alloc _) (fun hHeld => ?_)
     clear hK K
     try simp only [Act.put, sA, sZ, sS]
     have hZ : Hid (a06 (w7.drew.alloc (.cells Zp 30)) w7.heap.size 30 Zq) := Hi (a06.new w7.drew _ Zq)
     refine sL 6 rfl fun K hK => ?_
     go_simp
     refine (a0y _ _ rt s4 _ (Hi (hk4'.out _ hHeld)) hrt').mono ?_
     rintro e w' ⟨rfl, rfl⟩
     go_wp2_with fail
     refine hK.out _ _ hHeld (fun hHeld => ?_)
     clear hK K
     try simp only [Act.put, sA, sZ, sS]
     refine tk 7 rfl ?_
     refine sL 10 rfl fun K hK => ?_
     go_simp
     refine (a0y _ _ ar s8 _ (Hi (hk8'.out _ hHeld)) har').mono ?_
     rintro e w' ⟨rfl, rfl⟩
     go_wp2_with fail
     refine hK.out _ _ hHeld (fun hHeld => ?_)
     clear hK K
     try simp only [Act.put, sA, sZ, sS]
     refine tk 11 rfl ?_
     refine tk 13 rfl ?_
     have hT := hZ.out.there 0 16 (Nat.le_refl 16)
     refine sL 15 rfl fun K hK => ?_
     rw [if_pos (by rfl)]
     (refine wp_store_mid 30 (.tmp 9) (.tmp 96) rfl w7.heap.size 0 (Pa ty rt ar S 0 0 0 0 0 0 Sn 0 0 Sn Sn Sn) rfl rfl hT a0l (a0s _ _ _ _ _ _ _ _ _ _ _ _ _ _ _ _ (a03 _ _ _) (a03 _ _ _) (a03 _ _ _) (a03 _ _ _)) ?_)
     refine hK.out _ _ ((hHeld.trans' (a02.setCells (F := fun i => i = w7.heap.size) (.inl rfl) _ _ _ (a02.refl _ _)) (fun i e => .inr (by omega)))) (fun hHeld => ?_)
     clear hK K
     try simp only [Act.put, sA, sZ, sS]
     refine wpAnyH_done (by kernel_rfl) (NoPanic.normal ?_) _
     have hH := Hi hHeld
     have hC : Hid (w7.heap.size ≤ w7.heap.size ∧ a06 ((w7.drew.alloc (.cells Zp 30)).setCells w7.heap.size 0 (Pa' ty rt ar S 0 0 0 0 0 0 Sn 0 0 Sn Sn Sn)) w7.heap.size 30 (Pa' ty rt ar S 0 0 0 0 0 0 Sn 0 0 Sn Sn Sn)) := Hi ⟨Nat.le_refl _, hZ.out.whole (Pa' ty rt ar S 0 0 0 0 0 0 Sn 0 0 Sn Sn Sn) rfl⟩
     clear hHeld hT hZ
     go_wp2_with fail
     go_meet
     case rel => exact ⟨⟨_, rfl, hC⟩, hH⟩
   case rest =>
    as_aux_lemma =>
    obtain ⟨⟨BP, rfl, hBP0⟩, hkP⟩ := hcut
    have hBP := Hi hBP0.out.2
    have hBl := hBP0.out.1
    clear hBP0 hk4' hk8' hc1
    have hR8 := Hi (hR7.out.keep hkP.out id)
    have hk8 := Hi (hk7.out.trans hkP.out)
    have hk08 := Hi (hk07.out.trans hkP.out)
    have hRB : Hid (w.heap.size < BP) := Hi (by have h1 := lt_of_block hR7.out; omega)
    have hw7B : Hid (w0.heap.size ≤ BP) := Hi (Nat.le_trans hk07.out.size hBl)
    clear hR7 hk7 hk07 hkP hBl
    go_upto_region 18 with fail
    rw [hpp'.out]
    have b0 := hBP.out.cell 0 (.int .i64 ty) rfl
    obtain ⟨y, hyx⟩ : ∃ y, x.drop 24 = y := ⟨_, rfl⟩
    obtain ⟨ny, hny⟩ : ∃ m, n - 24 = m := ⟨_, rfl⟩
    obtain ⟨cy, hcy⟩ : ∃ m, c - 24 = m := ⟨_, rfl⟩
    have hokP : Hid P.ok := Hi (hokG.out P (by rw [hty'.out, hrt'.out, har'.out, hPe.out]))
    have hyb := Hi (show ∀ W, a02 (fun _ => False) w W → a0a W (.slice pp ny cy) y from fun W k => by rw [← hyx, ← hny, ← hcy]; exact hb24.out W k)
    have hyl : Hid (y.length = ny) := Hi (by rw [← hyx, ← hny]; exact hl24.out)
    have hPy := Hi (show b0p (ty : Int) rt ar a y = (P, er) by rw [← hyx]; exact hPe.out)
    have hxy : Hid (x.length = ny + 24) := Hi (by rw [← hn'.out] at hn24; rw [← hny, ← hn'.out]; omega)
    rw [hny, hcy]
    have hny9 : ny ≤ 900000 := by omega
    have hnyc : ny ≤ cy := by omega
    have lcy : Hid (cy = c - 24) := Hi hcy.symm
    clear hyx hny hcy hb24 hPe hokG hl24 hl16 hb16 i4 i14 i16 i24 i8 i12 i0n i1n i24n j2 j12 j14 j16 j4 j8 i12m i13m hm16 hm9 hm'
    go_upto_block 0 with fail
    clear b0
    have hB8 : Hid (BP < wc.heap.size) := Hi (lt_of_block hBP.out)
    refine wp_cut (MidP g o n c x a G BP w wc) (fun A' wx hM => ?_) (fun J K' h1 h2 => ?_)
    ·rename_i hKK
     refine hKK _ _ ?_
     obtain ⟨T, D⟩ := A'
     obtain rfl : D = [] := hM.1
     exact m0v g o n c x a G BP w wc hn' hn24 hn9 hcn hal9 kk hk8 hR8 hRB hB8 wx T hM
    ·have hJ : ∀ a' w', MidP g o n c x a G BP w wc a' w' → K' a' w' := fun a' w' h => h2 a' w' (Met.intro (h1 a' w' h))
     by_cases t1 : ty = 1
     ·exact r11Get_1 g o n c x a G BP w wc hn' hn24 hn9 hcn hal9 kk hk8 hR8 hRB hB8 ty rt ar S y P er pp ny cy hS lty hny9 hnyc hyl hxy hyb hBP hPy hokP hGg t1 _ rfl rfl rfl rfl rfl rfl rfl K' hJ
     by_cases t2 : ty = 2
     ·exact r11Get_2 g o n c x a G BP w wc hn' hn24 hn9 hcn hal9 kk hk8 hR8 hRB hB8 ty rt ar S y P er pp ny cy hS lty hny9 hnyc hyl hxy hyb hBP hPy hokP hGg t2 _ rfl rfl rfl rfl rfl rfl rfl K' hJ
     by_cases t3 : ty = 3
     ·exact r11Get_3 g o n c x a G BP w wc hn' hn24 hn9 hcn hal9 kk hk8 hR8 hRB hB8 ty rt ar S y P er pp ny cy hS lty hny9 hnyc hyl hxy hyb hBP hPy hokP hGg t3 _ rfl rfl rfl rfl rfl rfl rfl K' hJ
     by_cases t4 : ty = 4
     ·exact r11Get_4 g o n c x a G BP w wc hn' hn24 hn9 hcn hal9 kk hk8 hR8 hRB hB8 ty rt ar S y P er pp ny cy hS lty hny9 hnyc hyl hxy hyb hBP hPy hokP hGg t4 _ rfl rfl rfl rfl rfl rfl rfl K' hJ
     exact r11Get_5 g o n c x a G BP w wc hn' hn24 hn9 hcn hal9 kk hk8 hR8 hRB hB8 ty rt ar S y P er pp ny cy hS lty hny9 hnyc hyl hxy hyb hBP hPy hokP hGg t1 t2 t3 t4 _ rfl rfl rfl rfl rfl rfl rfl K' hJ
noncomputable def fromX : Code := cR (cR (cR (Try.f13.body.getD .skip)))
noncomputable def fromH : Code := cL fromX
noncomputable def fromK : Code := cL (cR fromX)
noncomputable def fromL : Code := cL (cR (cR fromX))
noncomputable def fromZ : Code := cR (cR (cR fromX))
theorem p0h {P : Program} {ops : Array Oper} {rest : List Oper} {o : Oper} {a : Act} {w : World} {Q : Exit → Act → World → Prop} (hgd : o.guard = none) (t e : TypeId) (x : Operand) (ho : o.op = .buildSlice t 1 #[(0, x)]) (v : Value) (hx : a.eval x = v) (cells : Array Value)
 (hrun : ∀ W : World, (Instr.buildSlice t 1 #[(0, v)]).run P W = .ok (.slice (some ⟨W.heap.size, 0, none⟩) 1 1) (W.alloc (.cells cells e)))
 (h : wpList P ops Q rest (a.put o.dst (.slice (some ⟨w.heap.size, 0, none⟩) 1 1)) (w.alloc (.cells cells e))) : wpList P ops Q (o :: rest) a w :=
 wpList_plain hgd fun _ hK => k0n t e x ho v hx cells hrun (hK _ _ h)
theorem h0j {α β : Type} {t1 t2 s1 s2 : Nat} {c1 : α → List Value} {c2 : β → List Value} {w0 w1 w : World} {v v2 : Value} {xs : List α} {ys : List β} (h1 : OwnR t1 s1 c1 w0 w v xs) (h2 : OwnR t2 s2 c2 w1 w v2 ys) (hne : t1 ≠ t2) (i : Nat) (e1 : v.ownBlock = some i) (e2 : v2.ownBlock = some i) : False := by
 rcases h1.1.2 with ⟨a, -⟩ | ⟨g, cap, cur, a, -, hg, -⟩
 ·rw [a] at e1; simp [Value.ownBlock] at e1
 ·rcases h2.1.2 with ⟨b, -⟩ | ⟨g2, cap2, cur2, b, -, hg2, -⟩
  ·rw [b] at e2; simp [Value.ownBlock] at e2
  ·rw [a] at e1; rw [b] at e2
   simp only [Value.ownBlock, Option.some.injEq] at e1 e2
   subst e1; subst e2
   rw [hg] at hg2
   injection hg2 with hg2
   injection hg2 with _ hg2
   exact hne hg2
theorem g0v {β : Type} {t2 s2 : Nat} {c2 : β → List Value} {w0 w1 w : World} {v v2 : Value} {xs : List Nat} {ys : List β} (h1 : OwnN w0 w v xs) (h2 : OwnR t2 s2 c2 w1 w v2 ys) (hne : 22 ≠ t2) (i : Nat) (e1 : v.ownBlock = some i) (e2 : v2.ownBlock = some i) : False := by
 rcases h1.1.2 with ⟨a, -⟩ | ⟨g, cap, cur, a, -, hg, -⟩
 ·rw [a] at e1; simp [Value.ownBlock] at e1
 ·rcases h2.1.2 with ⟨b, -⟩ | ⟨g2, cap2, cur2, b, -, hg2, -⟩
  ·rw [b] at e2; simp [Value.ownBlock] at e2
  ·rw [a] at e1; rw [b] at e2
   simp only [Value.ownBlock, Option.some.injEq] at e1 e2
   subst e1; subst e2
   rw [hg] at hg2
   injection hg2 with hg2
   injection hg2 with _ hg2
   exact hne hg2
def FrA (w : World) (BP : Nat) (A : Act) : Prop :=
 A.defers = [] ∧ A.tmps.size = 127 ∧ A.tmps.getD 1 undef = .pointer (some ⟨w.heap.size, 0, none⟩) ∧ A.tmps.getD 2 undef = .pointer (some ⟨w.heap.size + 1, 0, none⟩) ∧ A.tmps.getD 4 undef = .pointer (some ⟨BP, 0, none⟩)
def FrD (w : World) (P : a0x) (cs : List Value) (BP nh nk : Nat) (wx : World) : Prop :=
 ∃ qn qh qk dn dh dk, a06 wx w.heap.size 40 cs ∧ a06 wx (w.heap.size + 1) 30 Zq ∧ w.heap.size + 1 < BP ∧ a06 wx BP 30 (b05 P (.slice qn P.nbs.length dn) (.slice qh nh dh) (.slice qk nk dk) (.slice none 0 0)) ∧ OwnN w wx (.slice qn P.nbs.length dn) P.nbs ∧ OwnR 73 7 b0q w wx (.slice qh nh dh) (P.heads.take nh) ∧ OwnR 71 3 b0u w wx (.slice qk nk dk) (P.keys.take nk) ∧ a02 (fun _ => False) w wx
set_option maxRecDepth 100000 in
set_option maxHeartbeats 32000000 in
theorem from_h (P : a0x) (pn ph pk pl : Option Addr) (cn ch ck cl : Nat) (cs : List Value) (w : World) (hcs : Hid (cs = b05 P (.slice pn P.nbs.length cn) (.slice ph P.heads.length ch) (.slice pk P.keys.length ck) (.slice pl P.lsas.length cl)))
 (hin : Hid (e04 w P (.slice pn P.nbs.length cn) (.slice ph P.heads.length ch) (.slice pk P.keys.length ck) (.slice pl P.lsas.length cl)))
 (BP : Nat) (w1 : World) (T : Array Value) (hA : FrA w BP ⟨T, []⟩) (hD : Hid (FrD w P cs BP 0 0 w1)) (hhl : P.heads.length ≤ 1000000) (Q : Exit → Act → World → Prop) (hJ : ∀ a' w', FrA w BP a' → FrD w P cs BP P.heads.length 0 w' → Q .normal a' w') :
 Code.wp Try.prog fromH Q ⟨T, []⟩ w1 := by
 obtain ⟨-, hT, e1, e2, e4⟩ := hA
 change gd T 1 = _ at e1; change gd T 2 = _ at e2; change gd T 4 = _ at e4; change T.size = 127 at hT
 rw [g0j hT]
 rw [e1, e2, e4]
 conv => arg 2; whnf
 clear hT e1 e2 e4
 obtain ⟨ih, hih, hhz, hhsz, hhby⟩ := info_parts g0p
 obtain ⟨n, hn⟩ : ∃ n, P.heads.length = n := ⟨_, rfl⟩
 have hn' := Hi hn
 have hsrc : Hid (g0b w (.slice ph n ch) P.heads) := Hi (by rw [← hn]; exact hin.out.h)
 have hc13 : Hid (cs[13]? = some (.slice ph n ch)) := Hi (by rw [hcs.out, ← hn]; rfl)
 rw [hn] at hhl hJ
 have hD0 : Hid (∃ qh dh, ∃ qn qk dn dk, a06 w1 w.heap.size 40 cs ∧ a06 w1 (w.heap.size + 1) 30 Zq ∧ w.heap.size + 1 < BP ∧ a06 w1 BP 30 (b05 P (.slice qn P.nbs.length dn) (.slice qh 0 dh) (.slice qk 0 dk) (.slice none 0 0)) ∧ OwnN w w1 (.slice qn P.nbs.length dn) P.nbs ∧ OwnR 73 7 b0q w w1 (.slice qh 0 dh) (P.heads.take 0) ∧ OwnR 71 3 b0u w w1 (.slice qk 0 dk) (P.keys.take 0) ∧ a02 (fun _ => False) w w1) := Hi (by
  obtain ⟨qn, qh, qk, dn, dh, dk, h⟩ := hD.out
  exact ⟨qh, dh, qn, qk, dn, dk, h⟩)
 clear hD hn
 go_wp2_with fail
 go_loopw [5] (fun iv wr => ∃ (k : Nat), k ≤ n ∧ iv = .int .i64 k ∧ Hid (∃ qh dh, ∃ qn qk dn dk, a06 wr w.heap.size 40 cs ∧ a06 wr (w.heap.size + 1) 30 Zq ∧ w.heap.size + 1 < BP ∧ a06 wr BP 30 (b05 P (.slice qn P.nbs.length dn) (.slice qh k dh) (.slice qk 0 dk) (.slice none 0 0)) ∧ OwnN w wr (.slice qn P.nbs.length dn) P.nbs ∧ OwnR 73 7 b0q w wr (.slice qh k dh) (P.heads.take k) ∧ OwnR 71 3 b0u w wr (.slice qk 0 dk) (P.keys.take 0) ∧ a02 (fun _ => False) w wr)) (fun iv _ => n - (intOf iv).toNat)
 case atStart => exact ⟨0, Nat.zero_le _, rfl, hD0⟩
 case round =>
  obtain ⟨k, hk, rfl, hrest⟩ := hrel
  obtain ⟨qh, dh, qn, qk, dn, dk, h1, h2, h3, h4, h5, h6, h7, h8⟩ := hrest.out
  have hb := h1.cell 13 _ hc13.out
  have g1 := Hi h1; have g2 := Hi h2; have g3 := Hi h3; have g4 := Hi h4; have g5 := Hi h5; have g6 := Hi h6; have g7 := Hi h7; have g8 := Hi h8
  clear h1 h2 h3 h4 h5 h6 h7 h8 hrest
  by_cases hkn : k < n
  ·have hkni : (k : Int) < n := by omega
   obtain ⟨g, o, hpe, hrows⟩ := a0q.open hsrc.out (by rw [hn'.out]; omega)
   subst hpe
   obtain ⟨hd, hhd⟩ : ∃ l, P.heads[k]? = some l := ⟨_, List.getElem?_eq_getElem (by rw [hn'.out]; exact hkn)⟩
   have htk : Hid (P.heads.take (k + 1) = P.heads.take k ++ [hd]) := Hi (by
    obtain ⟨hk2, e⟩ := List.getElem?_eq_some_iff.1 hhd
    rw [List.take_succ_eq_append_getElem hk2, e])
   have htl : (P.heads.take k).length = k := by rw [List.length_take, hn'.out]; omega
   obtain ⟨hage, hty, hid, hadv, hseq, hsum, hlen⟩ := hd
   have hrow : Hid (wr.rangeAt g (o + k * 7) (Ha' hage hty hid hadv hseq hsum hlen)) := Hi (g8.out.rangeAt (hrows k _ hhd) id)
   have htl' := Hi htl
   clear hhd hrows htl
   have ka : a02 (fun _ => False) wr (wr.alloc (.cells (Ha hage hty hid hadv hseq hsum hlen) 69)) := (a02.refl _ _).alloc _
   have hB6 : Hid (a06 (wr.alloc (.cells (Ha hage hty hid hadv hseq hsum hlen) 69)) wr.heap.size 69 (Ha' hage hty hid hadv hseq hsum hlen)) := Hi (a06.new wr _ _)
   have f1 := Hi (g1.out.keep ka id); have f2 := Hi (g2.out.keep ka id); have f4 := Hi (g4.out.keep ka id); have f5 := Hi (g5.out.keep ka (fun _ _ f => f)); have f6 := Hi (g6.out.keep ka (fun _ _ f => f)); have f7 := Hi (g7.out.keep ka (fun _ _ f => f)); have f8 := Hi (g8.out.trans ka)
   clear ka
   go_upto_region 7 with (first | ((with_reducible refine a09 52 ?_); go_must (refine wpList_load_mid rfl 69 (.tmp 51) rfl g (o + k * 7) rfl (Ha' hage hty hid hadv hseq hsum hlen) _ hrow.out Try.underlying69 rfl b0w ?_)) | ((with_reducible refine a08 6 ?_); go_must (refine a07 rfl 69 (.tmp 6) (.tmp 52) rfl _ (Ha hage hty hid hadv hseq hsum hlen) rfl rfl b0w rfl (b0i _ _ _ _ _ _ _) ?_)))
   clear hb g1 g2 g4 g5 g6 g7 g8 hrow
   generalize wr.heap.size = b6 at hB6 ⊢
   generalize wr.alloc (.cells (Ha hage hty hid hadv hseq hsum hlen) 69) = W6 at hB6 f1 f2 f4 f5 f6 f7 f8 ⊢
   have x0 := hB6.out.cell 0 (.int .i64 hage) rfl
   have x1 := hB6.out.cell 1 (.int .i64 hty) rfl
   have x2 := hB6.out.cell 2 (.int .u32 hid) rfl
   have x3 := hB6.out.cell 3 (.int .u32 hadv) rfl
   have x4 := hB6.out.cell 4 (.int .i64 hseq) rfl
   have x5 := hB6.out.cell 5 (.int .u16 hsum) rfl
   have x6 := hB6.out.cell 6 (.int .i64 hlen) rfl
   have y13 := f4.out.cell 13 (.slice qh k dh) rfl
   have kb : a02 (fun _ => False) W6 (W6.alloc (.cells (Ha hage hty hid hadv hseq hsum hlen) 73)) := (a02.refl _ _).alloc _
   have e1 := Hi (f1.out.keep kb id); have e2 := Hi (f2.out.keep kb id); have e4 := Hi (f4.out.keep kb id); have e5 := Hi (f5.out.keep kb (fun _ _ f => f)); have e6 := Hi (f6.out.keep kb (fun _ _ f => f)); have e7 := Hi (f7.out.keep kb (fun _ _ f => f)); have e8 := Hi (f8.out.trans kb)
   clear kb f1 f2 f4 f5 f6 f7 f8 hB6
   go_wp2_with (first | ((with_reducible refine a09 74 ?_); go_must (refine p0h rfl 26 73 (.tmp 73) rfl _ rfl _ (fun W => f0e W _ _ _ _ _ _ _) ?_; clear x0 x1 x2 x3 x4 x5 x6 y13)) | ((with_reducible refine a09 75 ?_); go_must (refine f0o rfl (.tmp 54) (.tmp 74) 26 73 rfl ih (.agg (Ha 0 0 0 0 0 0 0)) 48 Try.underlying26 hih hhz hhsz hhby rfl (by decide) (by decide) b0r w _ k (P.heads.take k) htl'.out rfl e6.out _ rfl ⟨hage, hty, hid, hadv, hseq, hsum, hlen⟩ (c0y rfl _ _) (g07 _) (by omega) ?_; intro q2 d2 w' hO2 hG2; have e4' := Hi (e4.out.keep hG2.out.k (fun e => e6.out.ne_blk e4.out (by decide) BP e rfl)); have hcF := e4'.out.cell 13 (.slice qh k dh) rfl; have hfF := e4'.out.frozen 13)))
   have hsF : a02 (fun i => i = BP) w' (w'.setCell ⟨BP, 13, none⟩ (.slice q2 (k + 1) d2)) := (a02.refl (fun i => i = BP) w').setCell (p := ⟨BP, 13, none⟩) (.inl rfl) _
   refine ⟨⟨k + 1, by omega, by go_num, Hi ⟨q2, d2, qn, qk, dn, dk, ?_, ?_, g3.out, e4'.out.put 13 _, ?_, ?_, ?_, ?_⟩⟩, by simp [intOf]; omega⟩
   ·exact (e1.out.keep hG2.out.k (fun e => e6.out.ne_blk e1.out (by decide) _ e rfl)).keep hsF (fun e => by have := g3.out; omega)
   ·exact (e2.out.keep hG2.out.k (fun e => e6.out.ne_blk e2.out (by decide) _ e rfl)).keep hsF (fun e => by have := g3.out; omega)
   ·exact (e5.out.keep hG2.out.k (fun i e h => g0v e5.out e6.out (by decide) i e h)).keep hsF (fun i e h => (OwnN.ne_blkP e5.out e4.out) i e h)
   ·rw [htk.out]; exact hO2.out.keep hsF (fun i e h => hO2.out.ne_blk e4'.out (by decide) i e h)
   ·exact (e7.out.keep hG2.out.k (fun i e h => h0j e7.out e6.out (by decide) i e h)).keep hsF (fun i e h => e7.out.ne_blk e4.out (by decide) i e h)
   ·exact (e8.out.trans' hG2.out.k (fun i e => .inr (e6.out.2.1 i e))).trans' hsF (fun i e => .inr (by rw [e]; exact Nat.le_of_lt (by have := g3.out; omega)))
  ·obtain rfl : k = n := by omega
   have hkni : ¬ (k : Int) < k := by omega
   go_wp2_with fail
   first | refine hJ _ _ ?_ ?_ | skip
   ·exact ⟨rfl, rfl, rfl, rfl, rfl⟩
   ·exact ⟨qn, qh, qk, dn, dh, dk, g1.out, g2.out, g3.out, g4.out, g5.out, g6.out, g7.out, g8.out⟩
theorem g0y (w : World) (b o : Nat) (v : Value) (h : w.cell? ⟨b, o, none⟩ = some v) : (loadVar 37 ⟨b, o, none⟩).run Try.prog w = .ok v w := by simp [go_sem, h]
set_option maxRecDepth 100000 in
set_option maxHeartbeats 32000000 in
theorem from_k (P : a0x) (pn ph pk pl : Option Addr) (cn ch ck cl : Nat) (cs : List Value) (w : World) (hcs : Hid (cs = b05 P (.slice pn P.nbs.length cn) (.slice ph P.heads.length ch) (.slice pk P.keys.length ck) (.slice pl P.lsas.length cl)))
 (hin : Hid (e04 w P (.slice pn P.nbs.length cn) (.slice ph P.heads.length ch) (.slice pk P.keys.length ck) (.slice pl P.lsas.length cl)))
 (BP nh : Nat) (w1 : World) (T : Array Value) (hA : FrA w BP ⟨T, []⟩) (hD : Hid (FrD w P cs BP nh 0 w1)) (hhl : P.keys.length ≤ 1000000) (Q : Exit → Act → World → Prop) (hJ : ∀ a' w', FrA w BP a' → FrD w P cs BP nh P.keys.length w' → Q .normal a' w') :
 Code.wp Try.prog fromK Q ⟨T, []⟩ w1 := by
 obtain ⟨-, hT, e1, e2, e4⟩ := hA
 change gd T 1 = _ at e1; change gd T 2 = _ at e2; change gd T 4 = _ at e4; change T.size = 127 at hT
 rw [g0j hT]
 rw [e1, e2, e4]
 conv => arg 2; whnf
 clear hT e1 e2 e4
 obtain ⟨ik, hik, hkz, hksz, hkby⟩ := info_parts h0e
 obtain ⟨n, hn⟩ : ∃ n, P.keys.length = n := ⟨_, rfl⟩
 have hn' := Hi hn
 have hsrc : Hid (h0z w (.slice pk n ck) P.keys) := Hi (by rw [← hn]; exact hin.out.k)
 have hc14 : Hid (cs[14]? = some (.slice pk n ck)) := Hi (by rw [hcs.out, ← hn]; rfl)
 rw [hn] at hhl hJ
 have hD0 : Hid (∃ qk dk, ∃ qn qh dn dh, a06 w1 w.heap.size 40 cs ∧ a06 w1 (w.heap.size + 1) 30 Zq ∧ w.heap.size + 1 < BP ∧ a06 w1 BP 30 (b05 P (.slice qn P.nbs.length dn) (.slice qh nh dh) (.slice qk 0 dk) (.slice none 0 0)) ∧ OwnN w w1 (.slice qn P.nbs.length dn) P.nbs ∧ OwnR 73 7 b0q w w1 (.slice qh nh dh) (P.heads.take nh) ∧ OwnR 71 3 b0u w w1 (.slice qk 0 dk) (P.keys.take 0) ∧ a02 (fun _ => False) w w1) := Hi (by
  obtain ⟨qn, qh, qk, dn, dh, dk, h⟩ := hD.out
  exact ⟨qk, dk, qn, qh, dn, dh, h⟩)
 clear hD hn
 go_wp2_with fail
 go_loopw [7] (fun iv wr => ∃ (k : Nat), k ≤ n ∧ iv = .int .i64 k ∧ Hid (∃ qk dk, ∃ qn qh dn dh, a06 wr w.heap.size 40 cs ∧ a06 wr (w.heap.size + 1) 30 Zq ∧ w.heap.size + 1 < BP ∧ a06 wr BP 30 (b05 P (.slice qn P.nbs.length dn) (.slice qh nh dh) (.slice qk k dk) (.slice none 0 0)) ∧ OwnN w wr (.slice qn P.nbs.length dn) P.nbs ∧ OwnR 73 7 b0q w wr (.slice qh nh dh) (P.heads.take nh) ∧ OwnR 71 3 b0u w wr (.slice qk k dk) (P.keys.take k) ∧ a02 (fun _ => False) w wr)) (fun iv _ => n - (intOf iv).toNat)
 case atStart => exact ⟨0, Nat.zero_le _, rfl, hD0⟩
 case round =>
  obtain ⟨k, hk, rfl, hrest⟩ := hrel
  obtain ⟨q, d, qn, qh, dn, dh, h1, h2, h3, h4, h5, h6, h7, h8⟩ := hrest.out
  have hb := h1.cell 14 _ hc14.out
  have g1 := Hi h1; have g2 := Hi h2; have g3 := Hi h3; have g4 := Hi h4; have g5 := Hi h5; have g6 := Hi h6; have g7 := Hi h7; have g8 := Hi h8
  clear h1 h2 h3 h4 h5 h6 h7 h8 hrest
  by_cases hkn : k < n
  ·have hkni : (k : Int) < n := by omega
   obtain ⟨g, o, hpe, hrows⟩ := a0q.open hsrc.out (by rw [hn'.out]; omega)
   subst hpe
   obtain ⟨hd, hhd⟩ : ∃ l, P.keys[k]? = some l := ⟨_, List.getElem?_eq_getElem (by rw [hn'.out]; exact hkn)⟩
   have htk : Hid (P.keys.take (k + 1) = P.keys.take k ++ [hd]) := Hi (by
    obtain ⟨hk2, e⟩ := List.getElem?_eq_some_iff.1 hhd
    rw [List.take_succ_eq_append_getElem hk2, e])
   have htl : (P.keys.take k).length = k := by rw [List.length_take, hn'.out]; omega
   obtain ⟨kty, kid, kadv⟩ := hd
   have hrow : Hid (w.rangeAt g (o + k * 3) [.int .i64 kty, .int .u32 kid, .int .u32 kadv]) := Hi (hrows k _ hhd)
   have htl' := Hi htl
   clear hhd hrows htl
   have kd : a02 (fun _ => False) wr wr.drew := (a02.refl _ _).drew
   have f1 := Hi (g1.out.keep kd id); have f2 := Hi (g2.out.keep kd id); have hBk := Hi (g4.out.keep kd id); have f5 := Hi (g5.out.keep kd (fun _ _ f => f)); have f6 := Hi (g6.out.keep kd (fun _ _ f => f)); have hOn := Hi (g7.out.keep kd (fun _ _ f => f)); have hKw := Hi (g8.out.trans kd)
   clear kd
   go_upto_region 11 with fail
   refine wp_region_noPanic ?_
   refine wp_region_held_drew (S := (fun W => a02 (fun _ => False) w W ∧ a06 W w.heap.size 40 cs)) (by kernel_rfl) (⟨hKw.out, f1.out⟩) (fun hHeld => ?_)
   refine tk 0 rfl ?_
   refine tk 2 rfl ?_
   refine tkL 3 rfl (a04 (by rfl) 37 (.tmp 86) rfl w.heap.size 14 rfl _ (fun _ s => s.2.cell 14 _ hc14.out) (fun w s => g0y w _ _ _ s)) ?_
   refine tk 4 rfl ?_
   refine tk 5 rfl ?_
   refine tk 6 rfl ?_
   refine tkL 7 rfl (a04 (by rfl) 3 (.tmp 90) rfl g (o + k * 3) rfl _ (fun _ s => (s.1.rangeAt hrow.out (fun f => f)) 0 (.int .i64 kty) rfl) (fun w s => a0t w _ _ _ s)) ?_
   refine tk 8 rfl ?_
   refine tkL 9 rfl (a04 (by rfl) 37 (.tmp 92) rfl w.heap.size 14 rfl _ (fun _ s => s.2.cell 14 _ hc14.out) (fun w s => g0y w _ _ _ s)) ?_
   refine tk 10 rfl ?_
   refine tk 11 rfl ?_
   refine tk 12 rfl ?_
   refine tkL 13 rfl (a04 (by rfl) 22 (.tmp 96) rfl g (o + k * 3 + 1) rfl _ (fun _ s => (s.1.rangeAt hrow.out (fun f => f)) 1 (.int .u32 kid) rfl) (fun w s => b08 w _ _ _ s)) ?_
   refine tk 14 rfl ?_
   refine tkL 15 rfl (a04 (by rfl) 37 (.tmp 98) rfl w.heap.size 14 rfl _ (fun _ s => s.2.cell 14 _ hc14.out) (fun w s => g0y w _ _ _ s)) ?_
   refine tk 16 rfl ?_
   refine tk 17 rfl ?_
   refine tk 18 rfl ?_
   refine tkL 19 rfl (a04 (by rfl) 22 (.tmp 102) rfl g (o + k * 3 + 2) rfl _ (fun _ s => (s.1.rangeAt hrow.out (fun f => f)) 2 (.int .u32 kadv) rfl) (fun w s => b08 w _ _ _ s)) ?_
   refine tk 20 rfl ?_
   obtain ⟨W0, hW0⟩ : ∃ W0, W0 = wr.drew := ⟨_, rfl⟩
   rw [← hW0] at f1 f2 hBk f5 f6 hOn hKw hHeld ⊢
   clear hW0 hb g1 g2 g4 g5 g6 g7 g8 hrow
   refine c0a 1 21 rfl rfl (by kernel_rfl) (fun K hK => ?_) (fun K hK => ?_)
   focus
    have hcF := hBk.out.cell 14 (.slice q k d) rfl
    go_simp
    refine hK.out _ _ hHeld (fun hHeld => ?_)
    clear hK K hcF
    try simp only [Act.put, sA, sZ, sS]
    refine sL 21 rfl fun K hK => ?_
    go_simp
    refine hK.out _ _ (⟨hHeld.1.alloc _, hHeld.2.alloc _⟩) (fun hHeld => ?_)
    clear hK K
    try simp only [Act.put, sA, sZ, sS]
    have hka : a02 (fun _ => False) W0 (W0.alloc (.cells #[.int .i64 kty, .int .u32 kid, .int .u32 kadv] 71)) := (a02.refl _ _).alloc _
    have hnr : Hid ((W0.alloc (.cells #[.int .i64 kty, .int .u32 kid, .int .u32 kadv] 71)).rangeAt W0.heap.size 0 [.int .i64 kty, .int .u32 kid, .int .u32 kadv]) := Hi (a0o W0 _ 71)
    have hBk := Hi (hBk.out.keep hka (fun f => f)); have hOn := Hi (hOn.out.keep hka (fun _ _ f => f)); have hKw := Hi (hKw.out.alloc (.cells #[.int .i64 kty, .int .u32 kid, .int .u32 kadv] 71))
    have f1 := Hi (f1.out.keep hka id); have f2 := Hi (f2.out.keep hka id); have f5 := Hi (f5.out.keep hka (fun _ _ f => f)); have f6 := Hi (f6.out.keep hka (fun _ _ f => f))
    obtain ⟨nb, hnb⟩ : ∃ nb, nb = W0.heap.size := ⟨_, rfl⟩
    obtain ⟨W0, hWs⟩ : ∃ Wz, Wz = W0.alloc (.cells #[.int .i64 kty, .int .u32 kid, .int .u32 kadv] 71) := ⟨_, rfl⟩
    rw [← hWs] at hBk hOn hnr hHeld hKw f1 f2 f5 f6 ⊢
    rw [← hnb] at hnr ⊢
    clear hka hnb hWs
    refine sL 22 rfl fun K hK => ?_
   rotate_left 1
   focus
    go_simp
    refine hK.out _ _ (⟨hHeld.1.alloc _, hHeld.2.alloc _⟩) (fun hHeld => ?_)
    clear hK K
    try simp only [Act.put, sA, sZ, sS]
    have hka : a02 (fun _ => False) W0 (W0.alloc (.cells #[.int .i64 kty, .int .u32 kid, .int .u32 kadv] 71)) := (a02.refl _ _).alloc _
    have hnr : Hid ((W0.alloc (.cells #[.int .i64 kty, .int .u32 kid, .int .u32 kadv] 71)).rangeAt W0.heap.size 0 [.int .i64 kty, .int .u32 kid, .int .u32 kadv]) := Hi (a0o W0 _ 71)
    have hBk := Hi (hBk.out.keep hka (fun f => f)); have hOn := Hi (hOn.out.keep hka (fun _ _ f => f)); have hKw := Hi (hKw.out.alloc (.cells #[.int .i64 kty, .int .u32 kid, .int .u32 kadv] 71))
    have f1 := Hi (f1.out.keep hka id); have f2 := Hi (f2.out.keep hka id); have f5 := Hi (f5.out.keep hka (fun _ _ f => f)); have f6 := Hi (f6.out.keep hka (fun _ _ f => f))
    obtain ⟨nb, hnb⟩ : ∃ nb, nb = W0.heap.size := ⟨_, rfl⟩
    obtain ⟨W0, hWs⟩ : ∃ Wz, Wz = W0.alloc (.cells #[.int .i64 kty, .int .u32 kid, .int .u32 kadv] 71) := ⟨_, rfl⟩
    rw [← hWs] at hBk hOn hnr hHeld hKw f1 f2 f5 f6 ⊢
    rw [← hnb] at hnr ⊢
    clear hka hnb hWs
    refine sL 1 rfl fun K hK => ?_
    have hcF := hBk.out.cell 14 (.slice q k d) rfl
    go_simp
    refine hK.out _ _ hHeld (fun hHeld => ?_)
    clear hK K hcF
    try simp only [Act.put, sA, sZ, sS]
    refine sL 22 rfl fun K hK => ?_
   all_goals
    rw [if_pos (by rfl)]
    refine c0j (.tmp 85) (.tmp 105) 27 71 rfl ik (.agg #[.int .i64 0, .int .u32 0, .int .u32 0]) 16 Try.underlying27 hik hkz hksz hkby rfl (by decide) (by decide) c0o w _ k (P.keys.take k) htl'.out rfl hOn.out ⟨nb, 0, none⟩ rfl ⟨kty, kid, kadv⟩ (fun j u hu => by rw [Addr.add_mid]; exact hnr.out j u hu) (fun u hu => g0z _ u hu) (by omega) ?_
    intro q2 d2 w' hO2 hG2
    refine hK.out _ _ ⟨hHeld.1.trans' hG2.k (fun i e => .inr (hOn.out.2.1 i e)), hHeld.2.keep hG2.k (fun e => hOn.out.ne_blk f1.out (by decide) _ e rfl)⟩ (fun hHeld => ?_)
    clear hK K
    try simp only [Act.put, sA, sZ, sS]
    have e1 := Hi (f1.out.keep hG2.k (fun e => hOn.out.ne_blk f1.out (by decide) _ e rfl)); have e2 := Hi (f2.out.keep hG2.k (fun e => hOn.out.ne_blk f2.out (by decide) _ e rfl)); have e4 := Hi (hBk.out.keep hG2.k (fun e => hOn.out.ne_blk hBk.out (by decide) BP e rfl)); have e5 := Hi (f5.out.keep hG2.k (fun i e h => g0v f5.out hOn.out (by decide) i e h)); have e6 := Hi (f6.out.keep hG2.k (fun i e h => h0j f6.out hOn.out (by decide) i e h)); have e8 := Hi (hKw.out.trans' hG2.k (fun i e => .inr (hOn.out.2.1 i e)))
    have hcF := e4.out.cell 14 (.slice q k d) rfl
    have hfF := e4.out.frozen 14
    have hsF : a02 (fun i => i = BP) w' (w'.setCell ⟨BP, 14, none⟩ (.slice q2 (k + 1) d2)) := (a02.refl (fun i => i = BP) w').setCell (p := ⟨BP, 14, none⟩) (.inl rfl) _
    have hO2' := Hi hO2
    clear hO2 hG2 hOn f1 f2 hBk f5 f6 hKw
    refine tk 23 rfl ?_
    refine sL 24 rfl fun K hK => ?_
    go_simp
    refine hK.out _ _ (⟨hHeld.1.trans' hsF (fun i e => .inr (by rw [e]; exact Nat.le_of_lt (by have := g3.out; omega))), hHeld.2.keep hsF (fun e => by have := g3.out; omega)⟩) (fun hHeld => ?_)
    clear hK K
    try simp only [Act.put, sA, sZ, sS]
    refine wpAnyH_done (by kernel_rfl) (NoPanic.normal ?_) _
    clear hcF hfF
    go_wp2_with fail
    refine ⟨⟨k + 1, by omega, by go_num, Hi ⟨q2, d2, qn, qh, dn, dh, ?_, ?_, g3.out, e4.out.put 14 _, ?_, ?_, ?_, ?_⟩⟩, by simp [intOf]; omega⟩
    ·exact e1.out.keep hsF (fun e => by have := g3.out; omega)
    ·exact e2.out.keep hsF (fun e => by have := g3.out; omega)
    ·exact e5.out.keep hsF (fun i e h => (OwnN.ne_blkP e5.out e4.out) i e h)
    ·exact e6.out.keep hsF (fun i e h => e6.out.ne_blk e4.out (by decide) i e h)
    ·rw [htk.out]; exact hO2'.out.keep hsF (fun i e h => hO2'.out.ne_blk e4.out (by decide) i e h)
    ·exact e8.out.trans' hsF (fun i e => .inr (by rw [e]; exact Nat.le_of_lt (by have := g3.out; omega)))
  ·obtain rfl : k = n := by omega
   have hkni : ¬ (k : Int) < k := by omega
   go_wp2_with fail
   first | refine hJ _ _ ?_ ?_ | skip
   ·exact ⟨rfl, rfl, rfl, rfl, rfl⟩
   ·exact ⟨qn, qh, q, dn, dh, d, g1.out, g2.out, g3.out, g4.out, g5.out, g6.out, g7.out, g8.out⟩
end Go.Proofs.Ytmggbljkehclpaa
