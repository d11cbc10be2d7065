/- PQ -/
import Derived.Test.YtmggbljkehclpaaG23
set_option linter.unusedVariables false
set_option linter.unusedSimpArgs false
namespace Go.Proofs.Ytmggbljkehclpaa
open Go.RowKit
def e0x (G : a0x × Int) (w : World) (e : Ending) (w' : World) : Prop :=
 (∃ v, e = .returned (.tuple #[v, .int .i64 G.2]) ∧ b0f w.heap.size w' v G.1) ∧ a02 (fun _ => False) w w'
structure GetG (lo rt ar : Nat) (A : Array Value) (er : Int) (P : a0x) (L : Nat → Bool) (f : Nat → Value) (W : World) : Prop where
 g6 : L 6 = true → f 67 = .int .u32 rt
 g9 : L 9 = true → f 70 = .int .u32 ar
 g11 : L 11 = true → f 72 = .agg A
 g14 : L 14 = true → ∃ v, f 75 = .tuple #[v, .int .i64 er] ∧ (L 16 = true → f 76 = v) ∧ (L 19 = false → b0f lo W v P) ∧ (L 18 = true → L 19 = false → ∃ B, f 6 = .pointer (some ⟨B, 0, none⟩) ∧ j0q lo W v P B)
 g15 : L 15 = true → L 14 = true ∧ f 60 = f 75
 g16 : L 16 = true → L 15 = true
 g17 : L 17 = true → L 15 = true ∧ f 77 = .int .i64 er
 g18 : L 18 = true → L 19 = false → ∃ B, f 6 = .pointer (some ⟨B, 0, none⟩) ∧ lo ≤ B ∧ a06 W B 40 Zq
 g19 : L 19 = true → L 16 = true ∧ L 18 = true ∧ PackBox W (f 6) P lo
 g20 : L 20 = true → L 17 = true ∧ f 7 = .int .i64 er
theorem d02 {b : Bool} (h : b = true) (h2 : b = false) {p : Prop} : p := by rw [h] at h2; cases h2
theorem pkHear_n (type : Int) (router area : Nat) (auth : List UInt8) (S : ByteArray) (hS : Hid (S = ⟨auth.toArray⟩)) (p : Option Addr) (n c : Nat) (x : List UInt8) (P : a0x) (er : Int) (hn : Hid (x.length = n)) (hx : n ≤ 1000000) (w : World) (h : Hid (a0a w (.slice p n c) x)) (hP : Hid (b0p type router area auth x = (P, er))) :
 Calls Try.prog 31 #[.agg (Pa type router area S 0 0 0 0 0 0 Sn 0 0 Sn Sn Sn), .slice p n c] w (d0w P er w) := by
 have e := hn.out
 subst e
 have := o0o type router area auth S hS p c x hx w h
 rw [hP.out] at this
 exact this
theorem o0n (g o n c : Nat) (x : List UInt8) (S : Nat) (hn : Hid (x.length = n)) (hx : 24 ≤ n) (hx2 : n ≤ 900000) (hc : n ≤ c) (w : World) (hr : Hid (w.rangeAt g o (x.map bv))) (hS : Hid (sumX x = S)) :
 Calls Try.prog 21 #[.slice (some ⟨g, o, none⟩) n c] w fun e w' => e = .returned (.int .u16 S) ∧ a02 (fun _ => False) w w' := by
 have e := hn.out
 subst e
 exact j07 g o c x S hx hx2 hc w hr hS
set_option maxRecDepth 100000 in
set_option maxHeartbeats 16000000 in
theorem h0h (sl : Value) (x : List UInt8) (hx : x.length ≤ 900000) (S : ByteArray) (a : List UInt8) (hS : Hid (S = ⟨a.toArray⟩)) (G : a0x × Int) (w : World) (h : Hid (a0a w sl x)) (hG : Hid (getP x a = G)) (hokG : Hid (∀ P : a0x, P = (b0p ((x.getD 1 0).toNat : Int) (a0d (sub x 4 4)) (a0d (sub x 8 4)) a (x.drop 24)).1 → P.ok)) :
 Calls Try.prog 10 #[sl, .string S] w (e0x G w) := by
 obtain ⟨p, c, rfl, -, hc, hb⟩ := h.out
 have hR : Hid (a06 (w.alloc (.cells Zp 40)) w.heap.size 40 Zq) := Hi (a06.new w _ Zq)
 have hk : Hid (a02 (fun _ => False) w (w.alloc (.cells Zp 40))) := Hi ((a02.refl _ _).alloc _)
 have hsz : Hid (w.heap.size < (w.alloc (.cells Zp 40)).heap.size) := Hi (by simp)
 have hSa : Hid (S.data.toList = a) := Hi (by rw [hS.out])
 have hStr := hS
 have hSl : S.size = a.length := by rw [hS.out]; exact List.size_toArray ..
 have hGq := hG.out
 unfold getP at hGq
 go_enter Try.func10, Try.ntmps10
 go_upto_region 1 with fail
 generalize w.alloc (.cells Zp 40) = w0 at hR hk hsz ⊢
 by_cases h24 : x.length < 24
 ·have hg : Hid (G = (b0y, 4)) := Hi (by rw [← hGq, if_pos h24])
  clear hGq hb h
  go_wp2_with ((with_reducible refine a08 4 ?_); go_must (refine a05 rfl 40 (.tmp 4) (.tmp 13) rfl w.heap.size Zp rfl rfl (a06.there hR.out 0 16 (Nat.le_refl 16)) a0p (a0s _ _ _ _ _ _ _ _ _ _ _ _ _ _ _ _ (a03 _ _ _) (a03 _ _ _) (a03 _ _ _) (a03 _ _ _)) ?_; intro w9 hr9 hs9))
  refine bodyPost_ret (v := .tuple #[.agg Zp, .int .i64 4]) (a0g Try.results10 _ _ w.heap.size Zq _ rfl hr9.out Try.underlying40 rfl a0p) rfl ⟨⟨_, by rw [hg.out], by rw [hg.out]; exact b0f.zero _ _⟩, hk.out.trans' hs9.out (fun i e => .inr (by omega))⟩
 ·rw [if_neg h24] at hGq
  obtain ⟨g, o, rfl, hr⟩ := hb (by omega)
  obtain ⟨n, hn⟩ : ∃ n, n = x.length := ⟨_, rfl⟩
  have hn' := Hi hn.symm
  have hr0 := Hi (hk.out.rangeAt hr id)
  have i4 : (4 : Int) ≤ c := by omega
  have i14 : (14 : Int) ≤ c := by omega
  have i16 : (16 : Int) ≤ c := by omega
  have i24 : (24 : Int) ≤ c := by omega
  have i8 : (8 : Int) ≤ c := by omega
  have i12 : (12 : Int) ≤ c := by omega
  have i0n : (0 : Int) < n := by omega
  have i1n : (1 : Int) < n := by omega
  have i24n : (24 : Int) ≤ n := by omega
  have j2 : ¬ c = 2 := by omega
  have j12 : ¬ c = 12 := by omega
  have j14 : ¬ c = 14 := by omega
  have j16 : ¬ c = 16 := by omega
  have j4 : ¬ c = 4 := by omega
  have j8 : ¬ c = 8 := by omega
  have hcn : n ≤ c := by omega
  have hn24 : 24 ≤ n := by omega
  have hn9 : n ≤ 900000 := by omega
  obtain ⟨y0, hy0⟩ : ∃ y, (x.getD 0 0).toNat = y := ⟨_, rfl⟩
  have c0 : w0.cell? ⟨g, o, none⟩ = some (.int .u8 y0) := by
   have := a0i hr0.out 0 (by omega)
   rw [Nat.add_zero] at this
   rw [this, ← hy0, List.getD_eq_getElem?_getD, List.getElem?_eq_getElem (by omega)]; rfl
  have e0 : (x.getD 0 0 ≠ 2) ↔ y0 ≠ 2 := by
   rw [← hy0]
   constructor
   ·intro h1 h2; apply h1; apply UInt8.toNat_inj.mp; exact h2
   ·intro h1 h2; apply h1; rw [h2]; rfl
  obtain ⟨n2, hn2⟩ : ∃ m, a0d (sub x 2 2) = m := ⟨_, rfl⟩
  obtain ⟨n12, hn12⟩ : ∃ m, a0d (sub x 12 2) = m := ⟨_, rfl⟩
  obtain ⟨n14, hn14⟩ : ∃ m, a0d (sub x 14 2) = m := ⟨_, rfl⟩
  obtain ⟨rt, hrt⟩ : ∃ m, a0d (sub x 4 4) = m := ⟨_, rfl⟩
  obtain ⟨ar, har⟩ : ∃ m, a0d (sub x 8 4) = m := ⟨_, rfl⟩
  obtain ⟨sm, hsm⟩ : ∃ m, sumX x = m := ⟨_, rfl⟩
  obtain ⟨kd, hkd⟩ : ∃ m, e01 a = m := ⟨_, rfl⟩
  obtain ⟨ty, hty⟩ : ∃ m, (x.getD 1 0).toNat = m := ⟨_, rfl⟩
  rw [hn2, hn12, hn14, hrt, har, hsm, hkd, hty, ← hn] at hGq
  rw [hrt, har, hty] at hokG
  have b2 : n2 < 65536 := by have := d09 (x := x) (i := 2) (n := 2) (by omega); rw [hn2] at this; simpa using this
  have b12 : n12 < 65536 := by have := d09 (x := x) (i := 12) (n := 2) (by omega); rw [hn12] at this; simpa using this
  have b14 : n14 < 65536 := by have := d09 (x := x) (i := 14) (n := 2) (by omega); rw [hn14] at this; simpa using this
  have v2 : IntKind.i64.wrap (n2 : Int) = (n2 : Int) := IntWalk.i64_in _ (by omega)
  have v12 : IntKind.u16.wrap (n12 : Int) = (n12 : Int) := by rw [g0e]; omega
  have v14 : IntKind.u16.wrap (n14 : Int) = (n14 : Int) := by rw [g0e]; omega
  have s2 : (sub x 2 2).length ≤ 4 := by rw [a0k (by omega)]; omega
  have s12 : (sub x 12 2).length ≤ 4 := by rw [a0k (by omega)]; omega
  have s14 : (sub x 14 2).length ≤ 4 := by rw [a0k (by omega)]; omega
  have s4 : (sub x 4 4).length ≤ 4 := by rw [a0k (by omega)]; omega
  have s8 : (sub x 8 4).length ≤ 4 := by rw [a0k (by omega)]; omega
  have hn2' := Hi hn2; have hn12' := Hi hn12; have hn14' := Hi hn14; have hrt' := Hi hrt; have har' := Hi har; have hsm' := Hi hsm; have hkd' := Hi hkd; have hty' := Hi hty
  have hr' := Hi hr
  have kk : Hid (∀ W : World, a02 (fun _ => False) w W → W.rangeAt g o (x.map bv)) := Hi (fun W k => k.rangeAt hr id)
  have k2 := Hi (a0c hr0.out hc 2 2 (by omega))
  have k12 := Hi (a0c hr0.out hc 12 2 (by omega))
  rw [← hn]
  clear hn2 hn12 hn14 hrt har hsm hkd hty hr hb h hy0 hn h24
  have hx9 : x.length ≤ 900000 := hx
  clear hx hc
  by_cases hy : y0 = 2
  rotate_left
  ·have d0 : ((y0 : Int) != 2) = true := by simp; omega
   have hg : Hid (G = (b0y, 3)) := Hi (by rw [← hGq, if_pos (.inl (e0.2 hy))])
   clear hGq e0
   go_wp2_with ((with_reducible refine a08 4 ?_); go_must (refine a05 rfl 40 (.tmp 4) (.tmp 28) rfl w.heap.size Zp rfl rfl (a06.there hR.out 0 16 (Nat.le_refl 16)) a0p (a0s _ _ _ _ _ _ _ _ _ _ _ _ _ _ _ _ (a03 _ _ _) (a03 _ _ _) (a03 _ _ _) (a03 _ _ _)) ?_; intro w9 hr9 hs9))
   refine bodyPost_ret (v := .tuple #[.agg Zp, .int .i64 3]) (a0g Try.results10 _ _ w.heap.size Zq _ rfl hr9.out Try.underlying40 rfl a0p) rfl ⟨⟨_, by rw [hg.out], by rw [hg.out]; exact b0f.zero _ _⟩, hk.out.trans' hs9.out (fun i e => .inr (by omega))⟩
  have d0 : ((y0 : Int) != 2) = false := by rw [hy]; rfl
  go_wp2_with fail
  refine (b0b _ _ n2 s2 _ k2 hn2').mono ?_
  rintro e w' ⟨rfl, rfl⟩
  by_cases h2 : n2 = n
  rotate_left
  ·have d2 : ((n2 : Int) != (n : Int)) = true := by simp; omega
   have hg : Hid (G = (b0y, 3)) := Hi (by rw [← hGq, if_pos (.inr h2)])
   clear hGq e0
   go_wp2_with ((with_reducible refine a08 4 ?_); go_must (refine a05 rfl 40 (.tmp 4) (.tmp 28) rfl w.heap.size Zp rfl rfl (a06.there hR.out 0 16 (Nat.le_refl 16)) a0p (a0s _ _ _ _ _ _ _ _ _ _ _ _ _ _ _ _ (a03 _ _ _) (a03 _ _ _) (a03 _ _ _) (a03 _ _ _)) ?_; intro w9 hr9 hs9))
   refine bodyPost_ret (v := .tuple #[.agg Zp, .int .i64 3]) (a0g Try.results10 _ _ w.heap.size Zq _ rfl hr9.out Try.underlying40 rfl a0p) rfl ⟨⟨_, by rw [hg.out], by rw [hg.out]; exact b0f.zero _ _⟩, hk.out.trans' hs9.out (fun i e => .inr (by omega))⟩
  have d2 : ((n2 : Int) != (n : Int)) = false := by rw [h2]; simp
  rw [if_neg (by rintro (h | h); exact e0.1 h hy; exact h h2)] at hGq
  have hGq' := Hi hGq
  clear hGq e0
  go_wp2_with fail
  refine (b0b _ _ n12 s12 _ k12 hn12').mono ?_
  rintro e w' ⟨rfl, rfl⟩
  go_wp2_with fail
  refine (o0n g o n c x sm hn' hn24 hn9 hcn _ hr0 hsm').mono ?_
  rintro e w1 ⟨rfl, k1⟩
  have hR1 := Hi (hR.out.keep k1 id)
  have hk1 := Hi (hk.out.trans k1)
  clear k1 k2 k12 hr0 c0
  by_cases h12 : n12 = sm
  rotate_left
  ·have d12 : ((n12 : Int) != (sm : Int)) = true := by simp; omega
   have hg : Hid (G = (b0y, 8)) := Hi (by rw [← hGq'.out, if_pos h12])
   clear hGq'
   go_wp2_with ((with_reducible refine a08 4 ?_); go_must (refine a05 rfl 40 (.tmp 4) (.tmp 37) rfl w.heap.size Zp rfl rfl (a06.there hR1.out 0 16 (Nat.le_refl 16)) a0p (a0s _ _ _ _ _ _ _ _ _ _ _ _ _ _ _ _ (a03 _ _ _) (a03 _ _ _) (a03 _ _ _) (a03 _ _ _)) ?_; intro w9 hr9 hs9))
   refine bodyPost_ret (v := .tuple #[.agg Zp, .int .i64 8]) (a0g Try.results10 _ _ w.heap.size Zq _ rfl hr9.out Try.underlying40 rfl a0p) rfl ⟨⟨_, by rw [hg.out], by rw [hg.out]; exact b0f.zero _ _⟩, hk1.out.trans' hs9.out (fun i e => .inr (by omega))⟩
  have d12 : ((n12 : Int) != (sm : Int)) = false := by rw [h12]; simp
  have hGq2 := hGq'.out
  rw [if_neg (fun h => h h12)] at hGq2
  clear hGq'
  have hw1d := Hi (hk1.out.drew)
  have hR1d := Hi (hR1.out.keep ((a02.refl (fun _ => False) _).drew) id)
  by_cases hal : 8 < a.length
  ·have hda : decide ((8 : Int) < (a.length : Int)) = true := by simp; omega
   have hg : Hid (G = (b0y, 9)) := Hi (by rw [← hGq2, if_pos (.inl hal)])
   clear hGq2
   go_upto_region 7 with fail
   refine wp_region_noPanic ?_
   refine wp_region_held_drew (S := (fun _ => True)) (by kernel_rfl) (trivial) (fun hHeld => ?_)
   refine tk 0 rfl ?_
   refine tk 1 rfl ?_
   refine tk 2 rfl ?_
   refine tk 3 rfl ?_
   try rw [hda]
   refine tkS 4 rfl ?_
   refine tkS 5 rfl ?_
   refine tkS 6 rfl ?_
   refine tkS 7 rfl ?_
   refine tkS 8 rfl ?_
   refine tkS 9 rfl ?_
   refine tkS 10 rfl ?_
   refine tk 11 rfl ?_
   refine tk 12 rfl ?_
   refine tkS 13 rfl ?_
   refine tkS 14 rfl ?_
   refine tkS 15 rfl ?_
   refine tkS 16 rfl ?_
   refine tkS 17 rfl ?_
   refine tkS 18 rfl ?_
   refine tk 19 rfl ?_
   refine tk 20 rfl ?_
   refine wpAnyH_done (by kernel_rfl) (NoPanic.normal ?_) _
   clear hHeld
   go_wp2_with ((with_reducible refine a08 4 ?_); go_must (refine a05 rfl 40 (.tmp 4) (.tmp 59) rfl w.heap.size Zp rfl rfl (a06.there hR1d.out 0 16 (Nat.le_refl 16)) a0p (a0s _ _ _ _ _ _ _ _ _ _ _ _ _ _ _ _ (a03 _ _ _) (a03 _ _ _) (a03 _ _ _) (a03 _ _ _)) ?_; intro w9 hr9 hs9))
   refine bodyPost_ret (v := .tuple #[.agg Zp, .int .i64 9]) (a0g Try.results10 _ _ w.heap.size Zq _ rfl hr9.out Try.underlying40 rfl a0p) rfl ⟨⟨_, by rw [hg.out], by rw [hg.out]; exact b0f.zero _ _⟩, hw1d.out.trans' hs9.out (fun i e => .inr (by omega))⟩
  have hda : decide ((8 : Int) < (a.length : Int)) = false := by simp; omega
  have k14 := Hi (a0c (kk.out _ hw1d.out) (c := c) (by rw [hn'.out]; exact hcn) 14 2 (by rw [hn'.out]; omega))
  by_cases h14 : n14 = kd
  rotate_left
  ·have d14 : ((n14 : Int) != (kd : Int)) = true := by simp; omega
   have hg : Hid (G = (b0y, 9)) := Hi (by rw [← hGq2, if_pos (.inr (.inl h14))])
   clear hGq2
   go_upto_region 7 with fail
   refine wp_region_noPanic ?_
   refine wp_region_held_drew (S := (fun _ => True)) (by kernel_rfl) (trivial) (fun hHeld => ?_)
   refine tk 0 rfl ?_
   refine tk 1 rfl ?_
   refine tk 2 rfl ?_
   refine tk 3 rfl ?_
   try rw [hda]
   refine tk 4 rfl ?_
   refine tk 5 rfl ?_
   refine tk 8 rfl ?_
   refine sL 6 rfl fun K hK => ?_
   go_simp
   (refine (b0b _ _ n14 s14 _ k14 hn14').mono ?_; rintro e w' ⟨rfl, rfl⟩)
   go_wp2_with fail
   refine hK.out _ _ (trivial) (fun hHeld => ?_)
   clear hK K
   try simp only [Act.put, sA, sZ, sS]
   refine tk 7 rfl ?_
   refine sL 9 rfl fun K hK => ?_
   go_simp
   (refine (f0x S a hSa.out _).mono ?_; rintro e w' ⟨rfl, rfl⟩; rw [hkd'.out])
   go_wp2_with fail
   refine hK.out _ _ (trivial) (fun hHeld => ?_)
   clear hK K
   try simp only [Act.put, sA, sZ, sS]
   refine tk 10 rfl ?_
   try rw [d14]
   refine tk 11 rfl ?_
   refine tk 12 rfl ?_
   refine tkS 13 rfl ?_
   refine tkS 14 rfl ?_
   refine tkS 15 rfl ?_
   refine tkS 16 rfl ?_
   refine tkS 17 rfl ?_
   refine tkS 18 rfl ?_
   refine tk 19 rfl ?_
   refine tk 20 rfl ?_
   refine wpAnyH_done (by kernel_rfl) (NoPanic.normal ?_) _
   clear hHeld
   go_wp2_with ((with_reducible refine a08 4 ?_); go_must (refine a05 rfl 40 (.tmp 4) (.tmp 59) rfl w.heap.size Zp rfl rfl (a06.there hR1d.out 0 16 (Nat.le_refl 16)) a0p (a0s _ _ _ _ _ _ _ _ _ _ _ _ _ _ _ _ (a03 _ _ _) (a03 _ _ _) (a03 _ _ _) (a03 _ _ _)) ?_; intro w9 hr9 hs9))
   refine bodyPost_ret (v := .tuple #[.agg Zp, .int .i64 9]) (a0g Try.results10 _ _ w.heap.size Zq _ rfl hr9.out Try.underlying40 rfl a0p) rfl ⟨⟨_, by rw [hg.out], by rw [hg.out]; exact b0f.zero _ _⟩, hw1d.out.trans' hs9.out (fun i e => .inr (by omega))⟩
  have d14 : ((n14 : Int) != (kd : Int)) = false := by rw [h14]; simp
  have h14' := Hi h14; clear h14
  obtain ⟨r, hrq⟩ : ∃ r, (sub x 16 8 == key8 a) = r := ⟨_, rfl⟩
  have hrq' := Hi hrq
  go_upto_region 7 with fail
  refine wp_region_noPanic ?_
  refine wp_region_held_drew (S := (fun _ => True)) (by kernel_rfl) (trivial) (fun hHeld => ?_)
  refine tk 0 rfl ?_
  refine tk 1 rfl ?_
  refine tk 2 rfl ?_
  refine tk 3 rfl ?_
  try rw [hda]
  refine tk 4 rfl ?_
  refine tk 5 rfl ?_
  refine tk 8 rfl ?_
  refine sL 6 rfl fun K hK => ?_
  go_simp
  (refine (b0b _ _ n14 s14 _ k14 hn14').mono ?_; rintro e w' ⟨rfl, rfl⟩)
  go_wp2_with fail
  refine hK.out _ _ (trivial) (fun hHeld => ?_)
  clear hK K
  try simp only [Act.put, sA, sZ, sS]
  refine tk 7 rfl ?_
  refine sL 9 rfl fun K hK => ?_
  go_simp
  (refine (f0x S a hSa.out _).mono ?_; rintro e w' ⟨rfl, rfl⟩; rw [hkd'.out])
  go_wp2_with fail
  refine hK.out _ _ (trivial) (fun hHeld => ?_)
  clear hK K
  try simp only [Act.put, sA, sZ, sS]
  refine tk 10 rfl ?_
  try rw [d14]
  refine tk 11 rfl ?_
  refine tk 12 rfl ?_
  refine tk 13 rfl ?_
  refine tk 14 rfl ?_
  refine tk 15 rfl ?_
  refine sL 16 rfl fun K hK => ?_
  go_simp
  (refine (g0r S a hSa.out _).mono ?_; rintro e w2 ⟨gk, rfl, -, hBk, kW2⟩)
  go_wp2_with fail
  refine hK.out _ _ (trivial) (fun hHeld => ?_)
  clear hK K
  try simp only [Act.put, sA, sZ, sS]
  have hw2 := Hi (hw1d.out.trans kW2)
  have hR2 := Hi (hR1d.out.keep kW2 id)
  have kx := Hi (a0c (kk.out _ hw2.out) (c := c) (by rw [hn'.out]; exact hcn) 16 8 (by rw [hn'.out]; omega))
  have ky : Hid (a0a w2 (.slice (some ⟨gk, 0, none⟩) 8 8) (key8 a)) := Hi (a0a.of (d0v a) (Nat.le_refl _) hBk.range)
  clear kW2 hBk
  refine sL 17 rfl fun K hK => ?_
  go_simp
  (refine (d0c _ _ (sub x 16 8) (key8 a) r _ kx ky hrq').mono ?_; rintro e w' ⟨rfl, rfl⟩)
  go_wp2_with fail
  refine hK.out _ _ (trivial) (fun hHeld => ?_)
  clear hK K
  try simp only [Act.put, sA, sZ, sS]
  refine tk 18 rfl ?_
  refine tk 19 rfl ?_
  refine tk 20 rfl ?_
  refine wpAnyH_done (by kernel_rfl) (NoPanic.normal ?_) _
  clear hHeld kx ky
  cases r with
  | false =>
   have hg : Hid (G = (b0y, 9)) := Hi (by rw [← hGq2, if_pos (.inr (.inr (by simpa using hrq)))])
   clear hGq2 hrq
   go_wp2_with ((with_reducible refine a08 4 ?_); go_must (refine a05 rfl 40 (.tmp 4) (.tmp 59) rfl w.heap.size Zp rfl rfl (a06.there hR2.out 0 16 (Nat.le_refl 16)) a0p (a0s _ _ _ _ _ _ _ _ _ _ _ _ _ _ _ _ (a03 _ _ _) (a03 _ _ _) (a03 _ _ _) (a03 _ _ _)) ?_; intro w9 hr9 hs9))
   refine bodyPost_ret (v := .tuple #[.agg Zp, .int .i64 9]) (a0g Try.results10 _ _ w.heap.size Zq _ rfl hr9.out Try.underlying40 rfl a0p) rfl ⟨⟨_, by rw [hg.out], by rw [hg.out]; exact b0f.zero _ _⟩, hw2.out.trans' hs9.out (fun i e => .inr (by omega))⟩
  | true =>
  rw [if_neg (by rintro (h | h | h); exact hal h; exact h h14'.out; exact h (by simpa using hrq))] at hGq2
  clear hrq hrq' hR1d hw1d hR1 hk1 hR hk
  obtain ⟨P, er, hPe⟩ : ∃ P er, b0p (ty : Int) rt ar a (x.drop 24) = (P, er) := ⟨_, _, rfl⟩
  have hPe' := Hi hPe
  have hokP : Hid P.ok := Hi (hokG.out P (by rw [hPe]))
  rw [hPe] at hGq2
  clear hPe hokG
  have hGq3 := Hi hGq2
  clear hGq2
  have c1 : Hid (∀ W : World, a02 (fun _ => False) w W → W.cell? ⟨g, o + 1, none⟩ = some (.int .u8 ty)) := Hi (fun W k => by
   have := a0i (kk.out W k) 1 (by rw [hn'.out]; omega)
   rw [this, ← hty'.out, List.getD_eq_getElem?_getD, List.getElem?_eq_getElem (by rw [hn'.out]; omega)]; rfl)
  have lty : ty < 256 := by rw [← hty'.out]; exact UInt8.toNat_lt _
  have vty : IntKind.i64.wrap (ty : Int) = (ty : Int) := IntWalk.i64_in _ (by omega)
  have k4 : Hid (∀ W : World, a02 (fun _ => False) w W → a0a W (.slice (some ⟨g, o + 4, none⟩) 4 (c - 4)) (sub x 4 4)) := Hi (fun W k => a0c (kk.out W k) (c := c) (by rw [hn'.out]; exact hcn) 4 4 (by rw [hn'.out]; omega))
  have k8 : Hid (∀ W : World, a02 (fun _ => False) w W → a0a W (.slice (some ⟨g, o + 8, none⟩) 4 (c - 8)) (sub x 8 4)) := Hi (fun W k => a0c (kk.out W k) (c := c) (by rw [hn'.out]; exact hcn) 8 4 (by rw [hn'.out]; omega))
  obtain ⟨pp, hpp⟩ : ∃ pp, (if c = 24 then some (⟨g, o, none⟩ : Addr) else some ⟨g, o + 24, none⟩) = pp := ⟨_, rfl⟩
  have k24 : Hid (∀ W : World, a02 (fun _ => False) w W → a0a W (.slice pp (n - 24) (c - 24)) (x.drop 24)) := Hi (fun W k => by
   have := a0w (kk.out W k) (c := c) (by rw [hn'.out]; exact hcn) 24 (by rw [hn'.out]; omega)
   rw [hpp, hn'.out] at this; exact this)
  have hpp' := Hi hpp
  have hd24 : Hid ((x.drop 24).length = n - 24) := Hi (by rw [List.length_drop, hn'.out])
  have hsz2 : Hid (w.heap.size < w2.heap.size) := Hi (lt_of_block hR2.out)
  clear hpp d0 d2 d12 d14 hda
  go_upto_region 9 with fail
  refine wp_region_noPanic ?_
  refine wp_region_held_drew (S := (fun W => a02 (fun _ => False) w2 W)) (by kernel_rfl) (((a02.refl (fun _ => False) _).drew)) (fun hHeld => ?_)
  refine tk 0 rfl ?_
  refine tk 1 rfl ?_
  refine tkL 2 rfl (a04 (by rfl) 5 (.tmp 62) rfl g (o + 1) rfl _ (fun W s => c1.out W (hw2.out.trans s)) (fun w s => g05 w _ _ _ s)) ?_
  refine tk 3 rfl ?_
  refine tk 4 rfl ?_
  refine tk 5 rfl ?_
  refine tk 7 rfl ?_
  refine tk 8 rfl ?_
  refine tk 10 rfl ?_
  refine tk 12 rfl ?_
  refine tk 13 rfl ?_
  rw [hpp'.out]
  refine b0a [67, 70, 72, 75, 60, 76, 77, 6, 7] [6, 9, 11, 14, 15, 16, 17, 18, 19, 20] (fun L f W => GetG w2.heap.size rt ar (Pa (ty : Nat) rt ar S 0 0 0 0 0 0 Sn 0 0 Sn Sn Sn) er P L f W) (by kernel_rfl) (by kernel_rfl) (by kernel_rfl) (by kernel_rfl) (Nat.le_of_ble_eq_true (by kernel_rfl)) hHeld
   (fun L f h => { g6 := fun e => d02 e (h 6 (by decide)), g9 := fun e => d02 e (h 9 (by decide)), g11 := fun e => d02 e (h 11 (by decide)), g14 := fun e => d02 e (h 14 (by decide)), g15 := fun e => d02 e (h 15 (by decide)), g16 := fun e => d02 e (h 16 (by decide)), g17 := fun e => d02 e (h 17 (by decide)), g18 := fun e => d02 e (h 18 (by decide)), g19 := fun e => d02 e (h 19 (by decide)), g20 := fun e => d02 e (h 20 (by decide)) }) ?_ ?_
  ·refine a0v.cons (d := 67) rfl rfl (by decide) ?_ (a0v.cons (d := 70) rfl rfl (by decide) ?_ (a0v.cons (d := 72) rfl rfl (by decide) ?_ (a0v.cons (d := 75) rfl rfl (by decide) ?_ (a0v.cons (d := 60) rfl rfl (by decide) ?_ (a0v.cons (d := 76) rfl rfl (by decide) ?_ (a0v.cons (d := 77) rfl rfl (by decide) ?_ (a0v.cons (d := 6) rfl rfl (by decide) ?_ (a0v.cons0 rfl rfl ?_ (a0v.cons (d := 7) rfl rfl (by decide) ?_ a0v.nil)))))))))
   ·intro L f W hG hS hL hdep K hK
    simp only [a0r, List.foldl_cons, List.foldl_nil, Act.put, sA, sZ, sS] at hK ⊢
    rw [if_pos (by rfl)]
    go_simp
    refine (b0b _ _ rt s4 _ (Hi (k4.out _ (hw2.out.trans hS))) hrt').mono ?_
    rintro e w' ⟨rfl, rfl⟩
    go_wp2_with fail
    exact hK.out _ _ hS { g6 := fun _ => rfl, g9 := hG.g9, g11 := hG.g11, g14 := hG.g14, g15 := hG.g15, g16 := hG.g16, g17 := hG.g17, g18 := hG.g18, g19 := hG.g19, g20 := hG.g20 }
   ·intro L f W hG hS hL hdep K hK
    simp only [a0r, List.foldl_cons, List.foldl_nil, Act.put, sA, sZ, sS] at hK ⊢
    rw [if_pos (by rfl)]
    go_simp
    refine (b0b _ _ ar s8 _ (Hi (k8.out _ (hw2.out.trans hS))) har').mono ?_
    rintro e w' ⟨rfl, rfl⟩
    go_wp2_with fail
    exact hK.out _ _ hS { g6 := hG.g6, g9 := fun _ => rfl, g11 := hG.g11, g14 := hG.g14, g15 := hG.g15, g16 := hG.g16, g17 := hG.g17, g18 := hG.g18, g19 := hG.g19, g20 := hG.g20 }
   ·intro L f W hG hS hL hdep K hK
    simp only [a0r, List.foldl_cons, List.foldl_nil, Act.put, sA, sZ, sS] at hK ⊢
    rw [if_pos (by rfl)]
    have d6 := hdep ⟨6, .data⟩ (by simp) rfl (by decide)
    have d9 := hdep ⟨9, .data⟩ (by simp) rfl (by decide)
    rw [hG.g6 d6, hG.g9 d9] at hK ⊢
    go_simp
    exact hK.out _ _ hS { g6 := hG.g6, g9 := hG.g9, g11 := fun _ => rfl, g14 := hG.g14, g15 := hG.g15, g16 := hG.g16, g17 := hG.g17, g18 := hG.g18, g19 := hG.g19, g20 := hG.g20 }
   ·intro L f W hG hS hL hdep K hK
    simp only [a0r, List.foldl_cons, List.foldl_nil, Act.put, sA, sZ, sS] at hK ⊢
    rw [if_pos (by rfl)]
    have d11 := hdep ⟨11, .data⟩ (by simp) rfl (by decide)
    rw [hG.g11 d11] at hK ⊢
    go_simp
    refine (pkHear_n (ty : Int) rt ar a S hStr pp (n - 24) (c - 24) (x.drop 24) P er hd24 (by omega) _ (Hi (k24.out _ (hw2.out.trans hS))) hPe').mono ?_
    rintro e W' ⟨⟨v, rfl, hV⟩, k'⟩
    go_wp2_with fail
    have n14 : ∀ {p : Prop}, L 14 = true → p := fun e => d02 e hL
    exact hK.out _ _ (hS.trans k') { g6 := hG.g6, g9 := hG.g9, g11 := hG.g11, g14 := fun _ => ⟨v, rfl, fun e16 => n14 (hG.g15 (hG.g16 e16)).1, fun _ => hV.older hS.size, fun e18 e19 => by obtain ⟨B, h1, h2, h3⟩ := hG.g18 e18 e19; exact ⟨B, h1, hV.away (lt_of_block h3) hS.size⟩⟩, g15 := fun e => n14 (hG.g15 e).1, g16 := hG.g16, g17 := hG.g17, g18 := fun e18 e19 => by obtain ⟨B, h1, h2, h3⟩ := hG.g18 e18 e19; exact ⟨B, h1, h2, h3.keep k' id⟩, g19 := fun e => n14 (hG.g15 (hG.g16 (hG.g19 e).1)).1, g20 := hG.g20 }
   ·intro L f W hG hS hL hdep K hK
    simp only [a0r, List.foldl_cons, List.foldl_nil, Act.put, sA, sZ, sS] at hK ⊢
    rw [if_pos (by rfl)]
    have d14 := hdep ⟨14, .data⟩ (by simp) rfl (by decide)
    go_simp
    exact hK.out _ _ hS { g6 := hG.g6, g9 := hG.g9, g11 := hG.g11, g14 := hG.g14, g15 := fun _ => ⟨d14, rfl⟩, g16 := fun _ => rfl, g17 := fun e => ⟨rfl, (hG.g17 e).2⟩, g18 := hG.g18, g19 := hG.g19, g20 := hG.g20 }
   ·intro L f W hG hS hL hdep K hK
    simp only [a0r, List.foldl_cons, List.foldl_nil, Act.put, sA, sZ, sS] at hK ⊢
    rw [if_pos (by rfl)]
    have d15 := hdep ⟨15, .data⟩ (by simp) rfl (by decide)
    obtain ⟨v, q1, q2, q3, q4⟩ := hG.g14 (hG.g15 d15).1
    have h60 : f 60 = .tuple #[v, .int .i64 er] := (hG.g15 d15).2.trans q1
    rw [h60] at hK ⊢
    have q1' := Hi q1
    clear q1 h60
    go_simp
    exact hK.out _ _ hS { g6 := hG.g6, g9 := hG.g9, g11 := hG.g11, g14 := fun _ => ⟨v, q1'.out, fun _ => rfl, q3, q4⟩, g15 := hG.g15, g16 := fun _ => d15, g17 := hG.g17, g18 := hG.g18, g19 := fun e => ⟨rfl, (hG.g19 e).2⟩, g20 := hG.g20 }
   ·intro L f W hG hS hL hdep K hK
    simp only [a0r, List.foldl_cons, List.foldl_nil, Act.put, sA, sZ, sS] at hK ⊢
    rw [if_pos (by rfl)]
    have d15 := hdep ⟨15, .data⟩ (by simp) rfl (by decide)
    obtain ⟨v, q1, q2, q3, q4⟩ := hG.g14 (hG.g15 d15).1
    have h60 : f 60 = .tuple #[v, .int .i64 er] := (hG.g15 d15).2.trans q1
    rw [h60] at hK ⊢
    have q1' := Hi q1
    clear q1 h60
    go_simp
    exact hK.out _ _ hS { g6 := hG.g6, g9 := hG.g9, g11 := hG.g11, g14 := hG.g14, g15 := hG.g15, g16 := hG.g16, g17 := fun _ => ⟨d15, rfl⟩, g18 := hG.g18, g19 := hG.g19, g20 := fun e => ⟨rfl, (hG.g20 e).2⟩ }
   ·intro L f W hG hS hL hdep K hK
    simp only [a0r, List.foldl_cons, List.foldl_nil, Act.put, sA, sZ, sS] at hK ⊢
    rw [if_pos (by rfl)]
    go_simp
    have k' : a02 (fun _ => False) W (W.alloc (.cells Zp 40)) := (a02.refl _ _).alloc _
    exact hK.out _ _ (hS.trans k') { g6 := hG.g6, g9 := hG.g9, g11 := hG.g11, g14 := fun e => by obtain ⟨v, q1, q2, q3, q4⟩ := hG.g14 e; exact ⟨v, q1, q2, fun e19 => (q3 e19).keep k', fun _ e19 => ⟨W.heap.size, rfl, ((q3 e19).away2).keep k'⟩⟩, g15 := hG.g15, g16 := hG.g16, g17 := hG.g17, g18 := fun _ _ => ⟨W.heap.size, rfl, hS.size, a06.new W _ Zq⟩, g19 := fun e => d02 (hG.g19 e).2.1 hL, g20 := hG.g20 }
   ·intro L f W hG hS hL hdep K hK
    simp only [a0r, List.foldl_cons, List.foldl_nil, Act.put, sA, sZ, sS] at hK ⊢
    rw [if_pos (by rfl)]
    have d16 := hdep ⟨16, .data⟩ (by simp) rfl (by decide)
    have d18 := hdep ⟨18, .data⟩ (by simp) rfl (by decide)
    obtain ⟨v, q1, q2, q3, q4⟩ := hG.g14 (hG.g15 (hG.g16 d16)).1
    obtain ⟨B, h6, hX⟩ := q4 d18 hL
    obtain ⟨B', h6', hlo, hblk⟩ := hG.g18 d18 hL
    rw [h6] at h6'; injection h6' with h6'; injection h6' with h6'; injection h6' with h6'; subst h6'
    obtain ⟨cs, hcv, hcl, hone⟩ := hX.cells
    have hth : W.there B 0 cs.toArray.size := hblk.there 0 _ (by simp [hcl])
    refine wp_store_mid 40 (.tmp 6) (.tmp 76) rfl B 0 cs.toArray h6 ((q2 d16).trans hcv) hth (by rw [a0p]; simp [hcl]) hone ?_
    have hs9 : a02 (fun i => i = B) W (W.setCells B 0 cs.toArray.toList) := a02.setCells (F := fun i => i = B) (.inl rfl) _ _ _ (a02.refl _ _)
    have hrg : (W.setCells B 0 cs.toArray.toList).rangeAt B 0 cs := by
     have := World.rangeAt_setCells_same W B 0 cs.toArray.toList (by simpa using hth)
     simpa using this
    rw [hcv] at hX
    exact hK.out _ (hS.trans' hs9 (fun i e => .inr (by omega))) { g6 := hG.g6, g9 := hG.g9, g11 := hG.g11, g14 := fun _ => ⟨v, q1, q2, fun e => absurd (show true = false from e) (by decide), fun _ e => absurd (show true = false from e) (by decide)⟩, g15 := hG.g15, g16 := hG.g16, g17 := hG.g17, g18 := fun _ e => absurd (show true = false from e) (by decide), g19 := fun _ => ⟨d16, d18, B, cs, h6, hlo, hrg, hcl, hX.store hs9⟩, g20 := hG.g20 }
   ·intro L f W hG hS hL hdep K hK
    simp only [a0r, List.foldl_cons, List.foldl_nil, Act.put, sA, sZ, sS] at hK ⊢
    rw [if_pos (by rfl)]
    have d17 := hdep ⟨17, .data⟩ (by simp) rfl (by decide)
    go_simp
    exact hK.out _ _ hS { g6 := hG.g6, g9 := hG.g9, g11 := hG.g11, g14 := hG.g14, g15 := hG.g15, g16 := hG.g16, g17 := hG.g17, g18 := hG.g18, g19 := hG.g19, g20 := fun _ => ⟨d17, (hG.g17 d17).2⟩ }
  ·intro f W hG hS
   obtain ⟨-, -, B, cs, h6, hlo, hrB, hcl, hPF⟩ := hG.g19 rfl
   have h7 := (hG.g20 rfl).2
   simp only [a0r, List.foldl_cons, List.foldl_nil, Act.put, sA, sZ, sS]
   rw [h6, h7]
   generalize f 67 = f67
   generalize f 70 = f70
   generalize f 72 = f72
   generalize f 75 = f75
   generalize f 60 = f60
   generalize f 76 = f76
   generalize f 77 = f77
   have hw3 := Hi (hw2.out.trans hS)
   have hR3 := Hi (hR2.out.keep hS id)
   have hrB' := Hi hrB; have hcl' := Hi hcl; have hPF' := Hi hPF; have hlo' := Hi hlo
   clear hG h6 h7 hS hrB hcl hPF hlo f hw2 hR2
   refine NoPanic.normal ?_
   by_cases her : er = 0
   rotate_left
   ·have d3 : (er != 0) = true := by simp [her]
    have hg : Hid (G = (b0y, er)) := Hi (by rw [← hGq3.out, if_pos her])
    clear hGq3 her
    go_wp2_with ((with_reducible refine a08 4 ?_); go_must (refine a05 rfl 40 (.tmp 4) (.tmp 80) rfl w.heap.size Zp rfl rfl (a06.there hR3.out 0 16 (Nat.le_refl 16)) a0p (a0s _ _ _ _ _ _ _ _ _ _ _ _ _ _ _ _ (a03 _ _ _) (a03 _ _ _) (a03 _ _ _) (a03 _ _ _)) ?_; intro w9 hr9 hs9))
    refine bodyPost_ret (v := .tuple #[.agg Zp, .int .i64 er]) (a0g Try.results10 _ _ w.heap.size Zq _ rfl hr9.out Try.underlying40 rfl a0p) rfl ⟨⟨_, by rw [hg.out], by rw [hg.out]; exact b0f.zero _ _⟩, hw3.out.trans' hs9.out (fun i e => .inr (by omega))⟩
   have hGq4 := hGq3.out
   rw [if_neg (fun h => h her)] at hGq4
   obtain ⟨pn, cn, ph, ch, pk, ck, pl, cl, cs', hcc, hcs', hpin⟩ := hPF'.out.packIn
   have hcc2 : cs = cs' := by injection hcc with hcc; exact List.toArray_inj hcc
   subst hcc2
   have hcs2 := Hi hcs'; have hpin' := Hi hpin
   have hci : Hid ((Try.prog.info? 40).map (·.size) = some cs.length) := Hi (by rw [a0p, hcl'.out])
   obtain ⟨z, hz⟩ : ∃ z, okP P = z := ⟨_, rfl⟩
   obtain ⟨r2, hr2⟩ : ∃ r, (putP P == x) = r := ⟨_, rfl⟩
   have hz' := Hi hz; have hr2' := Hi hr2
   have hGq5 := Hi hGq4
   have her' := Hi her
   subst her
   clear hcc hcs' hpin hz hr2 hGq4 hGq3 her'
   go_wp2_with ((with_reducible refine a09 83 ?_); refine wpList_load_mid rfl 40 (.tmp 6) rfl B 0 rfl cs _ hrB'.out Try.underlying40 rfl hci.out ?_)
   refine (l0u P pn ph pk pl cn ch ck cl cs z _ hcs2 hpin' hokP hz').mono ?_
   rintro e w4 ⟨⟨hyes, hno⟩, k5⟩
   have hw4 := Hi (hw3.out.trans k5)
   have hR4 := Hi (hR3.out.keep k5 id)
   have hrB4 := Hi (k5.rangeAt hrB'.out id)
   have hPF4 := Hi (hPF'.out.keep k5)
   clear k5
   cases z with
   | false =>
    obtain rfl := hno rfl
    have hg : Hid (G = (b0y, 3)) := Hi (by rw [← hGq5.out, if_neg]; rintro ⟨h, _⟩; rw [hz'.out] at h; cases h)
    clear hno hyes
    go_wp2_with ((with_reducible refine a08 4 ?_); go_must (refine a05 rfl 40 (.tmp 4) (.tmp 95) rfl w.heap.size Zp rfl rfl (a06.there hR4.out 0 16 (Nat.le_refl 16)) a0p (a0s _ _ _ _ _ _ _ _ _ _ _ _ _ _ _ _ (a03 _ _ _) (a03 _ _ _) (a03 _ _ _) (a03 _ _ _)) ?_; intro w9 hr9 hs9))
    refine bodyPost_ret (v := .tuple #[.agg Zp, .int .i64 3]) (a0g Try.results10 _ _ w.heap.size Zq _ rfl hr9.out Try.underlying40 rfl a0p) rfl ⟨⟨_, by rw [hg.out], by rw [hg.out]; exact b0f.zero _ _⟩, hw4.out.trans' hs9.out (fun i e => .inr (by omega))⟩
   | true =>
   obtain ⟨pq, cq, rfl, hOq⟩ := hyes rfl
   have hbq := Hi hOq.bytes
   have hbx : Hid (a0a w4 (.slice (some ⟨g, o, none⟩) n c) x) := Hi (a0a.of hn'.out hcn (kk.out _ hw4.out))
   clear hOq hyes hno
   go_wp2_with fail
   refine (d0c _ _ (putP P) x r2 _ hbq hbx hr2').mono ?_
   rintro e w' ⟨rfl, rfl⟩
   cases r2 with
   | false =>
    have hg : Hid (G = (b0y, 3)) := Hi (by rw [← hGq5.out, if_neg]; rintro ⟨_, h⟩; have := hr2'.out; rw [h] at this; simp at this)
    go_wp2_with ((with_reducible refine a08 4 ?_); go_must (refine a05 rfl 40 (.tmp 4) (.tmp 95) rfl w.heap.size Zp rfl rfl (a06.there hR4.out 0 16 (Nat.le_refl 16)) a0p (a0s _ _ _ _ _ _ _ _ _ _ _ _ _ _ _ _ (a03 _ _ _) (a03 _ _ _) (a03 _ _ _) (a03 _ _ _)) ?_; intro w9 hr9 hs9))
    refine bodyPost_ret (v := .tuple #[.agg Zp, .int .i64 3]) (a0g Try.results10 _ _ w.heap.size Zq _ rfl hr9.out Try.underlying40 rfl a0p) rfl ⟨⟨_, by rw [hg.out], by rw [hg.out]; exact b0f.zero _ _⟩, hw4.out.trans' hs9.out (fun i e => .inr (by omega))⟩
   | true =>
   have hg : Hid (G = (P, 0)) := Hi (by rw [← hGq5.out, if_pos ⟨hz'.out, by simpa using hr2'.out⟩])
   have hone : Hid (cs.toArray.all (·.oneCell') = true) := Hi (by rw [hcs2.out]; exact a0s _ _ _ _ _ _ _ _ _ _ _ _ _ _ _ _ (a03 _ _ _) (a03 _ _ _) (a03 _ _ _) (a03 _ _ _))
   go_wp2_with (first | ((with_reducible refine a09 96 ?_); go_must (refine wpList_load_mid rfl 40 (.tmp 6) rfl B 0 rfl cs _ hrB4.out Try.underlying40 rfl hci.out ?_)) | ((with_reducible refine a08 4 ?_); go_must (refine a05 rfl 40 (.tmp 4) (.tmp 96) rfl w.heap.size cs.toArray rfl rfl (a06.there hR4.out 0 _ (by rw [List.size_toArray, hcl'.out]; exact Nat.le_refl 16)) (by rw [List.size_toArray]; exact hci.out) hone.out ?_; intro w9 hr9 hs9)))
   refine bodyPost_ret (v := .tuple #[.agg cs.toArray, .int .i64 0]) (a0g Try.results10 _ _ w.heap.size cs _ rfl hr9.out Try.underlying40 rfl hci.out) rfl ⟨⟨_, by rw [hg.out], ?_⟩, hw4.out.trans' hs9.out (fun i e => .inr (by omega))⟩
   rw [hg.out]
   exact (hPF4.out.keepF hs9.out (fun i h1 e => by have := hsz2.out; omega)).older (Nat.le_of_lt hsz2.out)
end Go.Proofs.Ytmggbljkehclpaa
