/- QGr -/
import Derived.Test.YtmggbljkehclpaaG41
set_option linter.unusedVariables false
set_option linter.unusedSimpArgs false
namespace Go.Proofs.Ytmggbljkehclpaa
open Go.RowKit
set_option maxRecDepth 100000 in
set_option maxHeartbeats 32000000 in
theorem k0z (sl : Value) (l : List UInt8) (S0 : ByteArray) (w : World) (h : Hid (a0a w sl l)) (hl : l.length ≤ 9223372036854775807) (hS0 : S0.size ≤ 9223372036854775807) :
 Calls Try.prog 5 #[sl, .string S0] w (fun e w' => e = .returned (.bool true) ∧ a02 (fun _ => False) w w') := by
 obtain ⟨p, c, rfl, hp0, hc0, hb0⟩ := h.out
 obtain ⟨n, hn⟩ : ∃ n, l.length = n := ⟨_, rfl⟩
 rw [hn] at h hl hc0 ⊢
 obtain ⟨m, hm⟩ : ∃ m : Nat, min n 200 = m := ⟨_, rfl⟩
 have hmi : (if (200 : Int) < (n : Int) then (200 : Int) else (n : Int)) = (m : Int) := by split <;> omega
 obtain ⟨k, hk⟩ : ∃ k : Nat, min S0.size 12 = k := ⟨_, rfl⟩
 have hki : (if (12 : Int) < (S0.size : Int) then (12 : Int) else (S0.size : Int)) = (k : Int) := by split <;> omega
 have hmc : (m : Int) ≤ c := by omega
 have hm0 : (0 : Int) ≤ m := by omega
 have hks : (k : Int) ≤ S0.size := by omega
 have hk0 : (0 : Int) ≤ k := by omega
 obtain ⟨x, hx⟩ : ∃ x, l.take m = x := ⟨_, rfl⟩
 have hxl : Hid (x.length = m) := Hi (by rw [← hx, List.length_take, hn]; omega)
 have hx2 : m ≤ 200 := by omega
 have hB : Hid (a0a w (.slice p m c) x) := Hi (by rw [← hx]; exact h.out.first m (by rw [hn]; omega))
 clear hx hm hp0 hb0 h
 go_enter Try.func5, Try.ntmps5
 go_upto_region 1 with fail
 refine wp_region_noPanic ?_
 refine wp_region_held_drew (S := (fun W => W = w.drew)) (by kernel_rfl) (rfl) (fun hHeld => ?_)
 refine tk 0 rfl ?_
 refine tk 1 rfl ?_
 refine tk 2 rfl ?_
 refine tk 3 rfl ?_
 refine tk 4 rfl ?_
 refine tk 5 rfl ?_
 refine tk 6 rfl ?_
 refine tk 7 rfl ?_
 refine tk 8 rfl ?_
 refine tk 9 rfl ?_
 refine tk 10 rfl ?_
 refine tk 11 rfl ?_
 refine wpAnyH_done (by kernel_rfl) (NoPanic.normal ?_) _
 clear hHeld hmi hki hmc hm0 hks hk0
 obtain ⟨S2, hS2⟩ : ∃ T, S0.extract 0 k = T := ⟨_, rfl⟩
 rw [hS2]
 obtain ⟨a, ha⟩ : ∃ a, S2.data.toList = a := ⟨_, rfl⟩
 have hSa : Hid (S2 = ⟨a.toArray⟩) := Hi (by rw [← ha])
 have hal9 : a.length ≤ 9223372036854775807 := by
  have h1 : a.length = S2.size := by rw [← ha]; exact Array.length_toList
  have h2 : S2.size ≤ S0.size := by rw [← hS2, ByteArray.size_extract]; omega
  omega
 clear hS2 ha hk
 have hB1 := Hi (hB.out.keep ((a02.refl (fun _ => False) w).drew))
 have hk0 : Hid (a02 (fun _ => False) w w.drew) := Hi ((a02.refl _ _).drew)
 generalize w.drew = w0 at hB1 hk0 ⊢
 have hx9 : x.length ≤ 900000 := by rw [hxl.out]; omega
 have hsm := k0i x a hx9
 obtain ⟨⟨P, er⟩, hG⟩ : ∃ G, getP x a = G := ⟨_, rfl⟩
 have hG' := Hi hG
 rw [hG] at hsm
 have hsm' := Hi (show P.small from hsm)
 have hok := Hi (h0o x a hx9)
 clear hG hsm hB
 go_wp2_with fail
 refine (h0h _ x hx9 S2 a hSa (P, er) _ hB1 hG' hok).mono ?_
 rintro e w1 ⟨⟨v, rfl, hv⟩, k1⟩
 obtain ⟨p0, c0, p1, c1, p2, c2, p3, c3, cs, rfl, hcs0, hin0⟩ := hv.packIn
 have hcs := Hi hcs0
 have hcl : Hid (cs.length = 16) := Hi (by rw [hcs0]; rfl)
 have hone : Hid (cs.toArray.all (·.oneCell') = true) := Hi (by rw [hcs0]; exact a0s _ _ _ _ _ _ _ _ _ _ _ _ _ _ _ _ (a03 _ _ _) (a03 _ _ _) (a03 _ _ _) (a03 _ _ _))
 have hci : Hid ((Try.prog.info? 40).map (·.size) = some cs.length) := Hi (by rw [a0p, hcl.out])
 have ka : a02 (fun _ => False) w1 (w1.alloc (.cells cs.toArray 40)) := (a02.refl _ _).alloc _
 have hin := Hi (hin0.keep ka)
 have hX : Hid (a06 (w1.alloc (.cells cs.toArray 40)) w1.heap.size 40 cs) := Hi (a06.new w1 _ _)
 have hB2 := Hi (hB1.out.keep (k1.trans ka)); have hk1 := Hi (hk0.out.trans (k1.trans ka))
 clear hcs0 hin0 hv k1 ka hB1 hk0
 go_upto_region 3 with ((with_reducible refine a08 5 ?_); go_must (refine a07 rfl 40 (.tmp 5) (.tmp 23) rfl _ cs.toArray rfl rfl (by rw [List.size_toArray]; exact hci.out) (by rw [List.size_toArray, List.size_toArray, hcl.out]; rfl) hone.out ?_))
 generalize w1.heap.size = B5 at hX ⊢
 generalize w1.alloc (.cells cs.toArray 40) = w2 at hX hin hB2 hk1 ⊢
 go_wp2_with fail
 refine (k09 _ x hx9 S2 a hSa hal9 (P, er) _ hB2 hG' hok).mono ?_
 rintro e w3 ⟨⟨v, rfl, hv⟩, k3⟩
 obtain ⟨q0, d0, q1, d1, q2, d2, q3, d3, ds, rfl, hds0, hin0⟩ := hv.packIn
 have hds := Hi hds0
 have hdl : Hid (ds.length = 16) := Hi (by rw [hds0]; rfl)
 have honed : Hid (ds.toArray.all (·.oneCell') = true) := Hi (by rw [hds0]; exact a0s _ _ _ _ _ _ _ _ _ _ _ _ _ _ _ _ (a03 _ _ _) (a03 _ _ _) (a03 _ _ _) (a03 _ _ _))
 have hdi : Hid ((Try.prog.info? 30).map (·.size) = some ds.length) := Hi (by rw [a0l, hdl.out])
 have ka : a02 (fun _ => False) w3 (w3.alloc (.cells ds.toArray 30)) := (a02.refl _ _).alloc _
 have kb := k3.trans ka
 have hin2 := Hi (hin0.keep ka)
 have hin1 := Hi (hin.out.keep kb)
 have hX1 := Hi (hX.out.keep kb id)
 have hY : Hid (a06 (w3.alloc (.cells ds.toArray 30)) w3.heap.size 30 ds) := Hi (a06.new w3 _ _)
 have hk2 := Hi (hk1.out.trans kb)
 clear hds0 hin0 hv k3 ka kb hB2 hk1 hin hX
 go_upto_region 4 with ((with_reducible refine a08 7 ?_); go_must (refine a07 rfl 30 (.tmp 7) (.tmp 29) rfl _ ds.toArray rfl rfl (by rw [List.size_toArray]; exact hdi.out) (by rw [List.size_toArray, List.size_toArray, hdl.out]; rfl) honed.out ?_))
 generalize w3.heap.size = B7 at hY ⊢
 generalize w3.alloc (.cells ds.toArray 30) = w4 at hin1 hin2 hX1 hY hk2 ⊢
 have hee : (er == er) = true := by simp
 refine wp_region_noPanic ?_
 refine wp_region_held_drew (S := (fun W => a02 (fun _ => False) w4 W)) (by kernel_rfl) ((a02.refl (fun _ => False) _).drew) (fun hHeld => ?_)
 refine sL 0 rfl fun K hK => ?_
 go_simp
 (refine (e0s _).mono ?_; rintro e w5 ⟨rfl, k5⟩)
 go_wp2_with fail
 refine hK.out _ _ (hHeld.trans k5) (fun hHeld => ?_)
 clear hK K
 try simp only [Act.put, sA, sZ, sS]
 clear k5
 refine tk 1 rfl ?_
 refine tk 2 rfl ?_
 refine tk 3 rfl ?_
 refine tk 4 rfl ?_
 refine tk 5 rfl ?_
 refine tk 6 rfl ?_
 refine tkL 7 rfl (yieldsIf_load_mid (by rfl) 40 (.tmp 5) rfl B5 0 rfl cs _ (fun _ s => (hX1.out.keep s id).range) Try.underlying40 rfl hci.out) ?_
 refine tkL 9 rfl (yieldsIf_load_mid (by rfl) 30 (.tmp 7) rfl B7 0 rfl ds _ (fun _ s => (hY.out.keep s id).range) Try.underlying30 rfl hdi.out) ?_
 refine sL 8 rfl fun K hK => ?_
 go_simp
 (refine (i0g P p0 p1 p2 p3 c0 c1 c2 c3 cs _ hcs (Hi (hin1.out.keep hHeld)) (by have := hsm'.out.al; omega) (by have := hsm'.out.nl; omega) (by have := hsm'.out.hl; omega) (by have := hsm'.out.kl; omega) (by have := hsm'.out.ll; omega) (Hi hsm'.out.ls)).mono ?_; rintro e w6 ⟨v, rfl, hv, k6⟩; obtain ⟨r0, e0, r1, e1, r2, e2, r3, e3, es, rfl, hes0, hin3⟩ := hv.packIn; have hes := Hi hes0; have hin4 := Hi hin3; clear hes0 hin3 hv)
 go_wp2_with fail
 refine hK.out _ _ (hHeld.trans k6) (fun hHeld => ?_)
 clear hK K
 try simp only [Act.put, sA, sZ, sS]
 clear k6
 refine sL 10 rfl fun K hK => ?_
 go_simp
 (refine (i0f P r0 r1 r2 r3 q0 q1 q2 q3 e0 e1 e2 e3 d0 d1 d2 d3 es ds _ hes hds hin4 (Hi (hin2.out.keep hHeld)) (Hi hsm'.out.ok)).mono ?_; rintro e w7 ⟨rfl, k7⟩)
 go_wp2_with fail
 refine hK.out _ _ (hHeld.trans k7) (fun hHeld => ?_)
 clear hK K
 try simp only [Act.put, sA, sZ, sS]
 clear k7
 refine tk 11 rfl ?_
 refine tk 12 rfl ?_
 refine wpAnyH_done (by kernel_rfl) (NoPanic.normal ?_) _
 have hfin := Hi (hk2.out.trans hHeld)
 clear hHeld
 go_wp2_with fail
 go_ret
 exact ⟨rfl, hfin.out⟩
end Go.Proofs.Ytmggbljkehclpaa
