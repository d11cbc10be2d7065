/- QM -/
import Derived.Test.YtmggbljkehclpaaP22
import Derived.Test.YtmggbljkehclpaaP41
import Derived.Test.YtmggbljkehclpaaP43
import Derived.Test.YtmggbljkehclpaaP45
set_option linter.unusedVariables false
set_option linter.unusedSimpArgs false
namespace Go.Proofs.Ytmggbljkehclpaa
open Go.RowKit
theorem s05.bd {W : World} {p : a0m} {pn ph pk pl : Option Addr} {cn ch ck cl : Nat} (h : s05 W p pn ph pk pl cn ch ck cl) : ∀ l ∈ p.lsas, l.links.length * 24 ≤ 140737488351232 ∧ l.routers.length * 4 ≤ 140737488351232 := fun l hl => by
 obtain ⟨ms, h1, -, h3⟩ := h.ls
 rw [← h1] at hl
 obtain ⟨m, hm, rfl⟩ := List.mem_map.1 hl
 exact ⟨(h3 m hm).ll, (h3 m hm).rl⟩
theorem s05.oks {W : World} {p : a0m} {pn ph pk pl : Option Addr} {cn ch ck cl : Nat} (h : s05 W p pn ph pk pl cn ch ck cl) : ∀ l ∈ p.lsas, l.ok := fun l hl => by
 obtain ⟨ms, h1, -, h3⟩ := h.ls
 rw [← h1] at hl
 obtain ⟨m, hm, rfl⟩ := List.mem_map.1 hl
 exact (h3 m hm).ok
theorem a0b.lay {w : World} {p : Option Addr} {n c : Nat} {x : List UInt8} (h : a0b w (.slice p n c) x) (h0 : 0 < x.length) : ∃ g o, p = some ⟨g, o, none⟩ ∧ w.rangeAt g o (x.map bv) ∧ n = x.length := by
 obtain ⟨q, d, e, -, -, hr⟩ := h
 injection e with e1 e2 e3
 subst e1; subst e2
 obtain ⟨g, o, rfl, h⟩ := hr h0
 exact ⟨g, o, rfl, h, rfl⟩
set_option maxRecDepth 100000 in
set_option maxHeartbeats 32000000 in
theorem k0q (P0 : a0m) (pn ph pk pl : Option Addr) (cn ch ck cl : Nat) (cs : List Value) (S0 : ByteArray) (w : World)
 (hcs : Hid (cs = a0w P0 (.slice pn P0.nbs.length cn) (.slice ph P0.heads.length ch) (.slice pk P0.keys.length ck) (.slice pl P0.lsas.length cl)))
 (hin : Hid (d0f w P0 (.slice pn P0.nbs.length cn) (.slice ph P0.heads.length ch) (.slice pk P0.keys.length ck) (.slice pl P0.lsas.length cl))) (hok0 : Hid P0.ok) (hal : P0.auth.length ≤ 9223372036854775807)
 (hnl : P0.nbs.length * 4 ≤ 140737488351232) (hhl : P0.heads.length * 48 ≤ 140737488351232) (hkl : P0.keys.length * 16 ≤ 140737488351232) (hll : P0.lsas.length * 96 ≤ 140737488351232) (hls : Hid (∀ l ∈ P0.lsas, l.links.length * 24 ≤ 140737488351232 ∧ l.routers.length * 4 ≤ 140737488351232)) (hlo : Hid (∀ l ∈ P0.lsas, l.ok)) (hS0 : S0.size ≤ 9223372036854775807) :
 Calls Try.prog 3 #[.agg cs.toArray, .string S0] w (fun e w' => e = .returned (.bool true) ∧ a03 (fun _ => False) w w') := by
 obtain ⟨W0, hW0⟩ : ∃ W0, W0 = w.alloc (.cells cs.toArray 30) := ⟨_, rfl⟩
 have hA : Hid (a06 W0 w.heap.size 30 cs) := Hi (by rw [hW0]; exact a06.new w 30 cs)
 have hK : Hid (a03 (fun _ => False) w W0) := Hi (by rw [hW0]; exact (a03.refl _ _).alloc _)
 have hin1 := Hi (hin.out.keep hK.out)
 have hcinf : Hid ((Try.prog.info? 30).map (·.size) = some cs.length) := Hi (by rw [a0r, hcs.out]; rfl)
 have hW0' := Hi hW0
 obtain ⟨k, hk⟩ : ∃ k : Nat, min S0.size 12 = k := ⟨_, rfl⟩
 have hki : (if (12 : Int) < (S0.size : Int) then (12 : Int) else (S0.size : Int)) = (k : Int) := by split <;> omega
 have hks : (k : Int) ≤ S0.size := by omega
 have hk0 : (0 : Int) ≤ k := by omega
 clear hW0 hin
 go_enter Try.func3, Try.ntmps3
 go_upto_region 1 with fail
 rw [← hW0'.out]
 clear hW0'
 go_upto_region 2 with fail
 clear hki hks hk0
 obtain ⟨S2, hS2⟩ : ∃ T, S0.extract 0 k = T := ⟨_, rfl⟩
 rw [hS2]
 obtain ⟨a, ha⟩ : ∃ a, S2.data.toList = a := ⟨_, rfl⟩
 have hSa : Hid (S2 = ⟨a.toArray⟩) := Hi (by rw [← ha])
 have hal9 : a.length ≤ 9223372036854775807 := by
  have h1 : a.length = S2.size := by rw [← ha]; exact Array.length_toList
  have h2 : S2.size ≤ S0.size := by rw [← hS2, ByteArray.size_extract]; omega
  omega
 clear hS2 ha hk hS0
 go_wp2_with ((with_reducible refine a0a 21 ?_); refine wpList_load_mid rfl 30 (.tmp 2) rfl w.heap.size 0 rfl cs _ hA.out.range Try.underlying30 rfl hcinf.out ?_)
 refine (p0z P0 pn ph pk pl cn ch ck cl cs _ hcs hin1 hal hnl hhl hkl hll hls).mono ?_
 rintro e w1 ⟨v, rfl, hv, k1⟩
 obtain ⟨p0, c0, p1, c1, p2, c2, p3, c3, es, rfl, hes0, hin0⟩ := hv.packIn
 have hes := Hi hes0
 have hinT := Hi hin0
 have hA1 := Hi (hA.out.keep k1 (fun f => f)); have hK1 := Hi (hK.out.trans k1); have hin2 := Hi (hin1.out.keep k1)
 clear hes0 hin0 hv k1 hA hK hin1 hnl hhl hkl hll hls
 go_wp2_with fail
 cases hz : okP P0 with
 | false =>
  have hz' := Hi hz; clear hz
  refine (i0c P0 p0 p1 p2 p3 c0 c1 c2 c3 es false _ hes hinT hok0 hz').mono ?_
  rintro e w2 ⟨⟨-, h2⟩, k2⟩
  obtain rfl := h2 rfl
  have hA2 := Hi (hA1.out.keep k2 (fun f => f)); have hK2 := Hi (hK1.out.trans k2); have hin3 := Hi (hin2.out.keep k2)
  clear k2 h2 hA1 hK1 hin2 hinT
  go_wp2_with ((with_reducible refine a0a 27 ?_); refine wpList_load_mid rfl 30 (.tmp 2) rfl w.heap.size 0 rfl cs _ hA2.out.range Try.underlying30 rfl hcinf.out ?_)
  refine (i0y P0 pn ph pk pl cn ch ck cl cs false _ hcs hin3 hok0 hal hz').mono ?_
  rintro e w3 ⟨⟨-, h2⟩, k3⟩
  obtain rfl := h2 rfl
  have hK3 := Hi (hK2.out.trans k3)
  clear k3 h2 hA2 hK2 hin3 hz'
  go_wp2_with fail
  refine (j0c _).mono ?_
  rintro e w4 ⟨rfl, k4⟩
  have hK4 := Hi (hK3.out.trans k4)
  clear k4 hK3
  have cv := p09 w4
  go_wp2_with fail
  go_ret
  exact ⟨rfl, hK4.out⟩
 | true =>
 have hget := Hi (getP_put P0 hok0.out hlo.out hz)
 have hoth := Hi (fun (b : List UInt8) => q0e P0 hz b)
 have hlX : (putP P0).length ≤ 10108 := by rw [h05]; have := g0c hz; omega
 have hlX2 : 24 ≤ (putP P0).length := by rw [h05]; omega
 have hsm0 := Hi (m0z hz hok0.out)
 have hz' := Hi hz; clear hz
 refine (i0c P0 p0 p1 p2 p3 c0 c1 c2 c3 es true _ hes hinT hok0 hz').mono ?_
 rintro e w2 ⟨⟨h2, -⟩, k2⟩
 obtain ⟨q, d, rfl, hO⟩ := h2 rfl
 obtain ⟨x, hx⟩ : ∃ x, putP P0 = x := ⟨_, rfl⟩
 have hx' := Hi hx
 rw [hx] at hO hlX hlX2 ⊢
 have hget2 : Hid (getP x P0.auth = (P0, 0)) := Hi (by rw [← hx]; exact hget.out)
 have hoth2 : Hid (∀ b : List UInt8, (getP x b).2 = 0 → b = P0.auth) := Hi (by rw [← hx]; exact hoth.out)
 obtain ⟨n, hn⟩ : ∃ n, x.length = n := ⟨_, rfl⟩
 have hn' := Hi hn
 obtain ⟨gX, oX, rfl, hrX0, -⟩ := hO.bytes.lay (by omega)
 have hcX : n ≤ d := by have := hO.cap; omega
 rw [hn] at hO hlX hlX2 ⊢
 have hrX := Hi hrX0
 have hA2 := Hi (hA1.out.keep k2 (fun f => f)); have hK2 := Hi (hK1.out.trans k2); have hin3 := Hi (hin2.out.keep k2)
 clear k2 h2 hA1 hK1 hin2 hinT hO hx hrX0 hn hget hoth
 go_wp2_with ((with_reducible refine a0a 27 ?_); refine wpList_load_mid rfl 30 (.tmp 2) rfl w.heap.size 0 rfl cs _ hA2.out.range Try.underlying30 rfl hcinf.out ?_)
 refine (i0y P0 pn ph pk pl cn ch ck cl cs true _ hcs hin3 hok0 hal hz').mono ?_
 rintro e w3 ⟨⟨h2, -⟩, k3⟩
 obtain ⟨qY, dY, rfl, hOY⟩ := h2 rfl
 rw [hx'.out] at hOY ⊢
 rw [hn'.out] at hOY ⊢
 have hbY := Hi hOY.bytes
 have hA3 := Hi (hA2.out.keep k3 (fun f => f)); have hK3 := Hi (hK2.out.trans k3); have hrX3 := Hi (k3.rangeAt hrX.out (fun f => f)); have hin4 := Hi (hin3.out.keep k3)
 clear k3 h2 hA2 hK2 hin3 hrX hz' hOY
 go_wp2_with fail
 refine (j0c _).mono ?_
 rintro e w4 ⟨rfl, k4⟩
 have hA4 := Hi (hA3.out.keep k4 (fun f => f)); have hK4 := Hi (hK3.out.trans k4); have hrX4 := Hi (k4.rangeAt hrX3.out (fun f => f)); have hin5 := Hi (hin4.out.keep k4)
 have cv1 : (convert 31 9 (.slice (some ⟨gX, oX, none⟩) n d)).run Try.prog w4 = .ok (.string ⟨x.toArray⟩) w4 := by rw [← hn'.out]; exact f0d gX oX d x w4 hrX4.out
 have cv2 : (convert 31 9 (.slice qY n dY)).run Try.prog w4 = .ok (.string ⟨x.toArray⟩) w4 := c0a (hbY.out.keep k4) (by rw [hn'.out]; omega)
 clear k4 hA3 hK3 hrX3 hin4 hbY
 obtain ⟨SA, hSA⟩ : ∃ S, (⟨P0.auth.toArray⟩ : ByteArray) = S := ⟨_, rfl⟩
 have hSAh : Hid (SA = ⟨P0.auth.toArray⟩) := Hi hSA.symm
 have hc3 : Hid (cs[3]? = some (.string SA)) := Hi (by rw [hcs.out, ← hSA]; rfl)
 clear hSA
 go_upto_region 6 with fail
 clear cv1 cv2
 have hx9 : x.length ≤ 900000 := by rw [hn'.out]; omega
 have hcB : Hid (∀ W, a03 (fun _ => False) w4 W → a0b W (.slice (some ⟨gX, oX, none⟩) n d) x) := Hi (fun W kW => a0b.of hn'.out (by rw [hn'.out] at *; omega) (kW.rangeAt hrX4.out (fun f => f)))
 clear hrX4
 have cS := hA4.out.cell 3 (.string SA) hc3.out
 go_wp2_with fail
 refine (i0d _ x hx9 SA P0.auth hSAh (P0, 0) _ (Hi (hcB.out _ (a03.refl _ _))) hget2 (Hi (i0i x P0.auth hx9))).mono ?_
 rintro e w5 ⟨⟨v, rfl, hv⟩, k5⟩
 obtain ⟨r0, r0', r1, r1', r2, r2', r3, r3', fs, rfl, hfs0, hin0⟩ := hv.packIn
 have hfs := Hi hfs0
 have hfl : Hid (fs.length = 16) := Hi (by rw [hfs0]; rfl)
 have hone1 : Hid (fs.toArray.all (·.oneCell') = true) := Hi (by rw [hfs0]; exact a0u _ _ _ _ _ _ _ _ _ _ _ _ _ _ _ _ (a04 _ _ _) (a04 _ _ _) (a04 _ _ _) (a04 _ _ _))
 have hci1 : Hid ((Try.prog.info? 40).map (·.size) = some fs.length) := Hi (by rw [a0n, hfl.out])
 have ka : a03 (fun _ => False) w5 (w5.alloc (.cells fs.toArray 40)) := (a03.refl _ _).alloc _
 have kb := k5.trans ka
 have hinQ := Hi (hin0.keep ka)
 have hX9 : Hid (a06 (w5.alloc (.cells fs.toArray 40)) w5.heap.size 40 fs) := Hi (a06.new w5 _ _)
 have hk6 := Hi (kb)
 clear hfs0 hin0 hv ka kb k5 
 clear cS
 go_upto_region 9 with ((with_reducible refine a09 9 ?_); go_must (refine a07 rfl 40 (.tmp 9) (.tmp 55) rfl _ fs.toArray rfl rfl (by rw [List.size_toArray]; exact hci1.out) (by rw [List.size_toArray, List.size_toArray, hfl.out]; rfl) hone1.out ?_))
 generalize w5.heap.size = B9 at hX9 ⊢
 generalize w5.alloc (.cells fs.toArray 40) = w6 at hX9 hinQ hk6 ⊢
 have hsm := q0d x a hx9
 obtain ⟨⟨P2, er⟩, hG⟩ : ∃ G, getP x a = G := ⟨_, rfl⟩
 have hG' := Hi hG
 rw [hG] at hsm
 have hsm' := Hi (show P2.small from hsm)
 have hdec : (er == 0) = (S2.toList == SA.toList) := by
  rw [hSa.out, hSAh.out, Lib.toList_data, Lib.toList_data]
  show (er == 0) = (a == P0.auth)
  by_cases hb : a = P0.auth
  ·have h1 := hget2.out
   rw [← hb, hG] at h1
   injection h1 with _ h1
   rw [h1, hb]; simp
  ·have h2 : (a == P0.auth) = false := by simpa using hb
   rw [h2, beq_eq_false_iff_ne]
   intro h0
   exact hb (hoth2.out a (by rw [hG]; exact h0))
 obtain ⟨bz, hb1⟩ : ∃ b, (er == 0) = b := ⟨_, rfl⟩
 have hb2 : (S2.toList == SA.toList) = bz := hdec.symm.trans hb1
 have hb3 : (bz == bz) = true := by cases bz <;> rfl
 have hok := Hi (i0i x a hx9)
 have hbb1 := Hi hb1; have hbb2 := Hi hb2; have hbb3 := Hi hb3
 clear hG hsm hget2 hoth2 hdec hb1 hb2 hb3
 go_wp2_with fail
 refine (i0d _ x hx9 S2 a hSa (P2, er) _ (Hi (hcB.out _ hk6.out)) hG' hok).mono ?_
 rintro e w7 ⟨⟨v, rfl, hv⟩, k7⟩
 obtain ⟨s0, s0', s1, s1', s2, s2', s3, s3', gs, rfl, hgs0, hin0⟩ := hv.packIn
 have hgs := Hi hgs0
 have hgl : Hid (gs.length = 16) := Hi (by rw [hgs0]; rfl)
 have hone2 : Hid (gs.toArray.all (·.oneCell') = true) := Hi (by rw [hgs0]; exact a0u _ _ _ _ _ _ _ _ _ _ _ _ _ _ _ _ (a04 _ _ _) (a04 _ _ _) (a04 _ _ _) (a04 _ _ _))
 have hci2 : Hid ((Try.prog.info? 40).map (·.size) = some gs.length) := Hi (by rw [a0n, hgl.out])
 have ka : a03 (fun _ => False) w7 (w7.alloc (.cells gs.toArray 40)) := (a03.refl _ _).alloc _
 have kb := k7.trans ka
 have hinR := Hi (hin0.keep ka)
 have hX11 : Hid (a06 (w7.alloc (.cells gs.toArray 40)) w7.heap.size 40 gs) := Hi (a06.new w7 _ _)
 have hk8 := Hi (hk6.out.trans kb)
 have hX9b := Hi (hX9.out.keep kb id)
 have hinQb := Hi (hinQ.out.keep kb)
 clear hgs0 hin0 hv ka kb k7 hk6 hX9 hinQ
 go_upto_region 10 with ((with_reducible refine a09 11 ?_); go_must (refine a07 rfl 40 (.tmp 11) (.tmp 61) rfl _ gs.toArray rfl rfl (by rw [List.size_toArray]; exact hci2.out) (by rw [List.size_toArray, List.size_toArray, hgl.out]; rfl) hone2.out ?_))
 generalize w7.heap.size = B11 at hX11 ⊢
 generalize w7.alloc (.cells gs.toArray 40) = w8 at hX11 hinR hX9b hinQb hk8 ⊢
 go_wp2_with fail
 refine (p0q _ x hx9 S2 a hSa hal9 (P2, er) _ (Hi (hcB.out _ hk8.out)) hG' hok).mono ?_
 rintro e w9 ⟨⟨v, rfl, hv⟩, k9⟩
 obtain ⟨u0, u0', u1, u1', u2, u2', u3, u3', ds, rfl, hds0, hin0⟩ := hv.packIn
 have hds := Hi hds0
 have hdl : Hid (ds.length = 16) := Hi (by rw [hds0]; rfl)
 have hone3 : Hid (ds.toArray.all (·.oneCell') = true) := Hi (by rw [hds0]; exact a0u _ _ _ _ _ _ _ _ _ _ _ _ _ _ _ _ (a04 _ _ _) (a04 _ _ _) (a04 _ _ _) (a04 _ _ _))
 have hci3 : Hid ((Try.prog.info? 30).map (·.size) = some ds.length) := Hi (by rw [a0r, hdl.out])
 have ka : a03 (fun _ => False) w9 (w9.alloc (.cells ds.toArray 30)) := (a03.refl _ _).alloc _
 have kb := k9.trans ka
 have hinS := Hi (hin0.keep ka)
 have hX13 : Hid (a06 (w9.alloc (.cells ds.toArray 30)) w9.heap.size 30 ds) := Hi (a06.new w9 _ _)
 have hk10 := Hi (hk8.out.trans kb)
 have hX9c := Hi (hX9b.out.keep kb id)
 have hinQc := Hi (hinQb.out.keep kb)
 have hX11c := Hi (hX11.out.keep kb id)
 have hinRc := Hi (hinR.out.keep kb)
 clear hds0 hin0 hv ka kb k9 hk8 hX9b hinQb hX11 hinR
 go_upto_region 11 with ((with_reducible refine a09 13 ?_); go_must (refine a07 rfl 30 (.tmp 13) (.tmp 67) rfl _ ds.toArray rfl rfl (by rw [List.size_toArray]; exact hci3.out) (by rw [List.size_toArray, List.size_toArray, hdl.out]; rfl) hone3.out ?_))
 generalize w9.heap.size = B13 at hX13 ⊢
 generalize w9.alloc (.cells ds.toArray 30) = wA at hX13 hinS hX9c hinQc hX11c hinRc hk10 ⊢
 have hAA := Hi (hA4.out.keep hk10.out (fun f => f)); have hinP := Hi (hin5.out.keep hk10.out)
 have hfin0 := Hi (hK4.out.trans hk10.out)
 clear hA4 hin5 hK4 hk10 hcB hG' hok
 have hee : (er == er) = true := by simp
 have hb1 := hbb1.out; have hb2 := hbb2.out; have hb3 := hbb3.out
 clear hbb1 hbb2 hbb3
 refine wp_region_noPanic ?_
 refine wp_region_held_drew (S := (fun W => a03 (fun _ => False) wA W)) (by kernel_rfl) ((a03.refl (fun _ => False) _).drew) (fun hHeld => ?_)
 refine tk 0 rfl ?_
 refine tk 1 rfl ?_
 refine tk 2 rfl ?_
 refine tkL 3 rfl (yieldsIf_load_mid (by rfl) 40 (.tmp 9) rfl B9 0 rfl fs _ (fun _ s => (hX9c.out.keep s id).range) Try.underlying40 rfl hci1.out) ?_
 refine tkL 5 rfl (yieldsIf_load_mid (by rfl) 30 (.tmp 2) rfl w.heap.size 0 rfl cs _ (fun _ s => (hAA.out.keep s id).range) Try.underlying30 rfl hcinf.out) ?_
 refine sL 4 rfl fun K hK => ?_
 go_simp
 (refine (j0d P0 r0 r1 r2 r3 r0' r1' r2' r3' fs _ hfs (Hi (hinQc.out.keep hHeld)) (by have := hsm0.out.al; omega) (by have := hsm0.out.nl; omega) (by have := hsm0.out.hl; omega) (by have := hsm0.out.kl; omega) (by have := hsm0.out.ll; omega) (Hi hsm0.out.ls)).mono ?_; rintro e wB ⟨v, rfl, hv, kB⟩; obtain ⟨y0, y0', y1, y1', y2, y2', y3, y3', ys, rfl, hys0, hin3⟩ := hv.packIn; have hys := Hi hys0; have hinY := Hi hin3; clear hys0 hin3 hv)
 go_wp2_with fail
 refine hK.out _ _ (hHeld.trans kB) (fun hHeld => ?_)
 clear hK K
 try simp only [Act.put, sA, sZ, sS]
 clear kB
 refine sL 6 rfl fun K hK => ?_
 go_simp
 (refine (j0b P0 y0 y1 y2 y3 pn ph pk pl y0' y1' y2' y3' cn ch ck cl ys cs _ hys hcs hinY (Hi (hinP.out.keep hHeld)) (Hi hsm0.out.ok)).mono ?_; rintro e wC ⟨rfl, kC⟩)
 go_wp2_with fail
 refine hK.out _ _ (hHeld.trans kC) (fun hHeld => ?_)
 clear hK K
 try simp only [Act.put, sA, sZ, sS]
 clear kC hinY
 refine tk 7 rfl ?_
 refine tk 8 rfl ?_
 refine tk 9 rfl ?_
 refine tk 10 rfl ?_
 refine tk 11 rfl ?_
 refine tk 12 rfl ?_
 refine tk 13 rfl ?_
 refine tkL 14 rfl (yieldsIf_load_mid (by rfl) 40 (.tmp 11) rfl B11 0 rfl gs _ (fun _ s => (hX11c.out.keep s id).range) Try.underlying40 rfl hci2.out) ?_
 refine tkL 16 rfl (yieldsIf_load_mid (by rfl) 30 (.tmp 13) rfl B13 0 rfl ds _ (fun _ s => (hX13.out.keep s id).range) Try.underlying30 rfl hci3.out) ?_
 refine sL 15 rfl fun K hK => ?_
 go_simp
 (refine (j0d P2 s0 s1 s2 s3 s0' s1' s2' s3' gs _ hgs (Hi (hinRc.out.keep hHeld)) (by have := hsm'.out.al; omega) (by have := hsm'.out.nl; omega) (by have := hsm'.out.hl; omega) (by have := hsm'.out.kl; omega) (by have := hsm'.out.ll; omega) (Hi hsm'.out.ls)).mono ?_; rintro e wD ⟨v, rfl, hv, kD⟩; obtain ⟨z0, z0', z1, z1', z2, z2', z3, z3', zs, rfl, hzs0, hin3⟩ := hv.packIn; have hzs := Hi hzs0; have hinZ := Hi hin3; clear hzs0 hin3 hv)
 go_wp2_with fail
 refine hK.out _ _ (hHeld.trans kD) (fun hHeld => ?_)
 clear hK K
 try simp only [Act.put, sA, sZ, sS]
 clear kD
 refine sL 17 rfl fun K hK => ?_
 go_simp
 (refine (j0b P2 z0 z1 z2 z3 u0 u1 u2 u3 z0' z1' z2' z3' u0' u1' u2' u3' zs ds _ hzs hds hinZ (Hi (hinS.out.keep hHeld)) (Hi hsm'.out.ok)).mono ?_; rintro e wE ⟨rfl, kE⟩)
 go_wp2_with fail
 refine hK.out _ _ (hHeld.trans kE) (fun hHeld => ?_)
 clear hK K
 try simp only [Act.put, sA, sZ, sS]
 clear kE hinZ
 refine tk 18 rfl ?_
 refine tk 19 rfl ?_
 refine tk 20 rfl ?_
 refine tk 21 rfl ?_
 refine tk 22 rfl ?_
 refine tk 23 rfl ?_
 refine tkL 24 rfl (a02 (by rfl) 9 (.tmp 92) rfl w.heap.size 3 rfl _ (fun _ s => (hAA.out.keep s id).cell 3 _ hc3.out) (fun w s => g01 w _ _ _ s)) ?_
 refine tk 25 rfl ?_
 refine tk 26 rfl ?_
 refine tk 27 rfl ?_
 refine tk 28 rfl ?_
 refine wpAnyH_done (by kernel_rfl) (NoPanic.normal ?_) _
 have hfin := Hi (hfin0.out.trans hHeld)
 clear hHeld
 go_wp2_with fail
 go_ret
 exact ⟨rfl, hfin.out⟩
end Go.Proofs.Ytmggbljkehclpaa
