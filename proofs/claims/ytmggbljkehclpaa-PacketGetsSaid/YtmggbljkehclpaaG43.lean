/- QK -/
import Derived.Test.YtmggbljkehclpaaG41
import Derived.Test.YtmggbljkehclpaaG42
import Derived.Deep.DeepCutAuto
import Derived.Laws.BitsAllLaws
set_option linter.unusedVariables false
set_option linter.unusedSimpArgs false
namespace Go.Proofs.Ytmggbljkehclpaa
open Go.RowKit
theorem u8_xor' (a : UInt8) (m : Nat) (hm : m < 256) : ∃ X : UInt8, bits .xor .u8 (a.toNat : Int) (m : Int) = (X.toNat : Int) := by
 refine ⟨UInt8.ofNat (a.toNat ^^^ m), ?_⟩
 have h1 := u8_xor_nat a.toNat m a.toNat_lt hm
 have h2 : a.toNat ^^^ m < 2 ^ 8 := Nat.xor_lt_two_pow a.toNat_lt hm
 rw [h1, UInt8.toNat_ofNat']
 rw [Nat.mod_eq_of_lt h2]
def CutB (w0 w : World) (v : Value) (x : List UInt8) : Prop :=
 ∃ y q d, v = .slice q x.length d ∧ x.length ≤ y.length ∧ y.take x.length = x ∧ y.length ≤ 10108 ∧ OwnB w0 w (.slice q y.length d) y
theorem CutB.bytes {w0 w : World} {v : Value} {x : List UInt8} (h : CutB w0 w v x) : a0a w v x := by
 obtain ⟨y, q, d, rfl, h1, h2, -, h4⟩ := h
 have := h4.bytes.first x.length h1
 rwa [h2] at this
theorem CutB.len {w0 w : World} {v : Value} {x : List UInt8} (h : CutB w0 w v x) : x.length ≤ 10108 := by
 obtain ⟨y, q, d, rfl, h1, h2, h3, h4⟩ := h
 omega
theorem CutB.writes {w0 w : World} {q : Option Addr} {n d : Nat} {x : List UInt8} (h : CutB w0 w (.slice q n d) x) (h0 : 0 < x.length) :
 ∃ g, q = some ⟨g, 0, none⟩ ∧ w0.heap.size ≤ g ∧ (∀ k, k < x.length → (∃ u, w.cell? ⟨g, k, none⟩ = some u) ∧ w.frozen? ⟨g, k, none⟩ = false) ∧
  ∀ (k : Nat) (b : UInt8), CutB w0 (w.setCell ⟨g, k, none⟩ (.int .u8 b.toNat)) (.slice q n d) (x.set k b) := by
 obtain ⟨y, q', d', e, h1, h2, h3, h4⟩ := h
 injection e with e1 e2 e3
 subst e1; subst e2; subst e3
 obtain ⟨g, rfl, hg, hcell, hset⟩ := h4.writes (by omega)
 refine ⟨g, rfl, hg, fun k hk => ⟨⟨_, (hcell k (by omega)).1⟩, (hcell k (by omega)).2⟩, fun k b => ⟨y.set k b, _, d, by rw [List.length_set], by simpa using h1, ?_, by simpa using h3, by simpa using hset k b⟩⟩
 rw [List.length_set, List.take_set, h2]
set_option maxRecDepth 100000 in
set_option maxHeartbeats 32000000 in
theorem j0w (P0 : a0x) (pn ph pk pl : Option Addr) (cn ch ck cl : Nat) (cs : List Value) (d0 d1 : Int) (fx : Bool) (w : World)
 (hcs : Hid (cs = b05 P0 (.slice pn P0.nbs.length cn) (.slice ph P0.heads.length ch) (.slice pk P0.keys.length ck) (.slice pl P0.lsas.length cl)))
 (hin : Hid (e04 w P0 (.slice pn P0.nbs.length cn) (.slice ph P0.heads.length ch) (.slice pk P0.keys.length ck) (.slice pl P0.lsas.length cl))) (hok0 : Hid P0.ok) (hal : P0.auth.length ≤ 9223372036854775807)
 (hd0 : -9223372036854775808 ≤ d0) (hd0' : d0 ≤ 9223372036854775807) (hd1 : -9223372036854775808 ≤ d1) (hd1' : d1 ≤ 9223372036854775807) :
 Calls Try.prog 4 #[.agg cs.toArray, .agg #[.int .i64 d0, .int .i64 d1], .bool fx] w (fun e w' => e = .returned (.bool true) ∧ a02 (fun _ => False) w w') := by
 obtain ⟨j0, hj0, hj1, hj2, hj3⟩ := info_parts b0g
 obtain ⟨W0, hW0⟩ : ∃ W0, W0 = (w.alloc (.cells cs.toArray 30)).alloc (.cells #[.int .i64 d0, .int .i64 d1] 52) := ⟨_, rfl⟩
 have kA : a02 (fun _ => False) (w.alloc (.cells cs.toArray 30)) W0 := by rw [hW0]; exact (a02.refl _ _).alloc _
 have hA : Hid (a06 W0 w.heap.size 30 cs) := Hi ((a06.new w 30 cs).keep kA (fun f => f))
 have hE : Hid (a06 W0 (w.heap.size + 1) 52 [.int .i64 d0, .int .i64 d1]) := Hi (by rw [hW0]; have := a06.new (w.alloc (.cells cs.toArray 30)) 52 [.int .i64 d0, .int .i64 d1]; simpa using this)
 have hK : Hid (a02 (fun _ => False) w W0) := Hi (((a02.refl _ _).alloc _).trans kA)
 have hin1 := Hi (hin.out.keep hK.out)
 have hcinf : Hid ((Try.prog.info? 30).map (·.size) = some cs.length) := Hi (by rw [a0l, hcs.out]; rfl)
 obtain ⟨EB, hEB⟩ : ∃ EB, EB = w.heap.size + 1 := ⟨_, rfl⟩
 rw [← hEB] at hE
 have hlow : Hid (w.heap.size ≤ EB) := Hi (by omega)
 have hW0' := Hi hW0; have hEB' := Hi hEB
 clear hW0 hin kA hEB
 go_enter Try.func4, Try.ntmps4
 go_upto_region 1 with fail
 rw [← hW0'.out, ← hEB'.out]
 clear hW0' hEB'
 go_wp2_with ((with_reducible refine a09 15 ?_); refine wpList_load_mid rfl 30 (.tmp 3) rfl w.heap.size 0 rfl cs _ hA.out.range Try.underlying30 rfl hcinf.out ?_)
 cases hz : okP P0 with
 | false =>
  have hz' := Hi hz; clear hz
  refine (i04 P0 pn ph pk pl cn ch ck cl cs false _ hcs hin1 hok0 hal hz').mono ?_
  rintro e w2 ⟨⟨-, h2⟩, k2⟩
  obtain rfl := h2 rfl
  have k2' := Hi (hK.out.trans k2); clear k2 hz' h2
  go_wp2_with fail
  refine (e0s _).mono ?_
  rintro e w3 ⟨rfl, k3⟩
  have k3' := Hi (k2'.out.trans k3); clear k3
  go_wp2_with fail
  refine (e0s _).mono ?_
  rintro e w4 ⟨rfl, k4⟩
  have k4' := Hi (k3'.out.trans k4); clear k4
  go_wp2_with fail
  go_ret
  exact ⟨rfl, k4'.out⟩
 | true =>
 have hlX : (putP P0).length ≤ 10108 := by rw [h0f]; have := h09 hz; omega
 have hlX2 : 24 ≤ (putP P0).length := by rw [h0f]; omega
 have hz' := Hi hz; clear hz
 refine (i04 P0 pn ph pk pl cn ch ck cl cs true _ hcs hin1 hok0 hal hz').mono ?_
 rintro e w2 ⟨⟨h2, -⟩, k2⟩
 obtain ⟨q, d, rfl, hO⟩ := h2 rfl
 obtain ⟨x, hx⟩ : ∃ x, putP P0 = x := ⟨_, rfl⟩
 rw [hx] at hO hlX hlX2 ⊢
 have hO' := Hi hO
 have k2' := Hi k2; clear k2 hz' h2 hO hx
 go_wp2_with fail
 refine (e0s _).mono ?_
 rintro e w3 ⟨rfl, k3⟩
 have hO := Hi (hO'.out.keep k3 (fun _ _ f => f))
 have hk := Hi (k2'.out.trans k3); clear k3 k2' hO'
 have hE2 := Hi (hE.out.keep hk.out (fun f => f))
 have hA2 := Hi (hA.out.keep hk.out (fun f => f))
 obtain ⟨U, hU⟩ := u64_nata d0
 obtain ⟨kk, hkk, hkl⟩ : ∃ kk : Nat, (U : Int) % (x.length : Int) = kk ∧ kk < x.length := ⟨U % x.length, by omega, Nat.mod_lt _ (by omega)⟩
 have cE0 := hE2.out.cell 0 (.int .i64 d0) rfl
 have cE1 := hE2.out.cell 1 (.int .i64 d1) rfl
 have hnz : ¬ (x.length : Int) = 0 := by omega
 have hcap : x.length ≤ d := hO.out.cap
 have hkd : (kk : Int) ≤ d := by omega
 have hkli : (kk : Int) < x.length := by omega
 go_upto_if 37 with fail
 have hx0 : 0 < x.length := by omega
 go_cut [7] (fun bv' wx => (∃ q d y, bv' = .slice q y.length d ∧ Hid (CutB W0 wx (.slice q y.length d) y)) ∧ Hid (a02 (fun _ => False) W0 wx))
 case first =>
  cases htz : (d1.tmod 6 == 5) with
  | true =>
   have hcb : Hid (CutB W0 w3 (.slice q (x.take kk).length d) (x.take kk)) := Hi ⟨x, q, d, rfl, by rw [List.length_take]; omega, by rw [List.length_take, Nat.min_eq_left (by omega)], hlX, hO.out⟩
   have htl : Hid ((x.take kk).length = kk) := Hi (by rw [List.length_take]; omega)
   clear hO hcap
   go_wp2_with fail
   go_meet
   case rel => exact ⟨⟨q, d, x.take kk, by rw [htl.out], hcb⟩, hk⟩
  | false =>
   obtain ⟨g, rfl, hg0, hcell, hset⟩ := hO.out.writes hx0
   have hc1 := (hcell kk hkl).1
   have hf1 := (hcell kk hkl).2
   obtain ⟨M, hM, lM, -⟩ := f0p d1
   obtain ⟨X, hX⟩ := u8_xor' (x[kk]'hkl) M lM
   go_upto_region 7 with fail
   go_still_tail 9, (by kernel_rfl)
   change wpList _ _ _ _ _ w3.drew
   have hst := hset kk X
   have hkd2 : a02 (fun _ => False) W0 ((w3.setCell ⟨g, kk, none⟩ (.int .u8 X.toNat)).drew) := (hk.out.setCell (p := ⟨g, kk, none⟩) (.inr hg0) _).drew
   have hbb : Hid (CutB W0 ((w3.setCell ⟨g, kk, none⟩ (.int .u8 X.toNat)).drew) (.slice (some ⟨g, 0, none⟩) (x.set kk X).length d) (x.set kk X)) := Hi (by
    refine ⟨x.set kk X, _, d, rfl, Nat.le_refl _, List.take_length, by rw [List.length_set]; exact hlX, ?_⟩
    rw [List.length_set]; exact hst.keep ((a02.refl (fun _ => False) _).drew) (fun _ _ f => f))
   have hkd2' := Hi hkd2
   clear hst hkd2 hset hcell
   go_wp2_with fail
   go_meet
   case rel => exact ⟨⟨_, d, x.set kk X, by rw [List.length_set], hbb⟩, hkd2'⟩
 case rest =>
  clear hU hkk hkl cE0 cE1 hnz hcap hkd hkli hO hx0 hk hlX hlX2 hE hE2 hA2
  obtain ⟨⟨q, d, y, rfl, hy⟩, hk⟩ := hcut
  have hyl : y.length ≤ 10108 := hy.out.len
  go_upto_region 8 with fail
  go_cut [55] (fun zv wx => zv = .bool (fx && decide (24 ≤ y.length)) ∧ wx = wc)
  case first =>
   cases fx with
   | false =>
    go_wp2_with fail
    go_meet
    exact ⟨rfl, rfl⟩
   | true =>
    have hd24 : decide ((24 : Int) ≤ (y.length : Int)) = decide (24 ≤ y.length) := decide_eq_decide.2 (by omega)
    go_wp2_with fail
    go_meet
    case rel => exact ⟨rfl, rfl⟩
  case rest =>
  obtain ⟨rfl, rfl⟩ := hcut
  obtain ⟨zb, hzb⟩ : ∃ zb, (fx && decide (24 ≤ y.length)) = zb := ⟨_, rfl⟩
  rw [hzb]
  have hzb' := Hi hzb
  clear hzb
  go_upto_if 55 with fail
  go_cut [7] (fun bv' wx => (∃ q d y, bv' = .slice q y.length d ∧ y.length ≤ 10108 ∧ Hid (a0a wx (.slice q y.length d) y)) ∧ Hid (a02 (fun _ => False) W0 wx))
  case first =>
   cases zb with
   | false =>
    have hbb := Hi hy.out.bytes
    clear hy
    go_wp2_with fail
    go_meet
    case rel => exact ⟨⟨q, d, y, rfl, hyl, hbb⟩, hk⟩
   | true =>
    ·have h24 : ¬ y.length < 24 := by have := hzb'.out; simp at this; omega
     obtain ⟨g, rfl, hg0, hcell, hset⟩ := hy.out.writes (by omega)
     obtain ⟨u2, c2⟩ := (hcell 2 (by omega)).1
     have f2 := (hcell 2 (by omega)).2
     obtain ⟨u3, c3⟩ := (hcell 3 (by omega)).1
     have f3 := (hcell 3 (by omega)).2
     obtain ⟨n, hn⟩ : ∃ n, y.length = n := ⟨_, rfl⟩
     have hs2 := hset 2 (UInt8.ofNat (n / 256))
     rw [hn] at hs2 hyl h24
     have hyn := Hi hn
     obtain ⟨g2, e2, -, -, hset2⟩ := hs2.writes (by rw [List.length_set]; omega)
     injection e2 with e2; injection e2 with e2; subst e2
     have hs3 := Hi (hset2 3 (UInt8.ofNat (n % 256)))
     have e1 : (((UInt8.ofNat (n / 256)).toNat : Nat) : Int) = (n : Int) / 256 := by rw [u8_of _ (by omega)]; omega
     have e2 : (((UInt8.ofNat (n % 256)).toNat : Nat) : Int) = (n : Int) % 256 := by rw [u8_of _ (by omega)]; omega
     rw [e1, e2] at hs3
     have i2 : (2 : Int) < n := by omega
     have i3 : (3 : Int) < n := by omega
     rw [hn]
     have hk5 := Hi ((hk.out.setCell (p := ⟨g, 2, none⟩) (.inr hg0) (.int .u8 ((n : Int) / 256))).setCell (p := ⟨g, 3, none⟩) (.inr hg0) (.int .u8 ((n : Int) % 256)))
     clear hs2 hset2 hset hcell e1 e2 hn
     go_upto_region 10 with fail
     generalize (wc.setCell ⟨g, 2, none⟩ (.int .u8 ((n : Int) / 256))).setCell ⟨g, 3, none⟩ (.int .u8 ((n : Int) % 256)) = w3 at hs3 hk5 ⊢
     clear c2 c3 f2 f3 i2 i3 hy hk
     obtain ⟨Y, hY⟩ : ∃ Y, (y.set 2 (UInt8.ofNat (n / 256))).set 3 (UInt8.ofNat (n % 256)) = Y := ⟨_, rfl⟩
     have hYl : Y.length = n := by rw [← hY, List.length_set, List.length_set]; exact hyn.out
     rw [hY] at hs3
     have hYb := Hi hs3.out.bytes
     have hYl' := Hi hYl
     clear hY hs3 hYl
     go_wp2_with fail
     refine (o0k _ Y (by rw [hYl'.out]; omega) (by rw [hYl'.out]; omega) _ hYb).mono ?_
     rintro e w5 ⟨qz, dz, Z, rfl, hZl, hZb, kz⟩
     rw [hYl'.out] at hZl hZb ⊢
     have hZb' := Hi hZb; have hZl' := Hi hZl; have hkz := Hi (hk5.out.trans kz)
     clear hZb kz hZl
     go_wp2_with fail
     go_meet
     case rel => exact ⟨⟨qz, dz, Z, by rw [hZl'.out], by rw [hZl'.out]; exact hyl, by rw [hZl'.out]; exact hZb'⟩, hkz⟩
  case rest =>
   clear hyl hy hk
   obtain ⟨⟨q, d, x, rfl, hx5, hB⟩, hk⟩ := hcut
   obtain ⟨S2, hS2⟩ : ∃ S, (⟨P0.auth.toArray⟩ : ByteArray) = S := ⟨_, rfl⟩
   obtain ⟨a, ha⟩ : ∃ a, P0.auth = a := ⟨_, rfl⟩
   have hSa : Hid (S2 = ⟨a.toArray⟩) := Hi (by rw [← hS2, ha])
   have hal9 : a.length ≤ 9223372036854775807 := by rw [← ha]; exact hal
   have hc3 : Hid (cs[3]? = some (.string S2)) := Hi (by rw [hcs.out, ← hS2]; rfl)
   have cS := (hA.out.keep hk.out (fun f => f)).cell 3 (.string S2) hc3.out
   clear hS2 ha hal
   have hx9 : x.length ≤ 900000 := by omega
   have hsm := k0i x a hx9
   obtain ⟨⟨P, er⟩, hG⟩ : ∃ G, getP x a = G := ⟨_, rfl⟩
   have hG' := Hi hG
   rw [hG] at hsm
   have hsm' := Hi (show P.small from hsm)
   have hok := Hi (h0o x a hx9)
   clear hG hsm
   go_wp2_with fail
   refine (h0h _ x hx9 S2 a hSa (P, er) _ hB hG' hok).mono ?_
   rintro e w1 ⟨⟨v, rfl, hv⟩, k1⟩
   obtain ⟨p0, c0, p1, c1, p2, c2, p3, c3, es, rfl, hes0, hin0⟩ := hv.packIn
   have hes := Hi hes0
   have hel : Hid (es.length = 16) := Hi (by rw [hes0]; rfl)
   have hone : Hid (es.toArray.all (·.oneCell') = true) := Hi (by rw [hes0]; exact a0s _ _ _ _ _ _ _ _ _ _ _ _ _ _ _ _ (a03 _ _ _) (a03 _ _ _) (a03 _ _ _) (a03 _ _ _))
   have hci : Hid ((Try.prog.info? 40).map (·.size) = some es.length) := Hi (by rw [a0p, hel.out])
   have ka : a02 (fun _ => False) w1 (w1.alloc (.cells es.toArray 40)) := (a02.refl _ _).alloc _
   have hin2 := Hi (hin0.keep ka)
   have hX : Hid (a06 (w1.alloc (.cells es.toArray 40)) w1.heap.size 40 es) := Hi (a06.new w1 _ _)
   have hB2 := Hi (hB.out.keep (k1.trans ka)); have hk1 := Hi (hk.out.trans (k1.trans ka))
   clear hes0 hin0 hv k1 ka hB hk cS
   go_upto_region 12 with ((with_reducible refine a08 10 ?_); go_must (refine a07 rfl 40 (.tmp 10) (.tmp 74) rfl _ es.toArray rfl rfl (by rw [List.size_toArray]; exact hci.out) (by rw [List.size_toArray, List.size_toArray, hel.out]; rfl) hone.out ?_))
   generalize w1.heap.size = B5 at hX ⊢
   generalize w1.alloc (.cells es.toArray 40) = w2 at hX hin2 hB2 hk1 ⊢
   have cS := (hA.out.keep hk1.out (fun f => f)).cell 3 (.string S2) hc3.out
   go_wp2_with fail
   refine (k09 _ x hx9 S2 a hSa hal9 (P, er) _ hB2 hG' hok).mono ?_
   rintro e w3 ⟨⟨v, rfl, hv⟩, k3⟩
   obtain ⟨q0, d0', q1, d1', q2, d2, q3, d3, ds, rfl, hds0, hin0⟩ := hv.packIn
   have hds := Hi hds0
   have hdl : Hid (ds.length = 16) := Hi (by rw [hds0]; rfl)
   have honed : Hid (ds.toArray.all (·.oneCell') = true) := Hi (by rw [hds0]; exact a0s _ _ _ _ _ _ _ _ _ _ _ _ _ _ _ _ (a03 _ _ _) (a03 _ _ _) (a03 _ _ _) (a03 _ _ _))
   have hdi : Hid ((Try.prog.info? 30).map (·.size) = some ds.length) := Hi (by rw [a0l, hdl.out])
   have ka : a02 (fun _ => False) w3 (w3.alloc (.cells ds.toArray 30)) := (a02.refl _ _).alloc _
   have kb := k3.trans ka
   have hinR := Hi (hin0.keep ka)
   have hinP := Hi (hin2.out.keep kb)
   have hX1 := Hi (hX.out.keep kb id)
   have hY : Hid (a06 (w3.alloc (.cells ds.toArray 30)) w3.heap.size 30 ds) := Hi (a06.new w3 _ _)
   have hk2 := Hi (hK.out.trans (hk1.out.trans kb))
   clear hds0 hin0 hv k3 ka kb hB2 hk1 hin2 hX cS
   go_upto_region 13 with ((with_reducible refine a08 12 ?_); go_must (refine a07 rfl 30 (.tmp 12) (.tmp 81) rfl _ ds.toArray rfl rfl (by rw [List.size_toArray]; exact hdi.out) (by rw [List.size_toArray, List.size_toArray, hdl.out]; rfl) honed.out ?_))
   generalize w3.heap.size = B7 at hY ⊢
   generalize w3.alloc (.cells ds.toArray 30) = w4 at hinP hinR hX1 hY hk2 ⊢
   have hee : (er == er) = true := by simp
   refine wp_region_noPanic ?_
   refine wp_region_held_drew (S := (fun W => a02 (fun _ => False) w4 W)) (by kernel_rfl) ((a02.refl (fun _ => False) _).drew) (fun hHeld => ?_)
   refine tk 0 rfl ?_
   refine tk 1 rfl ?_
   refine tk 2 rfl ?_
   refine tk 3 rfl ?_
   refine tkL 4 rfl (yieldsIf_load_mid (by rfl) 40 (.tmp 10) rfl B5 0 rfl es _ (fun _ s => (hX1.out.keep s id).range) Try.underlying40 rfl hci.out) ?_
   refine tkL 6 rfl (yieldsIf_load_mid (by rfl) 30 (.tmp 12) rfl B7 0 rfl ds _ (fun _ s => (hY.out.keep s id).range) Try.underlying30 rfl hdi.out) ?_
   refine sL 5 rfl fun K hK => ?_
   go_simp
   (refine (i0g P p0 p1 p2 p3 c0 c1 c2 c3 es _ hes (Hi (hinP.out.keep hHeld)) (by have := hsm'.out.al; omega) (by have := hsm'.out.nl; omega) (by have := hsm'.out.hl; omega) (by have := hsm'.out.kl; omega) (by have := hsm'.out.ll; omega) (Hi hsm'.out.ls)).mono ?_; rintro e w6 ⟨v, rfl, hv, k6⟩; obtain ⟨r0, e0, r1, e1, r2, e2, r3, e3, fs, rfl, hfs0, hin3⟩ := hv.packIn; have hfs := Hi hfs0; have hin4 := Hi hin3; clear hfs0 hin3 hv)
   go_wp2_with fail
   refine hK.out _ _ (hHeld.trans k6) (fun hHeld => ?_)
   clear hK K
   try simp only [Act.put, sA, sZ, sS]
   clear k6
   refine sL 7 rfl fun K hK => ?_
   go_simp
   (refine (i0f P r0 r1 r2 r3 q0 q1 q2 q3 e0 e1 e2 e3 d0' d1' d2 d3 fs ds _ hfs hds hin4 (Hi (hinR.out.keep hHeld)) (Hi hsm'.out.ok)).mono ?_; rintro e w7 ⟨rfl, k7⟩)
   go_wp2_with fail
   refine hK.out _ _ (hHeld.trans k7) (fun hHeld => ?_)
   clear hK K
   try simp only [Act.put, sA, sZ, sS]
   clear k7
   refine tk 8 rfl ?_
   refine tk 9 rfl ?_
   refine wpAnyH_done (by kernel_rfl) (NoPanic.normal ?_) _
   have hfin := Hi (hk2.out.trans hHeld)
   clear hHeld
   go_wp2_with fail
   go_ret
   exact ⟨rfl, hfin.out⟩
end Go.Proofs.Ytmggbljkehclpaa
