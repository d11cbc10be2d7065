/- QJ -/
import Derived.Test.YtmggbljkehclpaaG06
import Derived.Test.YtmggbljkehclpaaG09
import Derived.Test.YtmggbljkehclpaaG10
import Derived.Test.YtmggbljkehclpaaG25
set_option linter.unusedVariables false
set_option linter.unusedSimpArgs false
namespace Go.Proofs.Ytmggbljkehclpaa
open Go.RowKit
theorem OwnB.pairB {w0 w : World} {g n c : Nat} {xs : List UInt8} (h : OwnB w0 w (.slice (some ⟨g, 0, none⟩) n c) xs) (k : Nat) (x y : UInt8) (hk : k + 1 < xs.length) :
 OwnB w0 ((w.setCell ⟨g, k, none⟩ (.int .u8 x.toNat)).setCell ⟨g, k + 1, none⟩ (.int .u8 y.toNat)) (.slice (some ⟨g, 0, none⟩) n c) ((xs.set k x).set (k + 1) y) := by
 obtain ⟨g', e', -, -, hset⟩ := h.writes (by omega)
 injection e' with e'; injection e' with e'; subst e'
 obtain ⟨g2, e2, -, -, hset2⟩ := (hset k x).writes (by simp; omega)
 injection e2 with e2; injection e2 with e2; subst e2
 exact hset2 (k + 1) y
theorem u8_of (n : Nat) (h : n < 256) : (UInt8.ofNat n).toNat = n := by rw [UInt8.toNat_ofNat']; omega
set_option maxRecDepth 100000 in
set_option maxHeartbeats 8000000 in
theorem o0k (sl : Value) (x : List UInt8) (hx24 : 24 ≤ x.length) (hx : x.length ≤ 900000) (w : World) (h : Hid (a0a w sl x)) :
 Calls Try.prog 14 #[sl] w (fun e w' => ∃ q d y, e = .returned (.slice q x.length d) ∧ y.length = x.length ∧ a0a w' (.slice q x.length d) y ∧ a02 (fun _ => False) w w') := by
 obtain ⟨p, c, rfl, -, hc, hb⟩ := h.out
 obtain ⟨j0, hj0, hj1, hj2, hj3⟩ := info_parts b0g
 obtain ⟨g, o, rfl, hr⟩ := hb (by omega)
 obtain ⟨n, hn⟩ : ∃ n, n = x.length := ⟨_, rfl⟩
 have hn' := Hi hn.symm
 have i16 : (16 : Int) ≤ c := by omega
 have i24 : (24 : Int) ≤ c := by omega
 have i24n : (24 : Int) ≤ n := by omega
 have hn24 : 24 ≤ n := by omega
 have hn9 : n ≤ 900000 := by omega
 have hc' := Hi hc
 have kk : Hid (∀ W : World, a02 (fun _ => False) w W → W.rangeAt g o (x.map bv)) := Hi (fun W k => k.rangeAt hr id)
 obtain ⟨pp, hpp⟩ : ∃ pp, (if c = 24 then some (⟨g, o, none⟩ : Addr) else some ⟨g, o + 24, none⟩) = pp := ⟨_, rfl⟩
 have hpp' := Hi hpp
 rw [← hn]
 clear hb h hpp hn hc hx hx24
 go_enter Try.func14, Try.ntmps14
 go_upto_region 1 with fail
 have hb24 : Hid (∀ W, a02 (fun _ => False) w W → a0a W (.slice pp (n - 24) (c - 24)) (x.drop 24)) := Hi (fun W k => by
  have := a0w (kk.out W k) hc'.out 24 (by rw [hn'.out]; exact hn24)
  rw [hpp'.out, hn'.out] at this; exact this)
 have hb16 : Hid (∀ W, a02 (fun _ => False) w W → a0a W (.slice (some ⟨g, o, none⟩) 16 c) (x.take 16)) := Hi (fun W k => e0d (kk.out W k) hc'.out 16 (by rw [hn'.out]; omega))
 have hball : Hid (∀ W, a02 (fun _ => False) w W → a0a W (.slice (some ⟨g, o, none⟩) n c) x) := Hi (fun W k => by
  have := e0d (kk.out W k) hc'.out n (by rw [hn'.out]; exact Nat.le_refl _)
  rwa [List.take_of_length_le (by rw [hn'.out]; exact Nat.le_refl _)] at this)
 have hl16 : Hid ((x.take 16).length = 16) := Hi (by rw [List.length_take, hn'.out]; omega)
 have hl24 : Hid ((x.drop 24).length = n - 24) := Hi (by rw [List.length_drop, hn'.out])
 have hOe : Hid (OwnB w (w.drew.alloc (.cells #[] 5)) (.slice (some ⟨w.drew.heap.size, 0, none⟩) 0 0) []) := Hi (OwnB.empty w w.drew (Nat.le_refl _))
 refine wp_region_noPanic ?_
 refine wp_region_held_drew (S := (fun W => a02 (fun _ => False) w W)) (by kernel_rfl) ((a02.refl (fun _ => False) _).drew) (fun hHeld => ?_)
 refine tk 1 rfl ?_
 refine tk 2 rfl ?_
 refine tk 4 rfl ?_
 refine tk 5 rfl ?_
 try rw [hpp'.out]
 refine sL 0 rfl fun K hK => ?_
 go_simp
 refine hK.out _ _ (hHeld.alloc _) (fun hHeld => ?_)
 clear hK K
 try simp only [Act.put, sA, sZ, sS]
 refine sL 3 rfl fun K hK => ?_
 rw [if_pos (by rfl)]
 (refine a0m (.tmp 6) (.tmp 8) 31 rfl j0 Try.underlying31 hj0 hj1 hj2 hj3 w _ [] rfl hOe.out _ rfl (x.take 16) (hb16.out _ hHeld) (by rw [hl16.out]; simp) ?_; intro q1 d1 w1 hO1 hg1; have hO1' : Hid (OwnB w w1 (.slice q1 16 d1) (x.take 16)) := Hi (by have := hO1; rw [List.nil_append, hl16.out, List.length_nil, Nat.zero_add] at this; exact this))
 refine hK.out _ _ ((hOe.out.keeps hHeld hg1)) (fun hHeld => ?_)
 clear hK K
 try simp only [Act.put, sA, sZ, sS]
 rw [hl16.out]
 clear hO1 hg1 hOe
 refine sL 6 rfl fun K hK => ?_
 rw [if_pos (by rfl)]
 (refine a0m (.tmp 9) (.tmp 11) 31 rfl j0 Try.underlying31 hj0 hj1 hj2 hj3 w _ (x.take 16) (by rfl) hO1'.out _ rfl (x.drop 24) (hb24.out _ hHeld) (by rw [hl16.out, hl24.out]; omega) ?_; intro q2 d2 w2 hO2 hg2)
 refine hK.out _ _ ((hO1'.out.keeps hHeld hg2)) (fun hHeld => ?_)
 clear hK K
 try simp only [Act.put, sA, sZ, sS]
 obtain ⟨m, hm⟩ : ∃ m, m = n - 8 := ⟨_, rfl⟩
 have hlm : (x.take 16).length + (x.drop 24).length = m := by rw [hl16.out, hl24.out]; omega
 have hm16 : 16 ≤ m := by omega
 have hm9 : m ≤ 900000 := by omega
 rw [hlm] at hO2 ⊢
 clear hm
 obtain ⟨X, hX⟩ : ∃ X, x.take 16 ++ x.drop 24 = X := ⟨_, rfl⟩
 have hXl : X.length = m := by rw [← hX, List.length_append]; exact hlm
 rw [hX] at hO2
 refine tk 7 rfl ?_
 refine wpAnyH_done (by kernel_rfl) (NoPanic.normal ?_) _
 obtain ⟨gX, rfl, hgX, hcell, -⟩ := hO2.writes (by omega)
 obtain ⟨u12, c12⟩ : ∃ u, w2.cell? ⟨gX, 12, none⟩ = some u := ⟨_, (hcell 12 (by omega)).1⟩
 have f12 := (hcell 12 (by omega)).2
 obtain ⟨u13, c13⟩ : ∃ u, w2.cell? ⟨gX, 13, none⟩ = some u := ⟨_, (hcell 13 (by omega)).1⟩
 have f13 := (hcell 13 (by omega)).2
 have i12m : (12 : Int) < m := by omega
 have i13m : (13 : Int) < m := by omega
 have hsp := Hi (hO2.pairB 12 0 0 (by omega))
 have hk2 := Hi hHeld
 have hXl' := Hi hXl; have hgX' := Hi hgX
 clear hcell hO2 hHeld hX hXl hlm hgX hg2 hO1'
 go_upto_region 3 with fail
 have hsp2 : Hid (OwnB w ((w2.setCell ⟨gX, 12, none⟩ (.int .u8 0)).setCell ⟨gX, 13, none⟩ (.int .u8 0)) (.slice (some ⟨gX, 0, none⟩) m d2) ((X.set 12 0).set 13 0)) := hsp
 have hk3 : Hid (a02 (fun _ => False) w ((w2.setCell ⟨gX, 12, none⟩ (.int .u8 0)).setCell ⟨gX, 13, none⟩ (.int .u8 0))) := Hi ((hk2.out.setCell (p := ⟨gX, 12, none⟩) (.inr hgX'.out) _).setCell (p := ⟨gX, 13, none⟩) (.inr hgX'.out) _)
 clear hsp c12 f12 c13 f13 hk2
 generalize (w2.setCell ⟨gX, 12, none⟩ (.int .u8 0)).setCell ⟨gX, 13, none⟩ (.int .u8 0) = w3 at hsp2 hk3 ⊢
 have hXs : ((X.set 12 0).set 13 0).length ≤ 1000000 := by simp [hXl'.out]; omega
 obtain ⟨sm, hsm⟩ : ∃ m, inet ((X.set 12 0).set 13 0) = m := ⟨_, rfl⟩
 have lsm : sm < 65536 := by rw [← hsm]; unfold inet; omega
 have hbX := Hi hsp2.out.bytes
 have hsm' := Hi hsm
 clear hsm
 go_wp2_with fail
 refine (e0y _ _ hXs _ hbX).mono ?_
 rintro e w' ⟨rfl, rfl⟩
 rw [hsm'.out]
 clear hbX hsp2 hsm' hXs
 go_upto_region 4 with fail
 have hOe : Hid (OwnB w (w3.alloc (.cells #[] 5)) (.slice (some ⟨w3.heap.size, 0, none⟩) 0 0) []) := Hi (OwnB.empty w w3 hk3.out.size)
 have hball3 : Hid (a0a (w3.alloc (.cells #[] 5)) (.slice (some ⟨g, o, none⟩) n c) x) := Hi (hball.out _ (hk3.out.alloc _))
 have hk3a := Hi (hk3.out.alloc (.cells #[] 5))
 go_upto_region 5 with ((with_reducible refine a09 21 ?_); refine a0f rfl (.tmp 19) (.tmp 20) 31 rfl j0 Try.underlying31 hj0 hj1 hj2 hj3 w _ [] rfl hOe.out _ rfl x hball3.out (by rw [hn'.out]; simp; omega) ?_; intro q4 d4 w4 hO4 hg4)
 have hO5 : Hid (OwnB w w4 (.slice q4 n d4) x) := Hi (by have := hO4; rw [List.nil_append, hn'.out, List.length_nil, Nat.zero_add] at this; exact this)
 have hk4 := Hi (hOe.out.keeps hk3a.out hg4)
 clear hO4 hg4 hOe hball3 hk3a
 obtain ⟨gX, rfl, hgX, hcell, -⟩ := hO5.out.writes (by rw [hn'.out]; omega)
 obtain ⟨u12, c12⟩ : ∃ u, w4.cell? ⟨gX, 12, none⟩ = some u := ⟨_, (hcell 12 (by rw [hn'.out]; omega)).1⟩
 have f12 := (hcell 12 (by rw [hn'.out]; omega)).2
 obtain ⟨u13, c13⟩ : ∃ u, w4.cell? ⟨gX, 13, none⟩ = some u := ⟨_, (hcell 13 (by rw [hn'.out]; omega)).1⟩
 have f13 := (hcell 13 (by rw [hn'.out]; omega)).2
 have i12n : (12 : Int) < n := by omega
 have i13n : (13 : Int) < n := by omega
 clear hcell
 rw [hn'.out]
 have hsp := Hi (hO5.out.pairB 12 (UInt8.ofNat (sm / 256)) (UInt8.ofNat (sm % 256)) (by rw [hn'.out]; omega))
 have e1 : (((UInt8.ofNat (sm / 256)).toNat : Nat) : Int) = (sm : Int) / 256 := by rw [u8_of _ (by omega)]; omega
 have e2 : (((UInt8.ofNat (sm % 256)).toNat : Nat) : Int) = (sm : Int) % 256 := by rw [u8_of _ (by omega)]; omega
 rw [e1, e2] at hsp
 clear e1 e2
 have hk5 := Hi ((hk4.out.setCell (p := ⟨gX, 12, none⟩) (.inr hgX) (.int .u8 ((sm : Int) / 256))).setCell (p := ⟨gX, 13, none⟩) (.inr hgX) (.int .u8 ((sm : Int) % 256)))
 clear hk4 hO5
 go_wp2_with fail
 go_ret
 exact ⟨_, _, _, rfl, by simp [hn'.out], hsp.out.bytes, hk5.out⟩
end Go.Proofs.Ytmggbljkehclpaa
