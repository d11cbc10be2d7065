/- LBC LBD -/
import Derived.Test.YtmggbljkehclpaaG27
set_option linter.unusedVariables false
set_option linter.unusedSimpArgs false
namespace Go.Proofs.Ytmggbljkehclpaa
open Go.RowKit
set_option maxRecDepth 100000 in
set_option maxHeartbeats 4000000 in
theorem r10Get_3 (g o c : Nat) (x : List UInt8) (hx : 20 ≤ x.length) (hx2 : x.length ≤ 1000000) (hc : x.length ≤ c) (age seq len : Int) (lid adv sum : Nat) (w : World) (hr : Hid (w.rangeAt g o (x.map bv))) (hh : Hid (a0h x = ⟨age, 3, lid, adv, seq, sum, len⟩)) (hri : Hid (b0h (x.drop 2) = true)) (h16 : x[16]'(by omega) ≠ 255) (h17 : x[17]'(by omega) ≠ 255) (hlo : 28 ≤ x.length) (hlid : lid < 4294967296) (hladv : adv < 4294967296) :
 Calls Try.prog 33 #[.slice (some ⟨g, o, none⟩) x.length c] w (c05 x w) := by
 have hnb : ¬ (b0h (x.drop 2) = false ∨ x.getD 16 0 = 255 ∨ x.getD 17 0 = 255) := by
  rw [List.getD_eq_getElem?_getD, List.getElem?_eq_getElem (by omega), List.getD_eq_getElem?_getD, List.getElem?_eq_getElem (by omega), hri.out]
  rintro (h | h | h)
  ·cases h
  ·exact h16 h
  ·exact h17 h
 have hgl0 : getL x = f07 (b0x (a0h x) (x.drop 20)) x := h0r x (by omega) hnb (by
  rintro (⟨h, _⟩ | ⟨h, _⟩ | ⟨_, h⟩)
  ·rw [hh.out] at h; exact absurd (show (3 : Int) = 1 from h) (by decide)
  ·rw [hh.out] at h; exact absurd (show (3 : Int) = 2 from h) (by decide)
  ·rw [List.length_drop] at h; omega)
 clear hnb
 have hg : True := trivial
 have hrb : Hid (w.rangeAt g (o + 20) ((x.drop 20).map bv)) := Hi (by have h0 := c0e hr.out 20 (x.length - 20); rwa [List.take_of_length_le (by rw [List.length_drop]; omega)] at h0)
 have hR : Hid (a06 (w.alloc (.cells Zl 80)) w.heap.size 80 Zm) := Hi (a06.new w _ _)
 have hk : Hid (a02 (fun _ => False) w (w.alloc (.cells Zl 80))) := Hi ((a02.refl _ _).alloc _)
 go_enter Try.func33, Try.ntmps33
 go_upto_region 1 with fail
 generalize w.alloc (.cells Zl 80) = w0 at hR hk ⊢
 have hr0 := Hi (hk.out.rangeAt hr.out id)
 have hb0 := Hi (a0w hr0.out hc 2 (by omega))
 rw [if_neg (by omega)] at hb0
 have c16 := a0i hr0.out 16 (by omega)
 have c17 := a0i hr0.out 17 (by omega)
 have e16 : (((x[16]'(by omega)).toNat : Int) == 255) = false := by rw [beq_eq_false_iff_ne]; intro e; exact h16 (UInt8.toNat_inj.1 (by have : ((x[16]'(by omega)).toNat : Int) = 255 := e; have h5 : (255 : UInt8).toNat = 255 := rfl; omega))
 have h16' := Hi h16; clear h16
 have e17 : (((x[17]'(by omega)).toNat : Int) == 255) = false := by rw [beq_eq_false_iff_ne]; intro e; exact h17 (UInt8.toNat_inj.1 (by have : ((x[17]'(by omega)).toNat : Int) = 255 := e; have h5 : (255 : UInt8).toNat = 255 := rfl; omega))
 have h17' := Hi h17; clear h17
 go_wp2_with fail
 refine (c0w _ (x.drop 2) true (by simp; omega) _ hb0 hri).mono ?_
 rintro e w' ⟨rfl, rfl⟩
 go_wp2_with fail
 refine (d0x g o c x hx (by omega) hc age 3 seq len lid adv sum _ hr0 hh).mono ?_
 rintro e w1 ⟨rfl, k1⟩
 clear c16 c17 e16 e17
 obtain ⟨W1, hW1⟩ : ∃ W1, W1 = w1.alloc (.cells (Ha age 3 lid adv seq sum len) 73) := ⟨_, rfl⟩
 have k1' : a02 (fun _ => False) w0 W1 := by rw [hW1]; exact k1.alloc _
 have hH1 : Hid (a06 W1 w1.heap.size 73 (Ha' age 3 lid adv seq sum len)) := Hi (by rw [hW1]; exact a06.new w1 73 (Ha' age 3 lid adv seq sum len))
 have hR1 := Hi (hR.out.keep k1' (fun f => f)); have hk1 := Hi (hk.out.trans k1'); have hr1 := Hi (k1'.rangeAt hr0.out (fun f => f))
 have hW1' := Hi hW1
 clear hW1 k1 k1' hR hk hr0 hb0
 go_upto_region 6 with ((with_reducible refine a08 4 ?_); refine a07 rfl 73 (.tmp 4) (.tmp 33) rfl _ (Ha age 3 lid adv seq sum len) rfl rfl c0m rfl (b0i _ _ _ _ _ _ _) ?_)
 rw [← hW1'.out]
 clear hW1'
 have b0 := hH1.out.cell 0 (.int .i64 age) rfl
 have b4 := hH1.out.cell 4 (.int .i64 seq) rfl
 obtain ⟨W2, hW2⟩ : ∃ W2, W2 = W1.alloc (.cells (La age 3 lid adv seq Sn 0 Sn 0) 80) := ⟨_, rfl⟩
 have k2' : a02 (fun _ => False) W1 W2 := by rw [hW2]; exact (a02.refl _ _).alloc _
 have hB2 : Hid (a06 W2 W1.heap.size 80 (La' age 3 lid adv seq Sn 0 Sn 0)) := Hi (by rw [hW2]; exact a06.new W1 80 (La' age 3 lid adv seq Sn 0 Sn 0))
 have hH2 := Hi (hH1.out.keep k2' (fun f => f)); have hR2 := Hi (hR1.out.keep k2' (fun f => f)); have hk2 := Hi (hk1.out.trans k2'); have hr2 := Hi (k2'.rangeAt hr1.out (fun f => f))
 have hlt : Hid (w.heap.size < W1.heap.size) := Hi (lt_of_block hR1.out)
 have hW2' := Hi hW2
 clear hW2 k2' hR1 hk1 hr1
 go_upto_region 7 with (first | ((with_reducible refine a09 37 ?_); refine wpList_load_mid rfl 71 (.tmp 36) rfl w1.heap.size 1 rfl _ _ (c02 hH1.out) Try.underlying71 rfl b0d ?_) | ((with_reducible refine a08 5 ?_); refine a07 rfl 80 (.tmp 5) (.tmp 40) rfl _ _ rfl rfl a0n rfl (a0z _ _ _ _ _ _ _ _ _ (a03 _ _ _) (a03 _ _ _)) ?_))
 rw [← hW2'.out]
 clear hW2' b0 b4 hH1
 have b1 := hH2.out.cell 1 (.int .i64 3) rfl
 obtain ⟨B, hB⟩ : ∃ B, B = W1.heap.size := ⟨_, rfl⟩
 rw [← hB] at hB2 hlt ⊢
 obtain ⟨HB, hHB⟩ : ∃ HB, HB = w1.heap.size := ⟨_, rfl⟩
 rw [← hHB] at hH2 b1 ⊢
 clear hB hHB
 obtain ⟨b, hb⟩ : ∃ b, x.drop 20 = b := ⟨_, rfl⟩
 have hblen : b.length = x.length - 20 := by rw [← hb, List.length_drop]
 rw [hb] at hrb
 have s0 := b0c b 0 4 (by omega)
 have s4 := b0c b 4 4 (by omega)
 obtain ⟨mk, hmk⟩ : ∃ mk, a0d (sub b 0 4) = mk := ⟨_, rfl⟩
 obtain ⟨cn, hcn⟩ : ∃ cn, a0d (sub b 4 4) = cn := ⟨_, rfl⟩
 rw [hmk] at s0; rw [hcn] at s4
 have hd : b0x (a0h x) (x.drop 20) = ⟨age, 3, lid, adv, seq, [], mk, [], (cn : Nat)⟩ := by
  rw [hh.out, hb]; unfold b0x; simp only; rw [if_neg (by decide), if_neg (by decide), if_pos trivial, hmk, hcn]
 rw [hd] at hgl0
 have hgl := Hi hgl0
 have hmk' := Hi hmk; have hcn' := Hi hcn
 have hlw : Hid (a02 (fun _ => False) w W2) := hk2
 clear hmk hcn hd hgl0 hb
 obtain ⟨cb, hcb⟩ : ∃ cb, c - 20 = cb := ⟨_, rfl⟩
 obtain ⟨bl, hbl⟩ : ∃ bl, x.length - 20 = bl := ⟨_, rfl⟩
 have hck : ¬ c = 20 := by omega
 go_upto_region 8 with fail
 have i8 : (8 : Int) ≤ cb := by omega
 have i4 : (4 : Int) ≤ cb := by omega
 have j4 : ¬ cb = 4 := by omega
 have j8 : ¬ (bl : Int) < 8 := by omega
 have hcb' := Hi hcb; have hbl' := Hi hbl; have hblen' : Hid (b.length = bl) := Hi (by rw [hblen, hbl])
 have hb8 : 8 ≤ b.length := by omega
 have hbc : b.length ≤ cb := by omega
 have hb8' := Hi hb8; have hbc' := Hi hbc
 clear hcb hbl hblen hb8 hbc
 have w3 : IntKind.u32.wrap (mk : Int) = (mk : Int) := by rw [c01]; omega
 go_upto_region 27 with fail
 clear b1 j8
 refine wp_region_noPanic ?_
 refine wp_region_held_drew (S := (fun W => a02 (fun _ => False) w W)) (by kernel_rfl) ((hk2.out.drew)) (fun hHeld => ?_)
 refine tk 0 rfl ?_
 refine tk 1 rfl ?_
 refine tk 4 rfl ?_
 refine tk 5 rfl ?_
 refine sL 2 rfl fun K hK => ?_
 go_simp
 (refine (a0y _ (sub b 0 4) mk (by rw [a0k (by have := hb8'.out; omega)]; omega) _ (Hi (by have := a0c (hHeld.rangeAt hrb.out (fun f => f)) hbc'.out 0 4 (by have := hb8'.out; omega); rwa [Nat.add_zero, Nat.sub_zero] at this)) hmk').mono ?_; rintro e Wa ⟨rfl, rfl⟩)
 go_wp2_with fail
 refine hK.out _ _ (hHeld) (fun hHeld => ?_)
 clear hK K
 try simp only [Act.put, sA, sZ, sS]
 refine tk 3 rfl ?_
 refine tk 7 rfl ?_
 refine sL 6 rfl fun K hK => ?_
 go_simp
 (refine (a0y _ (sub b 4 4) cn (by rw [a0k (by have := hb8'.out; omega)]; omega) _ (Hi (a0c (hHeld.rangeAt hrb.out (fun f => f)) hbc'.out 4 4 (by have := hb8'.out; omega))) hcn').mono ?_; rintro e Wa ⟨rfl, rfl⟩)
 go_wp2_with fail
 refine hK.out _ _ (hHeld) (fun hHeld => ?_)
 clear hK K
 try simp only [Act.put, sA, sZ, sS]
 have hBk := Hi (hB2.out.keep ((a02.refl (fun _ => False) W2).drew) (fun f => f))
 have hc6 := hBk.out.cell 6 (.int .u32 0) rfl
 have hf6 := hBk.out.frozen 6
 refine sL 8 rfl fun K hK => ?_
 go_simp
 refine hK.out _ _ ((hHeld.setCell (p := ⟨B, 6, none⟩) (.inr (Nat.le_of_lt hlt.out)) _)) (fun hHeld => ?_)
 clear hK K
 try simp only [Act.put, sA, sZ, sS]
 refine tk 9 rfl ?_
 have hBk2 := Hi ((hB2.out.put 6 (.int .u32 (mk : Nat))).keep ((a02.refl (fun _ => False) _).drew) (fun f => f))
 have hc8 := hBk2.out.cell 8 (.int .i64 0) rfl
 have hf8 := hBk2.out.frozen 8
 refine sL 10 rfl fun K hK => ?_
 go_simp
 refine hK.out _ _ ((hHeld.setCell (p := ⟨B, 8, none⟩) (.inr (Nat.le_of_lt hlt.out)) _)) (fun hHeld => ?_)
 clear hK K
 try simp only [Act.put, sA, sZ, sS]
 refine wpAnyH_done (by kernel_rfl) (NoPanic.normal ?_) _
 have hBk3 := Hi (((hB2.out.put 6 (.int .u32 (mk : Nat))).put 8 (.int .i64 (cn : Nat))).keep ((a02.refl (fun _ => False) _).drew) (fun f => f))
 have hRk : Hid (a06 (((W2.setCell ⟨B, 6, none⟩ (.int .u32 (mk : Nat))).setCell ⟨B, 8, none⟩ (.int .i64 (cn : Nat))).drew) w.heap.size 80 Zm) := Hi (hR2.out.keep ((((a02.refl (fun k => k = B) W2).setCell (p := ⟨B, 6, none⟩) (.inl rfl) _).setCell (p := ⟨B, 8, none⟩) (.inl rfl) _).drew) (fun e => by have := hlt.out; omega))
 obtain ⟨W3, hW3⟩ : ∃ W3, W3 = ((W2.setCell ⟨B, 6, none⟩ (.int .u32 (mk : Nat))).setCell ⟨B, 8, none⟩ (.int .i64 (cn : Nat))).drew := ⟨_, rfl⟩
 rw [← hW3] at hHeld hBk3 hRk ⊢
 have hB3 : Hid (a06 W3 B 80 (La' age 3 lid adv seq Sn (mk : Nat) Sn (cn : Nat))) := Hi hBk3.out
 have hR3 := hRk
 have hk3 := Hi hHeld
 have hr3 := Hi (hHeld.rangeAt hr.out (fun f => f))
 have hL3 : Hid (b02 W3 (.slice none 0 0) []) := Hi (b02.nil _)
 have hN3 : Hid (a0u W3 (.slice none 0 0) []) := Hi (a0u.nil _)
 have hlb : ([] : List b09).length ≤ 9223372036854775807 := by simp
 have hrb2 : ([] : List Nat).length ≤ 9223372036854775807 := by simp
 have hlok := Hi n05
 have hrok := Hi c0h
 have hlm := s0
 clear hc6 hf6 hc8 hf8 hBk hBk2 hBk3 hRk hHeld hW3 hB2 hR2 hk2 hr2 hH2
 go_wp2_with ((with_reducible refine a09 139 ?_); refine wpList_load_mid rfl 80 (.tmp 5) rfl B 0 rfl (La' age 3 lid adv seq Sn (mk : Nat) Sn (cn : Nat)) _ hB3.out.range Try.underlying80 rfl a0n ?_)
 cases hcan : canB ⟨age, 3, lid, adv, seq, [], mk, [], (cn : Nat)⟩ with
 | false =>
  have hcan' := Hi hcan; clear hcan
  have hg' : Hid (getL x = (d0d, 3)) := Hi (by rw [hgl.out]; unfold f07; rw [if_neg (fun h => by rw [hcan'.out] at h; cases h.1)])
  refine (f0v age 3 seq (cn : Nat) lid adv mk [] [] none none 0 0 _ hL3 hlb hrb2 hcan').mono ?_
  rintro e w4 ⟨rfl, k4⟩
  have hR4 := Hi (hR3.out.keep k4 (fun f => f)); have hk4 := Hi (hk3.out.trans k4)
  clear k4 hR3 hk3 hB3 hr3 hL3 hN3 hcan'
  go_wp2_with ((with_reducible refine a08 2 ?_); refine a05 rfl 80 (.tmp 2) (.tmp 152) rfl w.heap.size Zl rfl rfl (a06.there hR4.out 0 9 (Nat.le_refl 9)) a0n (a0z _ _ _ _ _ _ _ _ _ (a03 _ _ _) (a03 _ _ _)) ?_; intro w9 hr9 hs9)
  have e0 := a01 hr9.out 0 _ rfl
  have e1 := a01 hr9.out 1 _ rfl
  have e2 := a01 hr9.out 2 _ rfl
  have e3 := a01 hr9.out 3 _ rfl
  have e4 := a01 hr9.out 4 _ rfl
  have e5 := a01 hr9.out 5 _ rfl
  have e6 := a01 hr9.out 6 _ rfl
  have e7 := a01 hr9.out 7 _ rfl
  have e8 := a01 hr9.out 8 _ rfl
  refine bodyPost_ret (v := .tuple #[.agg Zl, .int .i64 3]) (by simp [results, Try.results33, go_sem, e0, e1, e2, e3, e4, e5, e6, e7, e8]) rfl ⟨⟨_, by rw [hg'.out], by rw [hg'.out]; exact LsaF.zero _ _⟩, hk4.out.trans' hs9.out (fun i e => .inr (by omega))⟩
 | true =>
  have hcan' := Hi hcan; clear hcan
  by_cases hp : putB ⟨age, 3, lid, adv, seq, [], mk, [], (cn : Nat)⟩ = x
  ·skip
   refine (d0p age 3 seq (cn : Nat) lid adv mk [] [] none none 0 0 _ hL3 hN3 hlok hrok hlid hladv hlm hcan').mono ?_
   rintro e w4 ⟨pY, cY, rfl, obY, k4⟩
   have hR4 := Hi (hR3.out.keep k4 (fun f => f)); have hk4 := Hi (hk3.out.trans k4); have hB4 := Hi (hB3.out.keep k4 (fun f => f)); have hr4 := Hi (k4.rangeAt hr3.out (fun f => f))
   have hg' : Hid (getL x = (⟨age, 3, lid, adv, seq, [], mk, [], (cn : Nat)⟩, 0)) := Hi (by rw [hgl.out]; unfold f07; rw [if_pos ⟨hcan'.out, hp⟩])
   rw [hp] at obY ⊢
   have cv1 := c08 obY.bytes (by omega)
   have cv2 := f0h g o c x w4 hr4.out
   have hp' := Hi hp
   have k4' := Hi k4
   clear k4 hR3 hk3 hB3 hr3 hL3 hN3 hp obY
   go_wp2_with (first | ((with_reducible refine a09 153 ?_); refine wpList_load_mid rfl 80 (.tmp 5) rfl B 0 rfl (La' age 3 lid adv seq Sn (mk : Nat) Sn (cn : Nat)) _ hB4.out.range Try.underlying80 rfl a0n ?_) | ((with_reducible refine a08 2 ?_); refine a05 rfl 80 (.tmp 2) (.tmp 153) rfl w.heap.size (La age 3 lid adv seq Sn (mk : Nat) Sn (cn : Nat)) rfl rfl (a06.there hR4.out 0 9 (Nat.le_refl 9)) a0n (a0z _ _ _ _ _ _ _ _ _ (a03 _ _ _) (a03 _ _ _)) ?_; intro w9 hr9 hs9))
   have e0 := a01 hr9.out 0 _ rfl
   have e1 := a01 hr9.out 1 _ rfl
   have e2 := a01 hr9.out 2 _ rfl
   have e3 := a01 hr9.out 3 _ rfl
   have e4 := a01 hr9.out 4 _ rfl
   have e5 := a01 hr9.out 5 _ rfl
   have e6 := a01 hr9.out 6 _ rfl
   have e7 := a01 hr9.out 7 _ rfl
   have e8 := a01 hr9.out 8 _ rfl
   refine bodyPost_ret (v := .tuple #[.agg (La age 3 lid adv seq Sn (mk : Nat) Sn (cn : Nat)), .int .i64 0]) (by simp [results, Try.results33, go_sem, e0, e1, e2, e3, e4, e5, e6, e7, e8]) rfl ⟨⟨_, by rw [hg'.out], by rw [hg'.out]; exact ⟨none, 0, none, 0, rfl, b02.nil _, a0u.nil _, b0n _, b0n _⟩⟩, hk4.out.trans' hs9.out (fun i e => .inr (by omega))⟩
  ·skip
   refine (d0p age 3 seq (cn : Nat) lid adv mk [] [] none none 0 0 _ hL3 hN3 hlok hrok hlid hladv hlm hcan').mono ?_
   rintro e w4 ⟨pY, cY, rfl, obY, k4⟩
   have hR4 := Hi (hR3.out.keep k4 (fun f => f)); have hk4 := Hi (hk3.out.trans k4); have hB4 := Hi (hB3.out.keep k4 (fun f => f)); have hr4 := Hi (k4.rangeAt hr3.out (fun f => f))
   have hg' : Hid (getL x = (d0d, 3)) := Hi (by rw [hgl.out]; unfold f07; rw [if_neg (fun h => hp h.2)])
   have h0P : 0 < (putB ⟨age, 3, lid, adv, seq, [], mk, [], (cn : Nat)⟩).length := by rw [f0f]; omega
   obtain ⟨PX, hPX⟩ : ∃ PX, putB ⟨age, 3, lid, adv, seq, [], mk, [], (cn : Nat)⟩ = PX := ⟨_, rfl⟩
   rw [hPX] at hp obY h0P ⊢
   have cv1 := c08 obY.bytes h0P
   have cv2 := f0h g o c x w4 hr4.out
   obtain ⟨S1, hS1⟩ : ∃ S : ByteArray, S = ⟨PX.toArray⟩ := ⟨_, rfl⟩
   obtain ⟨S2, hS2⟩ : ∃ S : ByteArray, S = ⟨x.toArray⟩ := ⟨_, rfl⟩
   rw [← hS1] at cv1
   rw [← hS2] at cv2
   have hne : (S1.toList == S2.toList) = false := by
    rw [Lib.toList_data, Lib.toList_data, hS1, hS2, beq_eq_false_iff_ne]
    exact fun e => hp e
   have hp' := Hi hp
   clear k4 hR3 hk3 hB3 hr3 hL3 hN3 hp obY hPX hS1 hS2 h0P hB4 hr4
   go_wp2_with ((with_reducible refine a08 2 ?_); refine a05 rfl 80 (.tmp 2) (.tmp 152) rfl w.heap.size Zl rfl rfl (a06.there hR4.out 0 9 (Nat.le_refl 9)) a0n (a0z _ _ _ _ _ _ _ _ _ (a03 _ _ _) (a03 _ _ _)) ?_; intro w9 hr9 hs9)
   have e0 := a01 hr9.out 0 _ rfl
   have e1 := a01 hr9.out 1 _ rfl
   have e2 := a01 hr9.out 2 _ rfl
   have e3 := a01 hr9.out 3 _ rfl
   have e4 := a01 hr9.out 4 _ rfl
   have e5 := a01 hr9.out 5 _ rfl
   have e6 := a01 hr9.out 6 _ rfl
   have e7 := a01 hr9.out 7 _ rfl
   have e8 := a01 hr9.out 8 _ rfl
   refine bodyPost_ret (v := .tuple #[.agg Zl, .int .i64 3]) (by simp [results, Try.results33, go_sem, e0, e1, e2, e3, e4, e5, e6, e7, e8]) rfl ⟨⟨_, by rw [hg'.out], by rw [hg'.out]; exact LsaF.zero _ _⟩, hk4.out.trans' hs9.out (fun i e => .inr (by omega))⟩
set_option maxRecDepth 100000 in
set_option maxHeartbeats 4000000 in
theorem r10Get_2 (g o c : Nat) (x : List UInt8) (hx : 20 ≤ x.length) (hx2 : x.length ≤ 1000000) (hc : x.length ≤ c) (age seq len : Int) (lid adv sum : Nat) (w : World) (hr : Hid (w.rangeAt g o (x.map bv))) (hh : Hid (a0h x = ⟨age, 2, lid, adv, seq, sum, len⟩)) (hri : Hid (b0h (x.drop 2) = true)) (h16 : x[16]'(by omega) ≠ 255) (h17 : x[17]'(by omega) ≠ 255) (hlo : 24 ≤ x.length) (hlid : lid < 4294967296) (hladv : adv < 4294967296) :
 Calls Try.prog 33 #[.slice (some ⟨g, o, none⟩) x.length c] w (c05 x w) := by
 have hnb : ¬ (b0h (x.drop 2) = false ∨ x.getD 16 0 = 255 ∨ x.getD 17 0 = 255) := by
  rw [List.getD_eq_getElem?_getD, List.getElem?_eq_getElem (by omega), List.getD_eq_getElem?_getD, List.getElem?_eq_getElem (by omega), hri.out]
  rintro (h | h | h)
  ·cases h
  ·exact h16 h
  ·exact h17 h
 have hgl0 : getL x = f07 (b0x (a0h x) (x.drop 20)) x := h0r x (by omega) hnb (by
  rintro (⟨h, _⟩ | ⟨_, h⟩ | ⟨h, _⟩)
  ·rw [hh.out] at h; exact absurd (show (2 : Int) = 1 from h) (by decide)
  ·rw [List.length_drop] at h; omega
  ·rw [hh.out] at h; exact absurd (show (2 : Int) = 3 from h) (by decide))
 clear hnb
 have hg : True := trivial
 have hrb : Hid (w.rangeAt g (o + 20) ((x.drop 20).map bv)) := Hi (by have h0 := c0e hr.out 20 (x.length - 20); rwa [List.take_of_length_le (by rw [List.length_drop]; omega)] at h0)
 have hR : Hid (a06 (w.alloc (.cells Zl 80)) w.heap.size 80 Zm) := Hi (a06.new w _ _)
 have hk : Hid (a02 (fun _ => False) w (w.alloc (.cells Zl 80))) := Hi ((a02.refl _ _).alloc _)
 go_enter Try.func33, Try.ntmps33
 go_upto_region 1 with fail
 generalize w.alloc (.cells Zl 80) = w0 at hR hk ⊢
 have hr0 := Hi (hk.out.rangeAt hr.out id)
 have hb0 := Hi (a0w hr0.out hc 2 (by omega))
 rw [if_neg (by omega)] at hb0
 have c16 := a0i hr0.out 16 (by omega)
 have c17 := a0i hr0.out 17 (by omega)
 have e16 : (((x[16]'(by omega)).toNat : Int) == 255) = false := by rw [beq_eq_false_iff_ne]; intro e; exact h16 (UInt8.toNat_inj.1 (by have : ((x[16]'(by omega)).toNat : Int) = 255 := e; have h5 : (255 : UInt8).toNat = 255 := rfl; omega))
 have h16' := Hi h16; clear h16
 have e17 : (((x[17]'(by omega)).toNat : Int) == 255) = false := by rw [beq_eq_false_iff_ne]; intro e; exact h17 (UInt8.toNat_inj.1 (by have : ((x[17]'(by omega)).toNat : Int) = 255 := e; have h5 : (255 : UInt8).toNat = 255 := rfl; omega))
 have h17' := Hi h17; clear h17
 go_wp2_with fail
 refine (c0w _ (x.drop 2) true (by simp; omega) _ hb0 hri).mono ?_
 rintro e w' ⟨rfl, rfl⟩
 go_wp2_with fail
 refine (d0x g o c x hx (by omega) hc age 2 seq len lid adv sum _ hr0 hh).mono ?_
 rintro e w1 ⟨rfl, k1⟩
 clear c16 c17 e16 e17
 obtain ⟨W1, hW1⟩ : ∃ W1, W1 = w1.alloc (.cells (Ha age 2 lid adv seq sum len) 73) := ⟨_, rfl⟩
 have k1' : a02 (fun _ => False) w0 W1 := by rw [hW1]; exact k1.alloc _
 have hH1 : Hid (a06 W1 w1.heap.size 73 (Ha' age 2 lid adv seq sum len)) := Hi (by rw [hW1]; exact a06.new w1 73 (Ha' age 2 lid adv seq sum len))
 have hR1 := Hi (hR.out.keep k1' (fun f => f)); have hk1 := Hi (hk.out.trans k1'); have hr1 := Hi (k1'.rangeAt hr0.out (fun f => f))
 have hW1' := Hi hW1
 clear hW1 k1 k1' hR hk hr0 hb0
 go_upto_region 6 with ((with_reducible refine a08 4 ?_); refine a07 rfl 73 (.tmp 4) (.tmp 33) rfl _ (Ha age 2 lid adv seq sum len) rfl rfl c0m rfl (b0i _ _ _ _ _ _ _) ?_)
 rw [← hW1'.out]
 clear hW1'
 have b0 := hH1.out.cell 0 (.int .i64 age) rfl
 have b4 := hH1.out.cell 4 (.int .i64 seq) rfl
 obtain ⟨W2, hW2⟩ : ∃ W2, W2 = W1.alloc (.cells (La age 2 lid adv seq Sn 0 Sn 0) 80) := ⟨_, rfl⟩
 have k2' : a02 (fun _ => False) W1 W2 := by rw [hW2]; exact (a02.refl _ _).alloc _
 have hB2 : Hid (a06 W2 W1.heap.size 80 (La' age 2 lid adv seq Sn 0 Sn 0)) := Hi (by rw [hW2]; exact a06.new W1 80 (La' age 2 lid adv seq Sn 0 Sn 0))
 have hH2 := Hi (hH1.out.keep k2' (fun f => f)); have hR2 := Hi (hR1.out.keep k2' (fun f => f)); have hk2 := Hi (hk1.out.trans k2'); have hr2 := Hi (k2'.rangeAt hr1.out (fun f => f))
 have hlt : Hid (w.heap.size < W1.heap.size) := Hi (lt_of_block hR1.out)
 have hW2' := Hi hW2
 clear hW2 k2' hR1 hk1 hr1
 go_upto_region 7 with (first | ((with_reducible refine a09 37 ?_); refine wpList_load_mid rfl 71 (.tmp 36) rfl w1.heap.size 1 rfl _ _ (c02 hH1.out) Try.underlying71 rfl b0d ?_) | ((with_reducible refine a08 5 ?_); refine a07 rfl 80 (.tmp 5) (.tmp 40) rfl _ _ rfl rfl a0n rfl (a0z _ _ _ _ _ _ _ _ _ (a03 _ _ _) (a03 _ _ _)) ?_))
 rw [← hW2'.out]
 clear hW2' b0 b4 hH1
 have b1 := hH2.out.cell 1 (.int .i64 2) rfl
 obtain ⟨B, hB⟩ : ∃ B, B = W1.heap.size := ⟨_, rfl⟩
 rw [← hB] at hB2 hlt ⊢
 obtain ⟨HB, hHB⟩ : ∃ HB, HB = w1.heap.size := ⟨_, rfl⟩
 rw [← hHB] at hH2 b1 ⊢
 clear hB hHB
 obtain ⟨i0, hi0, hz0, hz1, hz2⟩ := info_parts f02
 obtain ⟨b, hb⟩ : ∃ b, x.drop 20 = b := ⟨_, rfl⟩
 have hblen : b.length = x.length - 20 := by rw [← hb, List.length_drop]
 rw [hb] at hrb
 have s0 := b0c b 0 4 (by omega)
 obtain ⟨mk, hmk⟩ : ∃ mk, a0d (sub b 0 4) = mk := ⟨_, rfl⟩
 rw [hmk] at s0
 have hd : b0x (a0h x) (x.drop 20) = ⟨age, 2, lid, adv, seq, [], mk, c09 (b.drop 4) ((b.length - 4) / 4), 0⟩ := by
  rw [hh.out, hb]; unfold b0x; simp only; rw [if_neg (by decide), if_pos trivial, hmk]
 rw [hd] at hgl0
 have hgl := Hi hgl0
 have hmk' := Hi hmk
 clear hmk hd hgl0 hb
 obtain ⟨cb, hcb⟩ : ∃ cb, c - 20 = cb := ⟨_, rfl⟩
 obtain ⟨bl, hbl⟩ : ∃ bl, x.length - 20 = bl := ⟨_, rfl⟩
 have hck : ¬ c = 20 := by omega
 go_upto_region 8 with fail
 have i4 : (4 : Int) ≤ cb := by omega
 have j4 : ¬ (bl : Int) < 4 := by omega
 have hblen' : Hid (b.length = bl) := Hi (by rw [hblen, hbl])
 have hb4 : 4 ≤ bl := by omega
 have hbm : bl ≤ 1000000 := by omega
 have hbcb : bl ≤ cb := by omega
 have hbc' : Hid (b.length ≤ cb) := Hi (by omega)
 clear hcb hbl hblen
 have w3 : IntKind.u32.wrap (mk : Int) = (mk : Int) := by rw [c01]; omega
 have hc6 := hB2.out.cell 6 (.int .u32 0) rfl
 have hf6 := hB2.out.frozen 6
 go_wp2_with fail
 refine (a0y _ (sub b 0 4) mk (by rw [a0k (by rw [hblen'.out]; omega)]; omega) _ (Hi (by have := a0c (hk2.out.rangeAt hrb.out (fun f => f)) hbc'.out 0 4 (by rw [hblen'.out]; omega); rwa [Nat.add_zero, Nat.sub_zero] at this)) hmk').mono ?_
 rintro e Wa ⟨rfl, rfl⟩
 obtain ⟨W3, hW3⟩ : ∃ W3, W3 = W2.setCell ⟨B, 6, none⟩ (.int .u32 (mk : Nat)) := ⟨_, rfl⟩
 have hB3 : Hid (a06 W3 B 80 (La' age 2 lid adv seq Sn (mk : Nat) Sn 0)) := Hi (by rw [hW3]; exact hB2.out.put 6 (.int .u32 (mk : Nat)))
 have hR3 : Hid (a06 W3 w.heap.size 80 Zm) := Hi (by rw [hW3]; exact hR2.out.keep ((a02.refl (fun k => k = B) W2).setCell (p := ⟨B, 6, none⟩) (.inl rfl) _) (fun e => by have := hlt.out; omega))
 have hk3 : Hid (a02 (fun _ => False) w W3) := Hi (by rw [hW3]; exact hk2.out.setCell (p := ⟨B, 6, none⟩) (.inr (Nat.le_of_lt hlt.out)) _)
 have hsz3 : Hid (w.heap.size ≤ W3.heap.size) := Hi hk3.out.size
 have hinit : Hid (a06 W3 B 80 (La' age 2 lid adv seq Sn (mk : Nat) Sn 0) ∧ OwnN W3 W3 (.slice none 0 0) (c09 (b.drop 4) 0) ∧ a02 (fun i => i = B) W3 W3) := Hi ⟨hB3.out, OwnN.nil _ _ (Nat.le_refl _), a02.refl _ _⟩
 have hW3' := Hi hW3
 have hB0 := hB3
 clear hW3 hB3 hB2 hR2 hk2 hr2 hH2 b1
 go_upto_region 20 with fail
 rw [← hW3'.out]
 clear hW3' hc6 hf6
 go_wp2_with fail
 go_loopw [8] (fun iv wr => ∃ (k i : Nat) (q : Option Addr) (d : Nat), i = 4 + 4 * k ∧ i ≤ bl ∧ iv = .int .i64 i ∧ Hid (a06 wr B 80 (La' age 2 lid adv seq Sn (mk : Nat) (.slice q k d) 0) ∧ OwnN W3 wr (.slice q k d) (c09 (b.drop 4) k) ∧ a02 (fun i => i = B) W3 wr)) (fun iv _ => bl - (intOf iv).toNat)
 case atStart => exact ⟨0, 4, none, 0, rfl, hb4, rfl, hinit⟩
 case round =>
  obtain ⟨k, i, q, d, hik, hib, rfl, hinv⟩ := hrel
  by_cases hin : i + 4 ≤ bl
  ·have hini : (i : Int) + 4 ≤ bl := by omega
   obtain ⟨n, hn⟩ : ∃ n, a0d (sub b i 4) = n := ⟨_, rfl⟩
   have hn0 := b0c b i 4 (by omega)
   rw [hn] at hn0
   have hn' := Hi hn
   have hrs : Hid (c09 (b.drop 4) (k + 1) = c09 (b.drop 4) k ++ [n]) := Hi (by rw [i02, ← hn, hik]; unfold sub; rw [List.drop_drop])
   have hik' := Hi hik
   clear hn hik
   have f1 : IntKind.i64.wrap ((i : Int) + 4) = (i : Int) + 4 := IntWalk.i64_in _ (by omega)
   have f2 : (i : Int) + 4 ≤ cb := by omega
   have f3 : 0 ≤ (i : Int) + 4 := by omega
   have f4 : max ((i : Int) + 4) 0 = (i : Int) + 4 := by omega
   have f5 : ((i : Int) + 4).toNat = i + 4 := by omega
   have f6 : i + 4 - i = 4 := by omega
   have f7 : (i : Int) ≤ (i : Int) + 4 := by omega
   have wn : IntKind.u32.wrap (n : Int) = (n : Int) := by rw [c01]; omega
   have hicb : ¬ cb = i := by omega
   have hicc : i + 4 ≤ cb := by omega
   have hbl2 := hblen'.out
   go_upto_region 23 with fail
   refine wp_region_noPanic ?_
   refine wp_region_held_drew (S := (fun W => a02 (fun _ => False) w W)) (by kernel_rfl) ((hk3.out.trans' hinv.out.2.2 (fun i e => .inr (by rw [e]; exact Nat.le_of_lt hlt.out))).drew) (fun hHeld => ?_)
   refine tk 0 rfl ?_
   refine tk 2 rfl ?_
   refine tk 3 rfl ?_
   refine tk 4 rfl ?_
   refine tk 5 rfl ?_
   refine tk 6 rfl ?_
   have hBk := Hi (hinv.out.1.keep ((a02.refl (fun _ => False) wr).drew) (fun f => f))
   have hOn := Hi (hinv.out.2.1.keep ((a02.refl (fun _ => False) wr).drew) (fun _ _ f => f))
   have hKw := Hi (hinv.out.2.2.drew)
   obtain ⟨W0, hW0⟩ : ∃ W0, W0 = wr.drew := ⟨_, rfl⟩
   rw [← hW0] at hBk hOn hHeld hKw ⊢
   clear hW0 hinv
   refine c0a 1 7 rfl rfl (by kernel_rfl) (fun K hK => ?_) (fun K hK => ?_)
   ·skip
    have hc7 := hBk.out.cell 7 (.slice q k d) rfl
    go_simp
    refine hK.out _ _ hHeld (fun hHeld => ?_)
    clear hK K hc7
    try simp only [Act.put, sA, sZ, sS]
    refine sL 7 rfl fun K hK => ?_
    go_simp
    refine (a0y _ (sub b i 4) n (by rw [a0k (by omega)]; omega) _ (Hi (a0c (hHeld.rangeAt hrb.out (fun f => f)) hbc'.out i 4 (by omega))) hn').mono ?_
    rintro e Wa ⟨rfl, rfl⟩
    go_wp2_with fail
    refine hK.out _ _ hHeld (fun hHeld => ?_)
    clear hK K
    try simp only [Act.put, sA, sZ, sS]
    refine tk 8 rfl ?_
    refine sL 9 rfl fun K hK => ?_
    go_simp
    refine hK.out _ _ (hHeld.alloc _) (fun hHeld => ?_)
    clear hK K
    try simp only [Act.put, sA, sZ, sS]
    have hka : a02 (fun _ => False) W0 (W0.alloc (.cells #[.int .u32 (n : Nat)] 22)) := (a02.refl _ _).alloc _
    have hnr : Hid ((W0.alloc (.cells #[.int .u32 (n : Nat)] 22)).rangeAt W0.heap.size 0 [.int .u32 (n : Nat)]) := Hi (a0o W0 _ 22)
    have hBk := Hi (hBk.out.keep hka (fun f => f)); have hOn := Hi (hOn.out.keep hka (fun _ _ f => f)); have hKw := Hi (hKw.out.alloc (.cells #[.int .u32 (n : Nat)] 22))
    obtain ⟨nb, hnb⟩ : ∃ nb, nb = W0.heap.size := ⟨_, rfl⟩
    obtain ⟨W0s, hW0s⟩ : ∃ Wz, Wz = W0.alloc (.cells #[.int .u32 (n : Nat)] 22) := ⟨_, rfl⟩
    rw [← hW0s] at hBk hOn hnr hHeld hKw ⊢
    rw [← hnb] at hnr ⊢
    clear hka hnb hW0s
    refine sL 10 rfl fun K hK => ?_
    rw [if_pos (by rfl)]
    refine f0c (.tmp 112) (.tmp 120) 23 rfl i0 Try.underlying23 hi0 hz0 hz1 hz2 W3 _ k (c09 (b.drop 4) k) (c06 _ _) rfl hOn.out ⟨nb, 0, none⟩ 1 [n] rfl (fun j u hu => by rw [Addr.add_mid]; exact hnr.out j u hu) (by have := hik'.out; rw [List.length_singleton]; omega) ?_
    intro q2 d2 w' hO2 hG2
    rw [List.length_singleton] at hO2 hG2 ⊢
    refine hK.out _ _ (hHeld.trans' hG2.k (fun i e => .inr (Nat.le_trans hsz3.out (hOn.out.2.1 i e)))) (fun hHeld => ?_)
    clear hK K
    try simp only [Act.put, sA, sZ, sS]
    have hKw := Hi (hKw.out.trans' hG2.k (fun i e => .inr (hOn.out.2.1 i e)))
    have hBk := Hi (hBk.out.keep hG2.k (fun e => hOn.out.ne_blkR hBk.out B e rfl))
    have hc7 := hBk.out.cell 7 (.slice q k d) rfl
    have hf7 := hBk.out.frozen 7
    have hs7 : a02 (fun i => i = B) w' (w'.setCell ⟨B, 7, none⟩ (.slice q2 (k + 1) d2)) := (a02.refl (fun i => i = B) w').setCell (p := ⟨B, 7, none⟩) (.inl rfl) _
    have hO2' := Hi (hO2.keep hs7 (fun i e h => hO2.ne_blkR hBk.out i e h))
    clear hO2 hG2 hOn
    refine tk 11 rfl ?_
    refine sL 12 rfl fun K hK => ?_
    go_simp
    refine hK.out _ _ ((hHeld.setCell (p := ⟨B, 7, none⟩) (.inr (Nat.le_of_lt hlt.out)) _)) (fun hHeld => ?_)
    clear hK K
    try simp only [Act.put, sA, sZ, sS]
    refine wpAnyH_done (by kernel_rfl) (NoPanic.normal ?_) _
    clear hc7 hf7
    have hnew : Hid (a06 (w'.setCell ⟨B, 7, none⟩ (.slice q2 (k + 1) d2)) B 80 (La' age 2 lid adv seq Sn (mk : Nat) (.slice q2 (k + 1) d2) 0) ∧ OwnN W3 (w'.setCell ⟨B, 7, none⟩ (.slice q2 (k + 1) d2)) (.slice q2 (k + 1) d2) (c09 (b.drop 4) (k + 1)) ∧ a02 (fun i => i = B) W3 (w'.setCell ⟨B, 7, none⟩ (.slice q2 (k + 1) d2))) := Hi ⟨hBk.out.put 7 _, by rw [hrs.out]; exact hO2'.out, hKw.out.trans hs7⟩
    clear hBk hO2' hHeld hKw hs7
    go_wp2_with fail
    have hik2 := hik'.out
    exact ⟨⟨k + 1, i + 4, q2, d2, by omega, by omega, by go_num, hnew⟩, by simp [intOf]; omega⟩
   ·skip
    go_simp
    refine (a0y _ (sub b i 4) n (by rw [a0k (by omega)]; omega) _ (Hi (a0c (hHeld.rangeAt hrb.out (fun f => f)) hbc'.out i 4 (by omega))) hn').mono ?_
    rintro e Wa ⟨rfl, rfl⟩
    go_wp2_with fail
    refine hK.out _ _ hHeld (fun hHeld => ?_)
    clear hK K
    try simp only [Act.put, sA, sZ, sS]
    refine tk 8 rfl ?_
    refine c0a 1 9 rfl rfl (by kernel_rfl) (fun K hK => ?_) (fun K hK => ?_)
    ·skip
     have hc7 := hBk.out.cell 7 (.slice q k d) rfl
     go_simp
     refine hK.out _ _ hHeld (fun hHeld => ?_)
     clear hK K hc7
     try simp only [Act.put, sA, sZ, sS]
     refine sL 9 rfl fun K hK => ?_
     go_simp
     refine hK.out _ _ (hHeld.alloc _) (fun hHeld => ?_)
     clear hK K
     try simp only [Act.put, sA, sZ, sS]
     have hka : a02 (fun _ => False) W0 (W0.alloc (.cells #[.int .u32 (n : Nat)] 22)) := (a02.refl _ _).alloc _
     have hnr : Hid ((W0.alloc (.cells #[.int .u32 (n : Nat)] 22)).rangeAt W0.heap.size 0 [.int .u32 (n : Nat)]) := Hi (a0o W0 _ 22)
     have hBk := Hi (hBk.out.keep hka (fun f => f)); have hOn := Hi (hOn.out.keep hka (fun _ _ f => f)); have hKw := Hi (hKw.out.alloc (.cells #[.int .u32 (n : Nat)] 22))
     obtain ⟨nb, hnb⟩ : ∃ nb, nb = W0.heap.size := ⟨_, rfl⟩
     obtain ⟨W0s, hW0s⟩ : ∃ Wz, Wz = W0.alloc (.cells #[.int .u32 (n : Nat)] 22) := ⟨_, rfl⟩
     rw [← hW0s] at hBk hOn hnr hHeld hKw ⊢
     rw [← hnb] at hnr ⊢
     clear hka hnb hW0s
     refine sL 10 rfl fun K hK => ?_
     rw [if_pos (by rfl)]
     refine f0c (.tmp 112) (.tmp 120) 23 rfl i0 Try.underlying23 hi0 hz0 hz1 hz2 W3 _ k (c09 (b.drop 4) k) (c06 _ _) rfl hOn.out ⟨nb, 0, none⟩ 1 [n] rfl (fun j u hu => by rw [Addr.add_mid]; exact hnr.out j u hu) (by have := hik'.out; rw [List.length_singleton]; omega) ?_
     intro q2 d2 w' hO2 hG2
     rw [List.length_singleton] at hO2 hG2 ⊢
     refine hK.out _ _ (hHeld.trans' hG2.k (fun i e => .inr (Nat.le_trans hsz3.out (hOn.out.2.1 i e)))) (fun hHeld => ?_)
     clear hK K
     try simp only [Act.put, sA, sZ, sS]
     have hKw := Hi (hKw.out.trans' hG2.k (fun i e => .inr (hOn.out.2.1 i e)))
     have hBk := Hi (hBk.out.keep hG2.k (fun e => hOn.out.ne_blkR hBk.out B e rfl))
     have hc7 := hBk.out.cell 7 (.slice q k d) rfl
     have hf7 := hBk.out.frozen 7
     have hs7 : a02 (fun i => i = B) w' (w'.setCell ⟨B, 7, none⟩ (.slice q2 (k + 1) d2)) := (a02.refl (fun i => i = B) w').setCell (p := ⟨B, 7, none⟩) (.inl rfl) _
     have hO2' := Hi (hO2.keep hs7 (fun i e h => hO2.ne_blkR hBk.out i e h))
     clear hO2 hG2 hOn
     refine tk 11 rfl ?_
     refine sL 12 rfl fun K hK => ?_
     go_simp
     refine hK.out _ _ ((hHeld.setCell (p := ⟨B, 7, none⟩) (.inr (Nat.le_of_lt hlt.out)) _)) (fun hHeld => ?_)
     clear hK K
     try simp only [Act.put, sA, sZ, sS]
     refine wpAnyH_done (by kernel_rfl) (NoPanic.normal ?_) _
     clear hc7 hf7
     have hnew : Hid (a06 (w'.setCell ⟨B, 7, none⟩ (.slice q2 (k + 1) d2)) B 80 (La' age 2 lid adv seq Sn (mk : Nat) (.slice q2 (k + 1) d2) 0) ∧ OwnN W3 (w'.setCell ⟨B, 7, none⟩ (.slice q2 (k + 1) d2)) (.slice q2 (k + 1) d2) (c09 (b.drop 4) (k + 1)) ∧ a02 (fun i => i = B) W3 (w'.setCell ⟨B, 7, none⟩ (.slice q2 (k + 1) d2))) := Hi ⟨hBk.out.put 7 _, by rw [hrs.out]; exact hO2'.out, hKw.out.trans hs7⟩
     clear hBk hO2' hHeld hKw hs7
     go_wp2_with fail
     have hik2 := hik'.out
     exact ⟨⟨k + 1, i + 4, q2, d2, by omega, by omega, by go_num, hnew⟩, by simp [intOf]; omega⟩
    ·skip
     go_simp
     refine hK.out _ _ (hHeld.alloc _) (fun hHeld => ?_)
     clear hK K
     try simp only [Act.put, sA, sZ, sS]
     have hka : a02 (fun _ => False) W0 (W0.alloc (.cells #[.int .u32 (n : Nat)] 22)) := (a02.refl _ _).alloc _
     have hnr : Hid ((W0.alloc (.cells #[.int .u32 (n : Nat)] 22)).rangeAt W0.heap.size 0 [.int .u32 (n : Nat)]) := Hi (a0o W0 _ 22)
     have hBk := Hi (hBk.out.keep hka (fun f => f)); have hOn := Hi (hOn.out.keep hka (fun _ _ f => f)); have hKw := Hi (hKw.out.alloc (.cells #[.int .u32 (n : Nat)] 22))
     obtain ⟨nb, hnb⟩ : ∃ nb, nb = W0.heap.size := ⟨_, rfl⟩
     obtain ⟨W0s, hW0s⟩ : ∃ Wz, Wz = W0.alloc (.cells #[.int .u32 (n : Nat)] 22) := ⟨_, rfl⟩
     rw [← hW0s] at hBk hOn hnr hHeld hKw ⊢
     rw [← hnb] at hnr ⊢
     clear hka hnb hW0s
     refine sL 1 rfl fun K hK => ?_
     have hc7 := hBk.out.cell 7 (.slice q k d) rfl
     go_simp
     refine hK.out _ _ hHeld (fun hHeld => ?_)
     clear hK K hc7
     try simp only [Act.put, sA, sZ, sS]
     refine sL 10 rfl fun K hK => ?_
     rw [if_pos (by rfl)]
     refine f0c (.tmp 112) (.tmp 120) 23 rfl i0 Try.underlying23 hi0 hz0 hz1 hz2 W3 _ k (c09 (b.drop 4) k) (c06 _ _) rfl hOn.out ⟨nb, 0, none⟩ 1 [n] rfl (fun j u hu => by rw [Addr.add_mid]; exact hnr.out j u hu) (by have := hik'.out; rw [List.length_singleton]; omega) ?_
     intro q2 d2 w' hO2 hG2
     rw [List.length_singleton] at hO2 hG2 ⊢
     refine hK.out _ _ (hHeld.trans' hG2.k (fun i e => .inr (Nat.le_trans hsz3.out (hOn.out.2.1 i e)))) (fun hHeld => ?_)
     clear hK K
     try simp only [Act.put, sA, sZ, sS]
     have hKw := Hi (hKw.out.trans' hG2.k (fun i e => .inr (hOn.out.2.1 i e)))
     have hBk := Hi (hBk.out.keep hG2.k (fun e => hOn.out.ne_blkR hBk.out B e rfl))
     have hc7 := hBk.out.cell 7 (.slice q k d) rfl
     have hf7 := hBk.out.frozen 7
     have hs7 : a02 (fun i => i = B) w' (w'.setCell ⟨B, 7, none⟩ (.slice q2 (k + 1) d2)) := (a02.refl (fun i => i = B) w').setCell (p := ⟨B, 7, none⟩) (.inl rfl) _
     have hO2' := Hi (hO2.keep hs7 (fun i e h => hO2.ne_blkR hBk.out i e h))
     clear hO2 hG2 hOn
     refine tk 11 rfl ?_
     refine sL 12 rfl fun K hK => ?_
     go_simp
     refine hK.out _ _ ((hHeld.setCell (p := ⟨B, 7, none⟩) (.inr (Nat.le_of_lt hlt.out)) _)) (fun hHeld => ?_)
     clear hK K
     try simp only [Act.put, sA, sZ, sS]
     refine wpAnyH_done (by kernel_rfl) (NoPanic.normal ?_) _
     clear hc7 hf7
     have hnew : Hid (a06 (w'.setCell ⟨B, 7, none⟩ (.slice q2 (k + 1) d2)) B 80 (La' age 2 lid adv seq Sn (mk : Nat) (.slice q2 (k + 1) d2) 0) ∧ OwnN W3 (w'.setCell ⟨B, 7, none⟩ (.slice q2 (k + 1) d2)) (.slice q2 (k + 1) d2) (c09 (b.drop 4) (k + 1)) ∧ a02 (fun i => i = B) W3 (w'.setCell ⟨B, 7, none⟩ (.slice q2 (k + 1) d2))) := Hi ⟨hBk.out.put 7 _, by rw [hrs.out]; exact hO2'.out, hKw.out.trans hs7⟩
     clear hBk hO2' hHeld hKw hs7
     go_wp2_with fail
     have hik2 := hik'.out
     exact ⟨⟨k + 1, i + 4, q2, d2, by omega, by omega, by go_num, hnew⟩, by simp [intOf]; omega⟩
  ·have hkm : k = (b.length - 4) / 4 := by rw [hblen'.out]; omega
   have hgl2 : Hid (getL x = f07 ⟨age, 2, lid, adv, seq, [], mk, c09 (b.drop 4) k, 0⟩ x) := Hi (by rw [hgl.out, ← hkm])
   have hkb : k ≤ 1000000 := by omega
   obtain ⟨rs, hrs⟩ : ∃ rs, c09 (b.drop 4) k = rs := ⟨_, rfl⟩
   have hrl : rs.length = k := by rw [← hrs, c06]
   have hrok : Hid (h06 rs) := Hi (by rw [← hrs]; exact g0u _ _)
   rw [hrs] at hgl2 hinv
   clear hgl hrs hkm
   subst hrl
   have hgl := hgl2
   have hB3 := Hi hinv.out.1
   have hR3 := Hi (hR3.out.keep hinv.out.2.2 (fun e => by have := hlt.out; omega))
   have hqo : Hid (∀ i, (Value.slice q rs.length d).ownBlock = some i → w.heap.size < i) := Hi (fun i e => by have h1 := hinv.out.2.1.2.1 i e; have h2 := lt_of_block hB0.out; have h3 := hlt.out; omega)
   have hk3 := Hi (hk3.out.trans' hinv.out.2.2 (fun i e => .inr (by rw [e]; exact Nat.le_of_lt hlt.out)))
   have hr3 := Hi (hk3.out.rangeAt hr.out (fun f => f))
   have hL3 : Hid (b02 wr (.slice none 0 0) []) := Hi (b02.nil _)
   have hN3 := Hi hinv.out.2.1.at
   have hNk := hN3
   have hlb : ([] : List b09).length ≤ 9223372036854775807 := by simp
   have hrb2 : rs.length ≤ 9223372036854775807 := by omega
   have hlok := Hi n05
   have hlm := s0
   have hini : ¬ (i : Int) + 4 ≤ bl := by omega
   have f1 : IntKind.i64.wrap ((i : Int) + 4) = (i : Int) + 4 := IntWalk.i64_in _ (by omega)
   have hik' := Hi hik
   clear hinv hgl2 hik hin
   go_wp2_with ((with_reducible refine a09 139 ?_); refine wpList_load_mid rfl 80 (.tmp 5) rfl B 0 rfl (La' age 2 lid adv seq Sn (mk : Nat) (.slice q rs.length d) 0) _ hB3.out.range Try.underlying80 rfl a0n ?_)
   cases hcan : canB ⟨age, 2, lid, adv, seq, [], mk, rs, 0⟩ with
   | false =>
    have hcan' := Hi hcan; clear hcan
    have hg' : Hid (getL x = (d0d, 3)) := Hi (by rw [hgl.out]; unfold f07; rw [if_neg (fun h => by rw [hcan'.out] at h; cases h.1)])
    refine (f0v age 2 seq 0 lid adv mk [] rs none q 0 d _ hL3 hlb hrb2 hcan').mono ?_
    rintro e w4 ⟨rfl, k4⟩
    have hR4 := Hi (hR3.out.keep k4 (fun f => f)); have hk4 := Hi (hk3.out.trans k4)
    clear k4 hR3 hk3 hB3 hr3 hL3 hN3 hcan'
    go_wp2_with ((with_reducible refine a08 2 ?_); refine a05 rfl 80 (.tmp 2) (.tmp 152) rfl w.heap.size Zl rfl rfl (a06.there hR4.out 0 9 (Nat.le_refl 9)) a0n (a0z _ _ _ _ _ _ _ _ _ (a03 _ _ _) (a03 _ _ _)) ?_; intro w9 hr9 hs9)
    have e0 := a01 hr9.out 0 _ rfl
    have e1 := a01 hr9.out 1 _ rfl
    have e2 := a01 hr9.out 2 _ rfl
    have e3 := a01 hr9.out 3 _ rfl
    have e4 := a01 hr9.out 4 _ rfl
    have e5 := a01 hr9.out 5 _ rfl
    have e6 := a01 hr9.out 6 _ rfl
    have e7 := a01 hr9.out 7 _ rfl
    have e8 := a01 hr9.out 8 _ rfl
    refine bodyPost_ret (v := .tuple #[.agg Zl, .int .i64 3]) (by simp [results, Try.results33, go_sem, e0, e1, e2, e3, e4, e5, e6, e7, e8]) rfl ⟨⟨_, by rw [hg'.out], by rw [hg'.out]; exact LsaF.zero _ _⟩, hk4.out.trans' hs9.out (fun i e => .inr (by omega))⟩
   | true =>
    have hcan' := Hi hcan; clear hcan
    by_cases hp : putB ⟨age, 2, lid, adv, seq, [], mk, rs, 0⟩ = x
    ·skip
     refine (d0p age 2 seq 0 lid adv mk [] rs none q 0 d _ hL3 hN3 hlok hrok hlid hladv hlm hcan').mono ?_
     rintro e w4 ⟨pY, cY, rfl, obY, k4⟩
     have hR4 := Hi (hR3.out.keep k4 (fun f => f)); have hk4 := Hi (hk3.out.trans k4); have hB4 := Hi (hB3.out.keep k4 (fun f => f)); have hr4 := Hi (k4.rangeAt hr3.out (fun f => f))
     have hg' : Hid (getL x = (⟨age, 2, lid, adv, seq, [], mk, rs, 0⟩, 0)) := Hi (by rw [hgl.out]; unfold f07; rw [if_pos ⟨hcan'.out, hp⟩])
     rw [hp] at obY ⊢
     have cv1 := c08 obY.bytes (by omega)
     have cv2 := f0h g o c x w4 hr4.out
     have hp' := Hi hp
     have k4' := Hi k4
     clear k4 hR3 hk3 hB3 hr3 hL3 hN3 hp obY
     go_wp2_with (first | ((with_reducible refine a09 153 ?_); refine wpList_load_mid rfl 80 (.tmp 5) rfl B 0 rfl (La' age 2 lid adv seq Sn (mk : Nat) (.slice q rs.length d) 0) _ hB4.out.range Try.underlying80 rfl a0n ?_) | ((with_reducible refine a08 2 ?_); refine a05 rfl 80 (.tmp 2) (.tmp 153) rfl w.heap.size (La age 2 lid adv seq Sn (mk : Nat) (.slice q rs.length d) 0) rfl rfl (a06.there hR4.out 0 9 (Nat.le_refl 9)) a0n (a0z _ _ _ _ _ _ _ _ _ (a03 _ _ _) (a03 _ _ _)) ?_; intro w9 hr9 hs9))
     have e0 := a01 hr9.out 0 _ rfl
     have e1 := a01 hr9.out 1 _ rfl
     have e2 := a01 hr9.out 2 _ rfl
     have e3 := a01 hr9.out 3 _ rfl
     have e4 := a01 hr9.out 4 _ rfl
     have e5 := a01 hr9.out 5 _ rfl
     have e6 := a01 hr9.out 6 _ rfl
     have e7 := a01 hr9.out 7 _ rfl
     have e8 := a01 hr9.out 8 _ rfl
     refine bodyPost_ret (v := .tuple #[.agg (La age 2 lid adv seq Sn (mk : Nat) (.slice q rs.length d) 0), .int .i64 0]) (by simp [results, Try.results33, go_sem, e0, e1, e2, e3, e4, e5, e6, e7, e8]) rfl ⟨⟨_, by rw [hg'.out], by rw [hg'.out]; exact ⟨none, 0, q, d, rfl, b02.nil _, ((hNk.out.keep k4'.out).keepF hs9.out (fun _ i e h => absurd h (by have := hqo.out i e; omega))), b0n _, o04 hqo.out⟩⟩, hk4.out.trans' hs9.out (fun i e => .inr (by omega))⟩
    ·skip
     refine (d0p age 2 seq 0 lid adv mk [] rs none q 0 d _ hL3 hN3 hlok hrok hlid hladv hlm hcan').mono ?_
     rintro e w4 ⟨pY, cY, rfl, obY, k4⟩
     have hR4 := Hi (hR3.out.keep k4 (fun f => f)); have hk4 := Hi (hk3.out.trans k4); have hB4 := Hi (hB3.out.keep k4 (fun f => f)); have hr4 := Hi (k4.rangeAt hr3.out (fun f => f))
     have hg' : Hid (getL x = (d0d, 3)) := Hi (by rw [hgl.out]; unfold f07; rw [if_neg (fun h => hp h.2)])
     have h0P : 0 < (putB ⟨age, 2, lid, adv, seq, [], mk, rs, 0⟩).length := by rw [f0f]; omega
     obtain ⟨PX, hPX⟩ : ∃ PX, putB ⟨age, 2, lid, adv, seq, [], mk, rs, 0⟩ = PX := ⟨_, rfl⟩
     rw [hPX] at hp obY h0P ⊢
     have cv1 := c08 obY.bytes h0P
     have cv2 := f0h g o c x w4 hr4.out
     obtain ⟨S1, hS1⟩ : ∃ S : ByteArray, S = ⟨PX.toArray⟩ := ⟨_, rfl⟩
     obtain ⟨S2, hS2⟩ : ∃ S : ByteArray, S = ⟨x.toArray⟩ := ⟨_, rfl⟩
     rw [← hS1] at cv1
     rw [← hS2] at cv2
     have hne : (S1.toList == S2.toList) = false := by
      rw [Lib.toList_data, Lib.toList_data, hS1, hS2, beq_eq_false_iff_ne]
      exact fun e => hp e
     have hp' := Hi hp
     clear k4 hR3 hk3 hB3 hr3 hL3 hN3 hp obY hPX hS1 hS2 h0P hB4 hr4
     go_wp2_with ((with_reducible refine a08 2 ?_); refine a05 rfl 80 (.tmp 2) (.tmp 152) rfl w.heap.size Zl rfl rfl (a06.there hR4.out 0 9 (Nat.le_refl 9)) a0n (a0z _ _ _ _ _ _ _ _ _ (a03 _ _ _) (a03 _ _ _)) ?_; intro w9 hr9 hs9)
     have e0 := a01 hr9.out 0 _ rfl
     have e1 := a01 hr9.out 1 _ rfl
     have e2 := a01 hr9.out 2 _ rfl
     have e3 := a01 hr9.out 3 _ rfl
     have e4 := a01 hr9.out 4 _ rfl
     have e5 := a01 hr9.out 5 _ rfl
     have e6 := a01 hr9.out 6 _ rfl
     have e7 := a01 hr9.out 7 _ rfl
     have e8 := a01 hr9.out 8 _ rfl
     refine bodyPost_ret (v := .tuple #[.agg Zl, .int .i64 3]) (by simp [results, Try.results33, go_sem, e0, e1, e2, e3, e4, e5, e6, e7, e8]) rfl ⟨⟨_, by rw [hg'.out], by rw [hg'.out]; exact LsaF.zero _ _⟩, hk4.out.trans' hs9.out (fun i e => .inr (by omega))⟩
end Go.Proofs.Ytmggbljkehclpaa
