/- LBE LBF -/
import Derived.Test.YtmggbljkehclpaaG27
import Derived.Test.YtmggbljkehclpaaG33
set_option linter.unusedVariables false
set_option linter.unusedSimpArgs false
namespace Go.Proofs.Ytmggbljkehclpaa
open Go.RowKit
set_option maxRecDepth 100000 in
set_option maxHeartbeats 4000000 in
theorem r10Get_1 (g o c : Nat) (x : List UInt8) (hx : 20 ≤ x.length) (hx2 : x.length ≤ 1000000) (hc : x.length ≤ c) (age seq len : Int) (lid adv sum : Nat) (w : World) (hr : Hid (w.rangeAt g o (x.map bv))) (hh : Hid (a0h x = ⟨age, 1, lid, adv, seq, sum, len⟩)) (hri : Hid (b0h (x.drop 2) = true)) (h16 : x[16]'(by omega) ≠ 255) (h17 : x[17]'(by omega) ≠ 255) (hlo : 24 ≤ x.length) (hlid : lid < 4294967296) (hladv : adv < 4294967296) :
 Calls Try.prog 33 #[.slice (some ⟨g, o, none⟩) x.length c] w (c05 x w) := by
 have hnb : ¬ (b0h (x.drop 2) = false ∨ x.getD 16 0 = 255 ∨ x.getD 17 0 = 255) := by
  rw [List.getD_eq_getElem?_getD, List.getElem?_eq_getElem (by omega), List.getD_eq_getElem?_getD, List.getElem?_eq_getElem (by omega), hri.out]
  rintro (h | h | h)
  ·cases h
  ·exact h16 h
  ·exact h17 h
 have hgl0 : getL x = f07 (b0x (a0h x) (x.drop 20)) x := h0r x (by omega) hnb (by
  rintro (⟨_, h⟩ | ⟨h, _⟩ | ⟨h, _⟩)
  ·rw [List.length_drop] at h; omega
  ·rw [hh.out] at h; exact absurd (show (1 : Int) = 2 from h) (by decide)
  ·rw [hh.out] at h; exact absurd (show (1 : Int) = 3 from h) (by decide))
 clear hnb
 have hg : True := trivial
 have hrb : Hid (w.rangeAt g (o + 20) ((x.drop 20).map bv)) := Hi (by have h0 := c0e hr.out 20 (x.length - 20); rwa [List.take_of_length_le (by rw [List.length_drop]; omega)] at h0)
 have hR : Hid (a06 (w.alloc (.cells Zl 80)) w.heap.size 80 Zm) := Hi (a06.new w _ _)
 have hk : Hid (a02 (fun _ => False) w (w.alloc (.cells Zl 80))) := Hi ((a02.refl _ _).alloc _)
 go_enter Try.func33, Try.ntmps33
 go_upto_region 1 with fail
 generalize w.alloc (.cells Zl 80) = w0 at hR hk ⊢
 have hr0 := Hi (hk.out.rangeAt hr.out id)
 have hb0 := Hi (a0w hr0.out hc 2 (by omega))
 rw [if_neg (by omega)] at hb0
 have c16 := a0i hr0.out 16 (by omega)
 have c17 := a0i hr0.out 17 (by omega)
 have e16 : (((x[16]'(by omega)).toNat : Int) == 255) = false := by rw [beq_eq_false_iff_ne]; intro e; exact h16 (UInt8.toNat_inj.1 (by have : ((x[16]'(by omega)).toNat : Int) = 255 := e; have h5 : (255 : UInt8).toNat = 255 := rfl; omega))
 have h16' := Hi h16; clear h16
 have e17 : (((x[17]'(by omega)).toNat : Int) == 255) = false := by rw [beq_eq_false_iff_ne]; intro e; exact h17 (UInt8.toNat_inj.1 (by have : ((x[17]'(by omega)).toNat : Int) = 255 := e; have h5 : (255 : UInt8).toNat = 255 := rfl; omega))
 have h17' := Hi h17; clear h17
 go_wp2_with fail
 refine (c0w _ (x.drop 2) true (by simp; omega) _ hb0 hri).mono ?_
 rintro e w' ⟨rfl, rfl⟩
 go_wp2_with fail
 refine (d0x g o c x hx (by omega) hc age 1 seq len lid adv sum _ hr0 hh).mono ?_
 rintro e w1 ⟨rfl, k1⟩
 clear c16 c17 e16 e17
 obtain ⟨W1, hW1⟩ : ∃ W1, W1 = w1.alloc (.cells (Ha age 1 lid adv seq sum len) 73) := ⟨_, rfl⟩
 have k1' : a02 (fun _ => False) w0 W1 := by rw [hW1]; exact k1.alloc _
 have hH1 : Hid (a06 W1 w1.heap.size 73 (Ha' age 1 lid adv seq sum len)) := Hi (by rw [hW1]; exact a06.new w1 73 (Ha' age 1 lid adv seq sum len))
 have hR1 := Hi (hR.out.keep k1' (fun f => f)); have hk1 := Hi (hk.out.trans k1'); have hr1 := Hi (k1'.rangeAt hr0.out (fun f => f))
 have hW1' := Hi hW1
 clear hW1 k1 k1' hR hk hr0 hb0
 go_upto_region 6 with ((with_reducible refine a08 4 ?_); refine a07 rfl 73 (.tmp 4) (.tmp 33) rfl _ (Ha age 1 lid adv seq sum len) rfl rfl c0m rfl (b0i _ _ _ _ _ _ _) ?_)
 rw [← hW1'.out]
 clear hW1'
 have b0 := hH1.out.cell 0 (.int .i64 age) rfl
 have b4 := hH1.out.cell 4 (.int .i64 seq) rfl
 obtain ⟨W2, hW2⟩ : ∃ W2, W2 = W1.alloc (.cells (La age 1 lid adv seq Sn 0 Sn 0) 80) := ⟨_, rfl⟩
 have k2' : a02 (fun _ => False) W1 W2 := by rw [hW2]; exact (a02.refl _ _).alloc _
 have hB2 : Hid (a06 W2 W1.heap.size 80 (La' age 1 lid adv seq Sn 0 Sn 0)) := Hi (by rw [hW2]; exact a06.new W1 80 (La' age 1 lid adv seq Sn 0 Sn 0))
 have hH2 := Hi (hH1.out.keep k2' (fun f => f)); have hR2 := Hi (hR1.out.keep k2' (fun f => f)); have hk2 := Hi (hk1.out.trans k2'); have hr2 := Hi (k2'.rangeAt hr1.out (fun f => f))
 have hlt : Hid (w.heap.size < W1.heap.size) := Hi (lt_of_block hR1.out)
 have hW2' := Hi hW2
 clear hW2 k2' hR1 hk1 hr1
 go_upto_region 7 with (first | ((with_reducible refine a09 37 ?_); refine wpList_load_mid rfl 71 (.tmp 36) rfl w1.heap.size 1 rfl _ _ (c02 hH1.out) Try.underlying71 rfl b0d ?_) | ((with_reducible refine a08 5 ?_); refine a07 rfl 80 (.tmp 5) (.tmp 40) rfl _ _ rfl rfl a0n rfl (a0z _ _ _ _ _ _ _ _ _ (a03 _ _ _) (a03 _ _ _)) ?_))
 rw [← hW2'.out]
 clear hW2' b0 b4 hH1
 have b1 := hH2.out.cell 1 (.int .i64 1) rfl
 obtain ⟨B, hB⟩ : ∃ B, B = W1.heap.size := ⟨_, rfl⟩
 rw [← hB] at hB2 hlt ⊢
 obtain ⟨HB, hHB⟩ : ∃ HB, HB = w1.heap.size := ⟨_, rfl⟩
 rw [← hHB] at hH2 b1 ⊢
 clear hB hHB
 obtain ⟨ii, hii, hiz, hisz, hiby⟩ := info_parts i0j
 obtain ⟨b, hb⟩ : ∃ b, x.drop 20 = b := ⟨_, rfl⟩
 have hblen : b.length = x.length - 20 := by rw [← hb, List.length_drop]
 rw [hb] at hrb
 have hd : b0x (a0h x) (x.drop 20) = ⟨age, 1, lid, adv, seq, d0e (b.drop 4) ((b.length - 4) / 12), 0, [], 0⟩ := by
  rw [hh.out, hb]; unfold b0x; simp only; rw [if_pos trivial]
 rw [hd] at hgl0
 have hgl := Hi hgl0
 clear hd hgl0 hb
 obtain ⟨cb, hcb⟩ : ∃ cb, c - 20 = cb := ⟨_, rfl⟩
 obtain ⟨bl, hbl⟩ : ∃ bl, x.length - 20 = bl := ⟨_, rfl⟩
 have hck : ¬ c = 20 := by omega
 go_upto_region 8 with fail
 have j4 : ¬ (bl : Int) < 4 := by omega
 have hblen' : Hid (b.length = bl) := Hi (by rw [hblen, hbl])
 have hb4 : 4 ≤ bl := by omega
 have hbm : bl ≤ 1000000 := by omega
 have hbcb : bl ≤ cb := by omega
 have hbc' : Hid (b.length ≤ cb) := Hi (by omega)
 clear hcb hbl hblen
 obtain ⟨W3, hW3⟩ : ∃ W3, W3 = W2 := ⟨_, rfl⟩
 rw [← hW3] at hB2 hR2 hk2 b1 ⊢
 have hB0 := hB2
 have hR3 := hR2
 have hk3 := hk2
 have hsz3 : Hid (w.heap.size ≤ W3.heap.size) := Hi hk3.out.size
 have hinit : Hid (a06 W3 B 80 (La' age 1 lid adv seq Sn 0 Sn 0) ∧ c0z W3 W3 (.slice none 0 0) (d0e (b.drop 4) 0) ∧ a02 (fun i => i = B) W3 W3) := Hi ⟨hB0.out, c0z.nil _ _ (Nat.le_refl _), a02.refl _ _⟩
 clear hW3 hB2 hR2 hk2 hr2 hH2
 go_upto_region 12 with fail
 clear b1
 go_wp2_with fail
 go_loopw [7] (fun iv wr => ∃ (k i : Nat) (q : Option Addr) (d : Nat), i = 4 + 12 * k ∧ i ≤ bl ∧ iv = .int .i64 i ∧ Hid (a06 wr B 80 (La' age 1 lid adv seq (.slice q k d) 0 Sn 0) ∧ c0z W3 wr (.slice q k d) (d0e (b.drop 4) k) ∧ a02 (fun i => i = B) W3 wr)) (fun iv _ => bl - (intOf iv).toNat)
 case atStart => exact ⟨0, 4, none, 0, rfl, hb4, rfl, hinit⟩
 case round =>
  obtain ⟨k, i, q, d, hik, hib, rfl, hinv⟩ := hrel
  by_cases hin : i + 12 ≤ bl
  ·have hini : (i : Int) + 12 ≤ bl := by omega
   obtain ⟨n1, hn1⟩ : ∃ n, a0d (sub b i 4) = n := ⟨_, rfl⟩
   obtain ⟨n2, hn2⟩ : ∃ n, a0d (sub b (i + 4) 4) = n := ⟨_, rfl⟩
   obtain ⟨n3, hn3⟩ : ∃ n, a0d (sub b (i + 10) 2) = n := ⟨_, rfl⟩
   obtain ⟨ty, hty⟩ : ∃ n, (b.getD (i + 8) 0).toNat = n := ⟨_, rfl⟩
   have g1 := b0c b i 4 (by omega)
   have g2 := b0c b (i + 4) 4 (by omega)
   have g4 := (b.getD (i + 8) 0).toNat_lt
   rw [hn1] at g1; rw [hn2] at g2; rw [hty] at g4
   have hn1' := Hi hn1; have hn2' := Hi hn2; have hn3' := Hi hn3
   have hrs : Hid (d0e (b.drop 4) (k + 1) = d0e (b.drop 4) k ++ [⟨n1, n2, (ty : Nat), (n3 : Nat)⟩]) := Hi (by
    rw [k05, ← hn1, ← hn2, ← hn3, ← hty, hik]
    unfold m05 sub
    rw [List.drop_drop, List.drop_drop, List.drop_drop, show 4 + (12 * k + 4) = 4 + 12 * k + 4 by omega, show 4 + (12 * k + 10) = 4 + 12 * k + 10 by omega, List.getD_eq_getElem?_getD, List.getD_eq_getElem?_getD, List.getElem?_drop, show 4 + (12 * k + 8) = 4 + 12 * k + 8 by omega])
   have hcell : Hid (∀ W', a02 (fun _ => False) w W' → W'.cell? ⟨g, o + 20 + (i + 8), none⟩ = some (.int .u8 ty)) := Hi (fun W' s => by
    have h1 := a0i (s.rangeAt hrb.out (fun f => f)) (i + 8) (by rw [hblen'.out]; omega)
    rw [h1, ← hty, List.getD_eq_getElem?_getD, List.getElem?_eq_getElem (by rw [hblen'.out]; omega)]; rfl)
   have hik' := Hi hik
   clear hn1 hn2 hn3 hty hik
   have f1 : IntKind.i64.wrap ((i : Int) + 4) = (i : Int) + 4 := IntWalk.i64_in _ (by omega)
   have f2 : IntKind.i64.wrap ((i : Int) + 8) = (i : Int) + 8 := IntWalk.i64_in _ (by omega)
   have f3 : IntKind.i64.wrap ((i : Int) + 10) = (i : Int) + 10 := IntWalk.i64_in _ (by omega)
   have f4 : IntKind.i64.wrap ((i : Int) + 12) = (i : Int) + 12 := IntWalk.i64_in _ (by omega)
   have a1 : (i : Int) + 4 ≤ cb := by omega
   have a2 : (i : Int) + 8 ≤ cb := by omega
   have a4 : (i : Int) + 12 ≤ cb := by omega
   have z1 : 0 ≤ (i : Int) + 4 := by omega
   have z2 : 0 ≤ (i : Int) + 8 := by omega
   have z3 : 0 ≤ (i : Int) + 10 := by omega
   have z4 : 0 ≤ (i : Int) + 12 := by omega
   have m1 : max ((i : Int) + 4) 0 = (i : Int) + 4 := by omega
   have m2 : max ((i : Int) + 8) 0 = (i : Int) + 8 := by omega
   have m4 : max ((i : Int) + 12) 0 = (i : Int) + 12 := by omega
   have u1 : ((i : Int) + 4).toNat = i + 4 := by omega
   have u2 : ((i : Int) + 8).toNat = i + 8 := by omega
   have u3 : ((i : Int) + 10).toNat = i + 10 := by omega
   have u4 : ((i : Int) + 12).toNat = i + 12 := by omega
   have v1 : i + 4 - i = 4 := by omega
   have v2 : i + 8 - (i + 4) = 4 := by omega
   have v3 : i + 12 - (i + 10) = 2 := by omega
   have l1 : (i : Int) ≤ (i : Int) + 4 := by omega
   have l2 : (i : Int) + 4 ≤ (i : Int) + 8 := by omega
   have l3 : (i : Int) + 10 ≤ (i : Int) + 12 := by omega
   have l4 : (i : Int) + 8 < bl := by omega
   have c1 : ¬ cb = i := by omega
   have c2 : ¬ cb = i + 4 := by omega
   have c3 : ¬ cb = i + 10 := by omega
   have y1 : IntKind.u32.wrap (n1 : Int) = (n1 : Int) := by rw [c01]; omega
   have y2 : IntKind.u32.wrap (n2 : Int) = (n2 : Int) := by rw [c01]; omega
   have y3 : IntKind.i64.wrap (ty : Int) = (ty : Int) := IntWalk.i64_in _ (by omega)
   have hbl2 := hblen'.out
   go_upto_region 15 with fail
   refine wp_region_noPanic ?_
   refine wp_region_held_drew (S := (fun W => a02 (fun _ => False) w W)) (by kernel_rfl) ((hk3.out.trans' hinv.out.2.2 (fun i e => .inr (by rw [e]; exact Nat.le_of_lt hlt.out))).drew) (fun hHeld => ?_)
   refine tk 0 rfl ?_
   refine tk 2 rfl ?_
   refine tk 3 rfl ?_
   refine tk 4 rfl ?_
   refine tk 5 rfl ?_
   refine tk 6 rfl ?_
   refine tk 9 rfl ?_
   refine tk 10 rfl ?_
   refine tk 11 rfl ?_
   refine tk 12 rfl ?_
   refine tk 13 rfl ?_
   refine tk 14 rfl ?_
   refine tk 17 rfl ?_
   refine tk 18 rfl ?_
   refine tk 19 rfl ?_
   refine tk 20 rfl ?_
   refine tkL 21 rfl (a04 (by rfl) 5 (.tmp 79) rfl g (o + 20 + (i + 8)) rfl _ (fun W' s => hcell.out W' s) (fun w s => g05 w _ _ _ s)) ?_
   refine tk 22 rfl ?_
   refine tk 23 rfl ?_
   refine tk 24 rfl ?_
   refine tk 25 rfl ?_
   refine tk 26 rfl ?_
   refine tk 27 rfl ?_
   refine tk 28 rfl ?_
   have hBk := Hi (hinv.out.1.keep ((a02.refl (fun _ => False) wr).drew) (fun f => f))
   have hOn := Hi (hinv.out.2.1.keep ((a02.refl (fun _ => False) wr).drew) (fun _ _ f => f))
   have hKw := Hi (hinv.out.2.2.drew)
   obtain ⟨W0, hW0⟩ : ∃ W0, W0 = wr.drew := ⟨_, rfl⟩
   rw [← hW0] at hBk hOn hHeld hKw ⊢
   clear hW0 hinv f1 f2 f3 a1 a2 a4 z1 z2 z3 z4 m1 m2 m4 u1 u2 u3 u4 v1 v2 v3 l1 l2 l3 l4 c1 c2 c3 hcell
   refine c0a 1 7 rfl rfl (by kernel_rfl) (fun K hK => ?_) (fun K hK => ?_)
   ·skip
    have hc5 := hBk.out.cell 5 (.slice q k d) rfl
    go_simp
    refine hK.out _ _ hHeld (fun hHeld => ?_)
    clear hK K hc5
    try simp only [Act.put, sA, sZ, sS]
    refine sL 7 rfl fun K hK => ?_
    go_simp
    refine (a0y _ (sub b i 4) n1 (by rw [a0k (by omega)]; omega) _ (Hi (a0c (hHeld.rangeAt hrb.out (fun f => f)) hbc'.out i 4 (by omega))) hn1').mono ?_
    rintro e Wa ⟨rfl, rfl⟩
    go_wp2_with fail
    refine hK.out _ _ hHeld (fun hHeld => ?_)
    clear hK K
    try simp only [Act.put, sA, sZ, sS]
    refine tk 8 rfl ?_
    refine sL 15 rfl fun K hK => ?_
    go_simp
    refine (a0y _ (sub b (i + 4) 4) n2 (by rw [a0k (by omega)]; omega) _ (Hi (a0c (hHeld.rangeAt hrb.out (fun f => f)) hbc'.out (i + 4) 4 (by omega))) hn2').mono ?_
    rintro e Wa ⟨rfl, rfl⟩
    go_wp2_with fail
    refine hK.out _ _ hHeld (fun hHeld => ?_)
    clear hK K
    try simp only [Act.put, sA, sZ, sS]
    refine tk 16 rfl ?_
    refine sL 29 rfl fun K hK => ?_
    go_simp
    refine (a0y _ (sub b (i + 10) 2) n3 (by rw [a0k (by omega)]; omega) _ (Hi (a0c (hHeld.rangeAt hrb.out (fun f => f)) hbc'.out (i + 10) 2 (by omega))) hn3').mono ?_
    rintro e Wa ⟨rfl, rfl⟩
    go_wp2_with fail
    refine hK.out _ _ hHeld (fun hHeld => ?_)
    clear hK K
    try simp only [Act.put, sA, sZ, sS]
    refine tk 30 rfl ?_
    refine sL 31 rfl fun K hK => ?_
    go_simp
    refine hK.out _ _ (hHeld.alloc _) (fun hHeld => ?_)
    clear hK K
    try simp only [Act.put, sA, sZ, sS]
    have hka : a02 (fun _ => False) W0 (W0.alloc (.cells #[.int .u32 (n1 : Nat), .int .u32 (n2 : Nat), .int .i64 (ty : Nat), .int .i64 (n3 : Nat)] 107)) := (a02.refl _ _).alloc _
    have hnr : Hid ((W0.alloc (.cells #[.int .u32 (n1 : Nat), .int .u32 (n2 : Nat), .int .i64 (ty : Nat), .int .i64 (n3 : Nat)] 107)).rangeAt W0.heap.size 0 [.int .u32 (n1 : Nat), .int .u32 (n2 : Nat), .int .i64 (ty : Nat), .int .i64 (n3 : Nat)]) := Hi (a0o W0 _ 107)
    have hBk := Hi (hBk.out.keep hka (fun f => f)); have hOn := Hi (hOn.out.keep hka (fun _ _ f => f)); have hKw := Hi (hKw.out.alloc (.cells #[.int .u32 (n1 : Nat), .int .u32 (n2 : Nat), .int .i64 (ty : Nat), .int .i64 (n3 : Nat)] 107))
    obtain ⟨nb, hnb⟩ : ∃ nb, nb = W0.heap.size := ⟨_, rfl⟩
    obtain ⟨W0s, hW0s⟩ : ∃ Wz, Wz = W0.alloc (.cells #[.int .u32 (n1 : Nat), .int .u32 (n2 : Nat), .int .i64 (ty : Nat), .int .i64 (n3 : Nat)] 107) := ⟨_, rfl⟩
    rw [← hW0s] at hBk hOn hnr hHeld hKw ⊢
    rw [← hnb] at hnr ⊢
    clear hka hnb hW0s
    refine sL 32 rfl fun K hK => ?_
    rw [if_pos (by rfl)]
    refine d07 (.tmp 60) (.tmp 90) 78 rfl ii Try.underlying78 hii hiz hisz hiby W3 _ k (d0e (b.drop 4) k) (c0l _ _) rfl hOn.out ⟨nb, 0, none⟩ rfl ⟨n1, n2, (ty : Nat), (n3 : Nat)⟩ (fun j u hu => by rw [Addr.add_mid]; exact hnr.out j u hu) (by have := hik'.out; omega) ?_
    intro q2 d2 w' hO2 hG2
    refine hK.out _ _ (hHeld.trans' hG2.k (fun i e => .inr (Nat.le_trans hsz3.out (hOn.out.2.1 i e)))) (fun hHeld => ?_)
    clear hK K
    try simp only [Act.put, sA, sZ, sS]
    have hKw := Hi (hKw.out.trans' hG2.k (fun i e => .inr (hOn.out.2.1 i e)))
    have hBk := Hi (hBk.out.keep hG2.k (fun e => hOn.out.ne_blkR hBk.out B e rfl))
    have hc5 := hBk.out.cell 5 (.slice q k d) rfl
    have hf5 := hBk.out.frozen 5
    have hs5 : a02 (fun i => i = B) w' (w'.setCell ⟨B, 5, none⟩ (.slice q2 (k + 1) d2)) := (a02.refl (fun i => i = B) w').setCell (p := ⟨B, 5, none⟩) (.inl rfl) _
    have hO2' := Hi (hO2.keep hs5 (fun i e h => hO2.ne_blkR hBk.out i e h))
    clear hO2 hG2 hOn
    refine tk 33 rfl ?_
    refine sL 34 rfl fun K hK => ?_
    go_simp
    refine hK.out _ _ ((hHeld.setCell (p := ⟨B, 5, none⟩) (.inr (Nat.le_of_lt hlt.out)) _)) (fun hHeld => ?_)
    clear hK K
    try simp only [Act.put, sA, sZ, sS]
    refine wpAnyH_done (by kernel_rfl) (NoPanic.normal ?_) _
    clear hc5 hf5
    have hnew : Hid (a06 (w'.setCell ⟨B, 5, none⟩ (.slice q2 (k + 1) d2)) B 80 (La' age 1 lid adv seq (.slice q2 (k + 1) d2) 0 Sn 0) ∧ c0z W3 (w'.setCell ⟨B, 5, none⟩ (.slice q2 (k + 1) d2)) (.slice q2 (k + 1) d2) (d0e (b.drop 4) (k + 1)) ∧ a02 (fun i => i = B) W3 (w'.setCell ⟨B, 5, none⟩ (.slice q2 (k + 1) d2))) := Hi ⟨hBk.out.put 5 _, by rw [hrs.out]; exact hO2'.out, hKw.out.trans hs5⟩
    clear hBk hO2' hHeld hKw hs5
    go_wp2_with fail
    have hik2 := hik'.out
    exact ⟨⟨k + 1, i + 12, q2, d2, by omega, by omega, by go_num, hnew⟩, by simp [intOf]; omega⟩
   ·skip
    go_simp
    refine (a0y _ (sub b i 4) n1 (by rw [a0k (by omega)]; omega) _ (Hi (a0c (hHeld.rangeAt hrb.out (fun f => f)) hbc'.out i 4 (by omega))) hn1').mono ?_
    rintro e Wa ⟨rfl, rfl⟩
    go_wp2_with fail
    refine hK.out _ _ hHeld (fun hHeld => ?_)
    clear hK K
    try simp only [Act.put, sA, sZ, sS]
    refine tk 8 rfl ?_
    refine c0a 1 15 rfl rfl (by kernel_rfl) (fun K hK => ?_) (fun K hK => ?_)
    ·skip
     have hc5 := hBk.out.cell 5 (.slice q k d) rfl
     go_simp
     refine hK.out _ _ hHeld (fun hHeld => ?_)
     clear hK K hc5
     try simp only [Act.put, sA, sZ, sS]
     refine sL 15 rfl fun K hK => ?_
     go_simp
     refine (a0y _ (sub b (i + 4) 4) n2 (by rw [a0k (by omega)]; omega) _ (Hi (a0c (hHeld.rangeAt hrb.out (fun f => f)) hbc'.out (i + 4) 4 (by omega))) hn2').mono ?_
     rintro e Wa ⟨rfl, rfl⟩
     go_wp2_with fail
     refine hK.out _ _ hHeld (fun hHeld => ?_)
     clear hK K
     try simp only [Act.put, sA, sZ, sS]
     refine tk 16 rfl ?_
     refine sL 29 rfl fun K hK => ?_
     go_simp
     refine (a0y _ (sub b (i + 10) 2) n3 (by rw [a0k (by omega)]; omega) _ (Hi (a0c (hHeld.rangeAt hrb.out (fun f => f)) hbc'.out (i + 10) 2 (by omega))) hn3').mono ?_
     rintro e Wa ⟨rfl, rfl⟩
     go_wp2_with fail
     refine hK.out _ _ hHeld (fun hHeld => ?_)
     clear hK K
     try simp only [Act.put, sA, sZ, sS]
     refine tk 30 rfl ?_
     refine sL 31 rfl fun K hK => ?_
     go_simp
     refine hK.out _ _ (hHeld.alloc _) (fun hHeld => ?_)
     clear hK K
     try simp only [Act.put, sA, sZ, sS]
     have hka : a02 (fun _ => False) W0 (W0.alloc (.cells #[.int .u32 (n1 : Nat), .int .u32 (n2 : Nat), .int .i64 (ty : Nat), .int .i64 (n3 : Nat)] 107)) := (a02.refl _ _).alloc _
     have hnr : Hid ((W0.alloc (.cells #[.int .u32 (n1 : Nat), .int .u32 (n2 : Nat), .int .i64 (ty : Nat), .int .i64 (n3 : Nat)] 107)).rangeAt W0.heap.size 0 [.int .u32 (n1 : Nat), .int .u32 (n2 : Nat), .int .i64 (ty : Nat), .int .i64 (n3 : Nat)]) := Hi (a0o W0 _ 107)
     have hBk := Hi (hBk.out.keep hka (fun f => f)); have hOn := Hi (hOn.out.keep hka (fun _ _ f => f)); have hKw := Hi (hKw.out.alloc (.cells #[.int .u32 (n1 : Nat), .int .u32 (n2 : Nat), .int .i64 (ty : Nat), .int .i64 (n3 : Nat)] 107))
     obtain ⟨nb, hnb⟩ : ∃ nb, nb = W0.heap.size := ⟨_, rfl⟩
     obtain ⟨W0s, hW0s⟩ : ∃ Wz, Wz = W0.alloc (.cells #[.int .u32 (n1 : Nat), .int .u32 (n2 : Nat), .int .i64 (ty : Nat), .int .i64 (n3 : Nat)] 107) := ⟨_, rfl⟩
     rw [← hW0s] at hBk hOn hnr hHeld hKw ⊢
     rw [← hnb] at hnr ⊢
     clear hka hnb hW0s
     refine sL 32 rfl fun K hK => ?_
     rw [if_pos (by rfl)]
     refine d07 (.tmp 60) (.tmp 90) 78 rfl ii Try.underlying78 hii hiz hisz hiby W3 _ k (d0e (b.drop 4) k) (c0l _ _) rfl hOn.out ⟨nb, 0, none⟩ rfl ⟨n1, n2, (ty : Nat), (n3 : Nat)⟩ (fun j u hu => by rw [Addr.add_mid]; exact hnr.out j u hu) (by have := hik'.out; omega) ?_
     intro q2 d2 w' hO2 hG2
     refine hK.out _ _ (hHeld.trans' hG2.k (fun i e => .inr (Nat.le_trans hsz3.out (hOn.out.2.1 i e)))) (fun hHeld => ?_)
     clear hK K
     try simp only [Act.put, sA, sZ, sS]
     have hKw := Hi (hKw.out.trans' hG2.k (fun i e => .inr (hOn.out.2.1 i e)))
     have hBk := Hi (hBk.out.keep hG2.k (fun e => hOn.out.ne_blkR hBk.out B e rfl))
     have hc5 := hBk.out.cell 5 (.slice q k d) rfl
     have hf5 := hBk.out.frozen 5
     have hs5 : a02 (fun i => i = B) w' (w'.setCell ⟨B, 5, none⟩ (.slice q2 (k + 1) d2)) := (a02.refl (fun i => i = B) w').setCell (p := ⟨B, 5, none⟩) (.inl rfl) _
     have hO2' := Hi (hO2.keep hs5 (fun i e h => hO2.ne_blkR hBk.out i e h))
     clear hO2 hG2 hOn
     refine tk 33 rfl ?_
     refine sL 34 rfl fun K hK => ?_
     go_simp
     refine hK.out _ _ ((hHeld.setCell (p := ⟨B, 5, none⟩) (.inr (Nat.le_of_lt hlt.out)) _)) (fun hHeld => ?_)
     clear hK K
     try simp only [Act.put, sA, sZ, sS]
     refine wpAnyH_done (by kernel_rfl) (NoPanic.normal ?_) _
     clear hc5 hf5
     have hnew : Hid (a06 (w'.setCell ⟨B, 5, none⟩ (.slice q2 (k + 1) d2)) B 80 (La' age 1 lid adv seq (.slice q2 (k + 1) d2) 0 Sn 0) ∧ c0z W3 (w'.setCell ⟨B, 5, none⟩ (.slice q2 (k + 1) d2)) (.slice q2 (k + 1) d2) (d0e (b.drop 4) (k + 1)) ∧ a02 (fun i => i = B) W3 (w'.setCell ⟨B, 5, none⟩ (.slice q2 (k + 1) d2))) := Hi ⟨hBk.out.put 5 _, by rw [hrs.out]; exact hO2'.out, hKw.out.trans hs5⟩
     clear hBk hO2' hHeld hKw hs5
     go_wp2_with fail
     have hik2 := hik'.out
     exact ⟨⟨k + 1, i + 12, q2, d2, by omega, by omega, by go_num, hnew⟩, by simp [intOf]; omega⟩
    ·skip
     go_simp
     refine (a0y _ (sub b (i + 4) 4) n2 (by rw [a0k (by omega)]; omega) _ (Hi (a0c (hHeld.rangeAt hrb.out (fun f => f)) hbc'.out (i + 4) 4 (by omega))) hn2').mono ?_
     rintro e Wa ⟨rfl, rfl⟩
     go_wp2_with fail
     refine hK.out _ _ hHeld (fun hHeld => ?_)
     clear hK K
     try simp only [Act.put, sA, sZ, sS]
     refine tk 16 rfl ?_
     refine c0a 1 29 rfl rfl (by kernel_rfl) (fun K hK => ?_) (fun K hK => ?_)
     ·skip
      have hc5 := hBk.out.cell 5 (.slice q k d) rfl
      go_simp
      refine hK.out _ _ hHeld (fun hHeld => ?_)
      clear hK K hc5
      try simp only [Act.put, sA, sZ, sS]
      refine sL 29 rfl fun K hK => ?_
      go_simp
      refine (a0y _ (sub b (i + 10) 2) n3 (by rw [a0k (by omega)]; omega) _ (Hi (a0c (hHeld.rangeAt hrb.out (fun f => f)) hbc'.out (i + 10) 2 (by omega))) hn3').mono ?_
      rintro e Wa ⟨rfl, rfl⟩
      go_wp2_with fail
      refine hK.out _ _ hHeld (fun hHeld => ?_)
      clear hK K
      try simp only [Act.put, sA, sZ, sS]
      refine tk 30 rfl ?_
      refine sL 31 rfl fun K hK => ?_
      go_simp
      refine hK.out _ _ (hHeld.alloc _) (fun hHeld => ?_)
      clear hK K
      try simp only [Act.put, sA, sZ, sS]
      have hka : a02 (fun _ => False) W0 (W0.alloc (.cells #[.int .u32 (n1 : Nat), .int .u32 (n2 : Nat), .int .i64 (ty : Nat), .int .i64 (n3 : Nat)] 107)) := (a02.refl _ _).alloc _
      have hnr : Hid ((W0.alloc (.cells #[.int .u32 (n1 : Nat), .int .u32 (n2 : Nat), .int .i64 (ty : Nat), .int .i64 (n3 : Nat)] 107)).rangeAt W0.heap.size 0 [.int .u32 (n1 : Nat), .int .u32 (n2 : Nat), .int .i64 (ty : Nat), .int .i64 (n3 : Nat)]) := Hi (a0o W0 _ 107)
      have hBk := Hi (hBk.out.keep hka (fun f => f)); have hOn := Hi (hOn.out.keep hka (fun _ _ f => f)); have hKw := Hi (hKw.out.alloc (.cells #[.int .u32 (n1 : Nat), .int .u32 (n2 : Nat), .int .i64 (ty : Nat), .int .i64 (n3 : Nat)] 107))
      obtain ⟨nb, hnb⟩ : ∃ nb, nb = W0.heap.size := ⟨_, rfl⟩
      obtain ⟨W0s, hW0s⟩ : ∃ Wz, Wz = W0.alloc (.cells #[.int .u32 (n1 : Nat), .int .u32 (n2 : Nat), .int .i64 (ty : Nat), .int .i64 (n3 : Nat)] 107) := ⟨_, rfl⟩
      rw [← hW0s] at hBk hOn hnr hHeld hKw ⊢
      rw [← hnb] at hnr ⊢
      clear hka hnb hW0s
      refine sL 32 rfl fun K hK => ?_
      rw [if_pos (by rfl)]
      refine d07 (.tmp 60) (.tmp 90) 78 rfl ii Try.underlying78 hii hiz hisz hiby W3 _ k (d0e (b.drop 4) k) (c0l _ _) rfl hOn.out ⟨nb, 0, none⟩ rfl ⟨n1, n2, (ty : Nat), (n3 : Nat)⟩ (fun j u hu => by rw [Addr.add_mid]; exact hnr.out j u hu) (by have := hik'.out; omega) ?_
      intro q2 d2 w' hO2 hG2
      refine hK.out _ _ (hHeld.trans' hG2.k (fun i e => .inr (Nat.le_trans hsz3.out (hOn.out.2.1 i e)))) (fun hHeld => ?_)
      clear hK K
      try simp only [Act.put, sA, sZ, sS]
      have hKw := Hi (hKw.out.trans' hG2.k (fun i e => .inr (hOn.out.2.1 i e)))
      have hBk := Hi (hBk.out.keep hG2.k (fun e => hOn.out.ne_blkR hBk.out B e rfl))
      have hc5 := hBk.out.cell 5 (.slice q k d) rfl
      have hf5 := hBk.out.frozen 5
      have hs5 : a02 (fun i => i = B) w' (w'.setCell ⟨B, 5, none⟩ (.slice q2 (k + 1) d2)) := (a02.refl (fun i => i = B) w').setCell (p := ⟨B, 5, none⟩) (.inl rfl) _
      have hO2' := Hi (hO2.keep hs5 (fun i e h => hO2.ne_blkR hBk.out i e h))
      clear hO2 hG2 hOn
      refine tk 33 rfl ?_
      refine sL 34 rfl fun K hK => ?_
      go_simp
      refine hK.out _ _ ((hHeld.setCell (p := ⟨B, 5, none⟩) (.inr (Nat.le_of_lt hlt.out)) _)) (fun hHeld => ?_)
      clear hK K
      try simp only [Act.put, sA, sZ, sS]
      refine wpAnyH_done (by kernel_rfl) (NoPanic.normal ?_) _
      clear hc5 hf5
      have hnew : Hid (a06 (w'.setCell ⟨B, 5, none⟩ (.slice q2 (k + 1) d2)) B 80 (La' age 1 lid adv seq (.slice q2 (k + 1) d2) 0 Sn 0) ∧ c0z W3 (w'.setCell ⟨B, 5, none⟩ (.slice q2 (k + 1) d2)) (.slice q2 (k + 1) d2) (d0e (b.drop 4) (k + 1)) ∧ a02 (fun i => i = B) W3 (w'.setCell ⟨B, 5, none⟩ (.slice q2 (k + 1) d2))) := Hi ⟨hBk.out.put 5 _, by rw [hrs.out]; exact hO2'.out, hKw.out.trans hs5⟩
      clear hBk hO2' hHeld hKw hs5
      go_wp2_with fail
      have hik2 := hik'.out
      exact ⟨⟨k + 1, i + 12, q2, d2, by omega, by omega, by go_num, hnew⟩, by simp [intOf]; omega⟩
     ·skip
      go_simp
      refine (a0y _ (sub b (i + 10) 2) n3 (by rw [a0k (by omega)]; omega) _ (Hi (a0c (hHeld.rangeAt hrb.out (fun f => f)) hbc'.out (i + 10) 2 (by omega))) hn3').mono ?_
      rintro e Wa ⟨rfl, rfl⟩
      go_wp2_with fail
      refine hK.out _ _ hHeld (fun hHeld => ?_)
      clear hK K
      try simp only [Act.put, sA, sZ, sS]
      refine tk 30 rfl ?_
      refine c0a 1 31 rfl rfl (by kernel_rfl) (fun K hK => ?_) (fun K hK => ?_)
      ·skip
       have hc5 := hBk.out.cell 5 (.slice q k d) rfl
       go_simp
       refine hK.out _ _ hHeld (fun hHeld => ?_)
       clear hK K hc5
       try simp only [Act.put, sA, sZ, sS]
       refine sL 31 rfl fun K hK => ?_
       go_simp
       refine hK.out _ _ (hHeld.alloc _) (fun hHeld => ?_)
       clear hK K
       try simp only [Act.put, sA, sZ, sS]
       have hka : a02 (fun _ => False) W0 (W0.alloc (.cells #[.int .u32 (n1 : Nat), .int .u32 (n2 : Nat), .int .i64 (ty : Nat), .int .i64 (n3 : Nat)] 107)) := (a02.refl _ _).alloc _
       have hnr : Hid ((W0.alloc (.cells #[.int .u32 (n1 : Nat), .int .u32 (n2 : Nat), .int .i64 (ty : Nat), .int .i64 (n3 : Nat)] 107)).rangeAt W0.heap.size 0 [.int .u32 (n1 : Nat), .int .u32 (n2 : Nat), .int .i64 (ty : Nat), .int .i64 (n3 : Nat)]) := Hi (a0o W0 _ 107)
       have hBk := Hi (hBk.out.keep hka (fun f => f)); have hOn := Hi (hOn.out.keep hka (fun _ _ f => f)); have hKw := Hi (hKw.out.alloc (.cells #[.int .u32 (n1 : Nat), .int .u32 (n2 : Nat), .int .i64 (ty : Nat), .int .i64 (n3 : Nat)] 107))
       obtain ⟨nb, hnb⟩ : ∃ nb, nb = W0.heap.size := ⟨_, rfl⟩
       obtain ⟨W0s, hW0s⟩ : ∃ Wz, Wz = W0.alloc (.cells #[.int .u32 (n1 : Nat), .int .u32 (n2 : Nat), .int .i64 (ty : Nat), .int .i64 (n3 : Nat)] 107) := ⟨_, rfl⟩
       rw [← hW0s] at hBk hOn hnr hHeld hKw ⊢
       rw [← hnb] at hnr ⊢
       clear hka hnb hW0s
       refine sL 32 rfl fun K hK => ?_
       rw [if_pos (by rfl)]
       refine d07 (.tmp 60) (.tmp 90) 78 rfl ii Try.underlying78 hii hiz hisz hiby W3 _ k (d0e (b.drop 4) k) (c0l _ _) rfl hOn.out ⟨nb, 0, none⟩ rfl ⟨n1, n2, (ty : Nat), (n3 : Nat)⟩ (fun j u hu => by rw [Addr.add_mid]; exact hnr.out j u hu) (by have := hik'.out; omega) ?_
       intro q2 d2 w' hO2 hG2
       refine hK.out _ _ (hHeld.trans' hG2.k (fun i e => .inr (Nat.le_trans hsz3.out (hOn.out.2.1 i e)))) (fun hHeld => ?_)
       clear hK K
       try simp only [Act.put, sA, sZ, sS]
       have hKw := Hi (hKw.out.trans' hG2.k (fun i e => .inr (hOn.out.2.1 i e)))
       have hBk := Hi (hBk.out.keep hG2.k (fun e => hOn.out.ne_blkR hBk.out B e rfl))
       have hc5 := hBk.out.cell 5 (.slice q k d) rfl
       have hf5 := hBk.out.frozen 5
       have hs5 : a02 (fun i => i = B) w' (w'.setCell ⟨B, 5, none⟩ (.slice q2 (k + 1) d2)) := (a02.refl (fun i => i = B) w').setCell (p := ⟨B, 5, none⟩) (.inl rfl) _
       have hO2' := Hi (hO2.keep hs5 (fun i e h => hO2.ne_blkR hBk.out i e h))
       clear hO2 hG2 hOn
       refine tk 33 rfl ?_
       refine sL 34 rfl fun K hK => ?_
       go_simp
       refine hK.out _ _ ((hHeld.setCell (p := ⟨B, 5, none⟩) (.inr (Nat.le_of_lt hlt.out)) _)) (fun hHeld => ?_)
       clear hK K
       try simp only [Act.put, sA, sZ, sS]
       refine wpAnyH_done (by kernel_rfl) (NoPanic.normal ?_) _
       clear hc5 hf5
       have hnew : Hid (a06 (w'.setCell ⟨B, 5, none⟩ (.slice q2 (k + 1) d2)) B 80 (La' age 1 lid adv seq (.slice q2 (k + 1) d2) 0 Sn 0) ∧ c0z W3 (w'.setCell ⟨B, 5, none⟩ (.slice q2 (k + 1) d2)) (.slice q2 (k + 1) d2) (d0e (b.drop 4) (k + 1)) ∧ a02 (fun i => i = B) W3 (w'.setCell ⟨B, 5, none⟩ (.slice q2 (k + 1) d2))) := Hi ⟨hBk.out.put 5 _, by rw [hrs.out]; exact hO2'.out, hKw.out.trans hs5⟩
       clear hBk hO2' hHeld hKw hs5
       go_wp2_with fail
       have hik2 := hik'.out
       exact ⟨⟨k + 1, i + 12, q2, d2, by omega, by omega, by go_num, hnew⟩, by simp [intOf]; omega⟩
      ·skip
       go_simp
       refine hK.out _ _ (hHeld.alloc _) (fun hHeld => ?_)
       clear hK K
       try simp only [Act.put, sA, sZ, sS]
       have hka : a02 (fun _ => False) W0 (W0.alloc (.cells #[.int .u32 (n1 : Nat), .int .u32 (n2 : Nat), .int .i64 (ty : Nat), .int .i64 (n3 : Nat)] 107)) := (a02.refl _ _).alloc _
       have hnr : Hid ((W0.alloc (.cells #[.int .u32 (n1 : Nat), .int .u32 (n2 : Nat), .int .i64 (ty : Nat), .int .i64 (n3 : Nat)] 107)).rangeAt W0.heap.size 0 [.int .u32 (n1 : Nat), .int .u32 (n2 : Nat), .int .i64 (ty : Nat), .int .i64 (n3 : Nat)]) := Hi (a0o W0 _ 107)
       have hBk := Hi (hBk.out.keep hka (fun f => f)); have hOn := Hi (hOn.out.keep hka (fun _ _ f => f)); have hKw := Hi (hKw.out.alloc (.cells #[.int .u32 (n1 : Nat), .int .u32 (n2 : Nat), .int .i64 (ty : Nat), .int .i64 (n3 : Nat)] 107))
       obtain ⟨nb, hnb⟩ : ∃ nb, nb = W0.heap.size := ⟨_, rfl⟩
       obtain ⟨W0s, hW0s⟩ : ∃ Wz, Wz = W0.alloc (.cells #[.int .u32 (n1 : Nat), .int .u32 (n2 : Nat), .int .i64 (ty : Nat), .int .i64 (n3 : Nat)] 107) := ⟨_, rfl⟩
       rw [← hW0s] at hBk hOn hnr hHeld hKw ⊢
       rw [← hnb] at hnr ⊢
       clear hka hnb hW0s
       refine sL 1 rfl fun K hK => ?_
       have hc5 := hBk.out.cell 5 (.slice q k d) rfl
       go_simp
       refine hK.out _ _ hHeld (fun hHeld => ?_)
       clear hK K hc5
       try simp only [Act.put, sA, sZ, sS]
       refine sL 32 rfl fun K hK => ?_
       rw [if_pos (by rfl)]
       refine d07 (.tmp 60) (.tmp 90) 78 rfl ii Try.underlying78 hii hiz hisz hiby W3 _ k (d0e (b.drop 4) k) (c0l _ _) rfl hOn.out ⟨nb, 0, none⟩ rfl ⟨n1, n2, (ty : Nat), (n3 : Nat)⟩ (fun j u hu => by rw [Addr.add_mid]; exact hnr.out j u hu) (by have := hik'.out; omega) ?_
       intro q2 d2 w' hO2 hG2
       refine hK.out _ _ (hHeld.trans' hG2.k (fun i e => .inr (Nat.le_trans hsz3.out (hOn.out.2.1 i e)))) (fun hHeld => ?_)
       clear hK K
       try simp only [Act.put, sA, sZ, sS]
       have hKw := Hi (hKw.out.trans' hG2.k (fun i e => .inr (hOn.out.2.1 i e)))
       have hBk := Hi (hBk.out.keep hG2.k (fun e => hOn.out.ne_blkR hBk.out B e rfl))
       have hc5 := hBk.out.cell 5 (.slice q k d) rfl
       have hf5 := hBk.out.frozen 5
       have hs5 : a02 (fun i => i = B) w' (w'.setCell ⟨B, 5, none⟩ (.slice q2 (k + 1) d2)) := (a02.refl (fun i => i = B) w').setCell (p := ⟨B, 5, none⟩) (.inl rfl) _
       have hO2' := Hi (hO2.keep hs5 (fun i e h => hO2.ne_blkR hBk.out i e h))
       clear hO2 hG2 hOn
       refine tk 33 rfl ?_
       refine sL 34 rfl fun K hK => ?_
       go_simp
       refine hK.out _ _ ((hHeld.setCell (p := ⟨B, 5, none⟩) (.inr (Nat.le_of_lt hlt.out)) _)) (fun hHeld => ?_)
       clear hK K
       try simp only [Act.put, sA, sZ, sS]
       refine wpAnyH_done (by kernel_rfl) (NoPanic.normal ?_) _
       clear hc5 hf5
       have hnew : Hid (a06 (w'.setCell ⟨B, 5, none⟩ (.slice q2 (k + 1) d2)) B 80 (La' age 1 lid adv seq (.slice q2 (k + 1) d2) 0 Sn 0) ∧ c0z W3 (w'.setCell ⟨B, 5, none⟩ (.slice q2 (k + 1) d2)) (.slice q2 (k + 1) d2) (d0e (b.drop 4) (k + 1)) ∧ a02 (fun i => i = B) W3 (w'.setCell ⟨B, 5, none⟩ (.slice q2 (k + 1) d2))) := Hi ⟨hBk.out.put 5 _, by rw [hrs.out]; exact hO2'.out, hKw.out.trans hs5⟩
       clear hBk hO2' hHeld hKw hs5
       go_wp2_with fail
       have hik2 := hik'.out
       exact ⟨⟨k + 1, i + 12, q2, d2, by omega, by omega, by go_num, hnew⟩, by simp [intOf]; omega⟩
  ·have hkm : k = (b.length - 4) / 12 := by rw [hblen'.out]; omega
   have hgl2 : Hid (getL x = f07 ⟨age, 1, lid, adv, seq, d0e (b.drop 4) k, 0, [], 0⟩ x) := Hi (by rw [hgl.out, ← hkm])
   have hkb : k ≤ 1000000 := by omega
   obtain ⟨rs, hrs⟩ : ∃ rs, d0e (b.drop 4) k = rs := ⟨_, rfl⟩
   have hrl : rs.length = k := by rw [← hrs, c0l]
   have hlok : Hid (∀ l ∈ rs, l.ok) := Hi (by rw [← hrs]; exact n0u _ _)
   rw [hrs] at hgl2 hinv
   clear hgl hrs hkm
   subst hrl
   have hgl := hgl2
   have hB3 := Hi hinv.out.1
   have hR3 := Hi (hR3.out.keep hinv.out.2.2 (fun e => by have := hlt.out; omega))
   have hqo : Hid (∀ i, (Value.slice q rs.length d).ownBlock = some i → w.heap.size < i) := Hi (fun i e => by have h1 := hinv.out.2.1.2.1 i e; have h2 := lt_of_block hB0.out; have h3 := hlt.out; omega)
   have hk3 := Hi (hk3.out.trans' hinv.out.2.2 (fun i e => .inr (by rw [e]; exact Nat.le_of_lt hlt.out)))
   have hr3 := Hi (hk3.out.rangeAt hr.out (fun f => f))
   have hN3 : Hid (a0u wr (.slice none 0 0) []) := Hi (a0u.nil _)
   have hL3 := Hi hinv.out.2.1.at
   have hLk := hL3
   have hrb2 : ([] : List Nat).length ≤ 9223372036854775807 := by simp
   have hlb : rs.length ≤ 9223372036854775807 := by omega
   have hrok := Hi c0h
   have hlm : 0 < 4294967296 := by decide
   have hini : ¬ (i : Int) + 12 ≤ bl := by omega
   have f1 : IntKind.i64.wrap ((i : Int) + 12) = (i : Int) + 12 := IntWalk.i64_in _ (by omega)
   have hik' := Hi hik
   clear hinv hgl2 hik hin
   go_wp2_with ((with_reducible refine a09 139 ?_); refine wpList_load_mid rfl 80 (.tmp 5) rfl B 0 rfl (La' age 1 lid adv seq (.slice q rs.length d) 0 Sn 0) _ hB3.out.range Try.underlying80 rfl a0n ?_)
   cases hcan : canB ⟨age, 1, lid, adv, seq, rs, 0, [], 0⟩ with
   | false =>
    have hcan' := Hi hcan; clear hcan
    have hg' : Hid (getL x = (d0d, 3)) := Hi (by rw [hgl.out]; unfold f07; rw [if_neg (fun h => by rw [hcan'.out] at h; cases h.1)])
    refine (f0v age 1 seq 0 lid adv 0 rs [] q none d 0 _ hL3 hlb hrb2 hcan').mono ?_
    rintro e w4 ⟨rfl, k4⟩
    have hR4 := Hi (hR3.out.keep k4 (fun f => f)); have hk4 := Hi (hk3.out.trans k4)
    clear k4 hR3 hk3 hB3 hr3 hL3 hN3 hcan'
    go_wp2_with ((with_reducible refine a08 2 ?_); refine a05 rfl 80 (.tmp 2) (.tmp 152) rfl w.heap.size Zl rfl rfl (a06.there hR4.out 0 9 (Nat.le_refl 9)) a0n (a0z _ _ _ _ _ _ _ _ _ (a03 _ _ _) (a03 _ _ _)) ?_; intro w9 hr9 hs9)
    have e0 := a01 hr9.out 0 _ rfl
    have e1 := a01 hr9.out 1 _ rfl
    have e2 := a01 hr9.out 2 _ rfl
    have e3 := a01 hr9.out 3 _ rfl
    have e4 := a01 hr9.out 4 _ rfl
    have e5 := a01 hr9.out 5 _ rfl
    have e6 := a01 hr9.out 6 _ rfl
    have e7 := a01 hr9.out 7 _ rfl
    have e8 := a01 hr9.out 8 _ rfl
    refine bodyPost_ret (v := .tuple #[.agg Zl, .int .i64 3]) (by simp [results, Try.results33, go_sem, e0, e1, e2, e3, e4, e5, e6, e7, e8]) rfl ⟨⟨_, by rw [hg'.out], by rw [hg'.out]; exact LsaF.zero _ _⟩, hk4.out.trans' hs9.out (fun i e => .inr (by omega))⟩
   | true =>
    have hcan' := Hi hcan; clear hcan
    by_cases hp : putB ⟨age, 1, lid, adv, seq, rs, 0, [], 0⟩ = x
    ·skip
     refine (d0p age 1 seq 0 lid adv 0 rs [] q none d 0 _ hL3 hN3 hlok hrok hlid hladv hlm hcan').mono ?_
     rintro e w4 ⟨pY, cY, rfl, obY, k4⟩
     have hR4 := Hi (hR3.out.keep k4 (fun f => f)); have hk4 := Hi (hk3.out.trans k4); have hB4 := Hi (hB3.out.keep k4 (fun f => f)); have hr4 := Hi (k4.rangeAt hr3.out (fun f => f))
     have hg' : Hid (getL x = (⟨age, 1, lid, adv, seq, rs, 0, [], 0⟩, 0)) := Hi (by rw [hgl.out]; unfold f07; rw [if_pos ⟨hcan'.out, hp⟩])
     rw [hp] at obY ⊢
     have cv1 := c08 obY.bytes (by omega)
     have cv2 := f0h g o c x w4 hr4.out
     have hp' := Hi hp
     have k4' := Hi k4
     clear k4 hR3 hk3 hB3 hr3 hL3 hN3 hp obY
     go_wp2_with (first | ((with_reducible refine a09 153 ?_); refine wpList_load_mid rfl 80 (.tmp 5) rfl B 0 rfl (La' age 1 lid adv seq (.slice q rs.length d) 0 Sn 0) _ hB4.out.range Try.underlying80 rfl a0n ?_) | ((with_reducible refine a08 2 ?_); refine a05 rfl 80 (.tmp 2) (.tmp 153) rfl w.heap.size (La age 1 lid adv seq (.slice q rs.length d) 0 Sn 0) rfl rfl (a06.there hR4.out 0 9 (Nat.le_refl 9)) a0n (a0z _ _ _ _ _ _ _ _ _ (a03 _ _ _) (a03 _ _ _)) ?_; intro w9 hr9 hs9))
     have e0 := a01 hr9.out 0 _ rfl
     have e1 := a01 hr9.out 1 _ rfl
     have e2 := a01 hr9.out 2 _ rfl
     have e3 := a01 hr9.out 3 _ rfl
     have e4 := a01 hr9.out 4 _ rfl
     have e5 := a01 hr9.out 5 _ rfl
     have e6 := a01 hr9.out 6 _ rfl
     have e7 := a01 hr9.out 7 _ rfl
     have e8 := a01 hr9.out 8 _ rfl
     refine bodyPost_ret (v := .tuple #[.agg (La age 1 lid adv seq (.slice q rs.length d) 0 Sn 0), .int .i64 0]) (by simp [results, Try.results33, go_sem, e0, e1, e2, e3, e4, e5, e6, e7, e8]) rfl ⟨⟨_, by rw [hg'.out], by rw [hg'.out]; exact ⟨q, d, none, 0, rfl, ((hLk.out.keep k4'.out).keepF hs9.out (fun _ i e h => absurd h (by have := hqo.out i e; omega))), a0u.nil _, o04 hqo.out, b0n _⟩⟩, hk4.out.trans' hs9.out (fun i e => .inr (by omega))⟩
    ·skip
     refine (d0p age 1 seq 0 lid adv 0 rs [] q none d 0 _ hL3 hN3 hlok hrok hlid hladv hlm hcan').mono ?_
     rintro e w4 ⟨pY, cY, rfl, obY, k4⟩
     have hR4 := Hi (hR3.out.keep k4 (fun f => f)); have hk4 := Hi (hk3.out.trans k4); have hB4 := Hi (hB3.out.keep k4 (fun f => f)); have hr4 := Hi (k4.rangeAt hr3.out (fun f => f))
     have hg' : Hid (getL x = (d0d, 3)) := Hi (by rw [hgl.out]; unfold f07; rw [if_neg (fun h => hp h.2)])
     have h0P : 0 < (putB ⟨age, 1, lid, adv, seq, rs, 0, [], 0⟩).length := by rw [f0f]; omega
     obtain ⟨PX, hPX⟩ : ∃ PX, putB ⟨age, 1, lid, adv, seq, rs, 0, [], 0⟩ = PX := ⟨_, rfl⟩
     rw [hPX] at hp obY h0P ⊢
     have cv1 := c08 obY.bytes h0P
     have cv2 := f0h g o c x w4 hr4.out
     obtain ⟨S1, hS1⟩ : ∃ S : ByteArray, S = ⟨PX.toArray⟩ := ⟨_, rfl⟩
     obtain ⟨S2, hS2⟩ : ∃ S : ByteArray, S = ⟨x.toArray⟩ := ⟨_, rfl⟩
     rw [← hS1] at cv1
     rw [← hS2] at cv2
     have hne : (S1.toList == S2.toList) = false := by
      rw [Lib.toList_data, Lib.toList_data, hS1, hS2, beq_eq_false_iff_ne]
      exact fun e => hp e
     have hp' := Hi hp
     clear k4 hR3 hk3 hB3 hr3 hL3 hN3 hp obY hPX hS1 hS2 h0P hB4 hr4
     go_wp2_with ((with_reducible refine a08 2 ?_); refine a05 rfl 80 (.tmp 2) (.tmp 152) rfl w.heap.size Zl rfl rfl (a06.there hR4.out 0 9 (Nat.le_refl 9)) a0n (a0z _ _ _ _ _ _ _ _ _ (a03 _ _ _) (a03 _ _ _)) ?_; intro w9 hr9 hs9)
     have e0 := a01 hr9.out 0 _ rfl
     have e1 := a01 hr9.out 1 _ rfl
     have e2 := a01 hr9.out 2 _ rfl
     have e3 := a01 hr9.out 3 _ rfl
     have e4 := a01 hr9.out 4 _ rfl
     have e5 := a01 hr9.out 5 _ rfl
     have e6 := a01 hr9.out 6 _ rfl
     have e7 := a01 hr9.out 7 _ rfl
     have e8 := a01 hr9.out 8 _ rfl
     refine bodyPost_ret (v := .tuple #[.agg Zl, .int .i64 3]) (by simp [results, Try.results33, go_sem, e0, e1, e2, e3, e4, e5, e6, e7, e8]) rfl ⟨⟨_, by rw [hg'.out], by rw [hg'.out]; exact LsaF.zero _ _⟩, hk4.out.trans' hs9.out (fun i e => .inr (by omega))⟩
theorem o0l (sl : Value) (x : List UInt8) (hx : x.length ≤ 1000000) (w : World) (h : Hid (a0a w sl x)) : Calls Try.prog 33 #[sl] w (c05 x w) := by
 obtain ⟨p, c, rfl, -, hc, hb⟩ := h.out
 by_cases h20 : x.length < 20
 ·exact l0t p c x h20 w
 ·obtain ⟨g, o, rfl, hr⟩ := hb (by omega)
  cases hri : b0h (x.drop 2) with
  | false => exact p0w g o c x (by omega) hx hc w (Hi hr) (Hi hri)
  | true =>
   by_cases h16 : x[16]'(by omega) = 255
   ·exact p0v g o c x (by omega) hx hc w (Hi hr) (Hi hri) h16
   ·by_cases h17 : x[17]'(by omega) = 255
    ·exact p0u g o c x (by omega) hx hc w (Hi hr) (Hi hri) h16 h17
    ·cases hh : a0h x with
     | mk age type lid adv seq sum len =>
      obtain ⟨l1, l2⟩ := h0p x _ hh
      by_cases t1 : type = 1
      ·subst t1
       by_cases hs : x.length < 24
       ·exact p0s g o c x (by omega) hx hc age seq len lid adv sum w (Hi hr) (Hi hh) (Hi hri) h16 h17 hs
       ·exact r10Get_1 g o c x (by omega) hx hc age seq len lid adv sum w (Hi hr) (Hi hh) (Hi hri) h16 h17 (by omega) l1 l2
      ·by_cases t2 : type = 2
       ·subst t2
        by_cases hs : x.length < 24
        ·exact p0r g o c x (by omega) hx hc age seq len lid adv sum w (Hi hr) (Hi hh) (Hi hri) h16 h17 hs
        ·exact r10Get_2 g o c x (by omega) hx hc age seq len lid adv sum w (Hi hr) (Hi hh) (Hi hri) h16 h17 (by omega) l1 l2
       ·by_cases t3 : type = 3
        ·subst t3
         by_cases hs : x.length < 28
         ·exact p0q g o c x (by omega) hx hc age seq len lid adv sum w (Hi hr) (Hi hh) (Hi hri) h16 h17 hs
         ·exact r10Get_3 g o c x (by omega) hx hc age seq len lid adv sum w (Hi hr) (Hi hh) (Hi hri) h16 h17 (by omega) l1 l2
        ·exact r10Get_o g o c x (by omega) hx hc age type seq len lid adv sum w (Hi hr) (Hi hh) (Hi hri) h16 h17 t1 t2 t3
theorem p0t (sl : Value) (x : List UInt8) (m : LsaD) (e0 : Int) (hx : x.length ≤ 1000000) (w : World) (h : Hid (a0a w sl x)) (hm : Hid (getL x = (m, e0))) :
 Calls Try.prog 33 #[sl] w fun e w' => (∃ v, e = .returned (.tuple #[v, .int .i64 e0]) ∧ LsaF w w' v m) ∧ a02 (fun _ => False) w w' := by
 refine (o0l sl x hx w h).mono ?_
 rintro e w' ⟨⟨v, rfl, hV⟩, hk⟩
 rw [hm.out] at hV ⊢
 exact ⟨⟨v, rfl, hV⟩, hk⟩
end Go.Proofs.Ytmggbljkehclpaa
