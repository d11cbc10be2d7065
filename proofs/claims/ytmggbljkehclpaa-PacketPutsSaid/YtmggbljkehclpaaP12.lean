/- LQ LR PA PB -/
import Derived.Test.YtmggbljkehclpaaP11
set_option linter.unusedVariables false
set_option linter.unusedSimpArgs false
namespace Go.Proofs.Ytmggbljkehclpaa
open Go.RowKit
set_option maxRecDepth 100000 in
set_option maxHeartbeats 4000000 in
theorem lsGet_e (g o c : Nat) (x : List UInt8) (hx : 20 ≤ x.length) (hx2 : x.length ≤ 1000000) (hc : x.length ≤ c) (age type seq len : Int) (lid adv sum : Nat) (w : World) (hr : Hid (w.rangeAt g o (x.map bv))) (hh : Hid (a0f x = ⟨age, type, lid, adv, seq, sum, len⟩)) (hri : Hid (b0h (x.drop 2) = true)) (h16 : x[16]'(by omega) ≠ 255) (h17 : x[17]'(by omega) ≠ 255) (hlen : Hid (len = (x.length : Int))) (mage mtype mseq mcost : Int) (mid madv mmask : Nat) (mlinks : List b09) (mrouters : List Nat) (hm : Hid (c0o age type lid adv seq (x.drop 20) = ⟨mage, mtype, mid, madv, mseq, mlinks, mmask, mrouters, mcost⟩)) (hml : mlinks.length ≤ 1000000) (hmr : mrouters.length ≤ 1000000) (hlok : Hid (∀ l ∈ mlinks, l.ok)) (hrok : Hid (h0g mrouters)) (hid : mid < 4294967296) (hadv : madv < 4294967296) (hmk : mmask < 4294967296) (hcan : Hid (canB ⟨mage, mtype, mid, madv, mseq, mlinks, mmask, mrouters, mcost⟩ = true)) (heq : Hid ((putB ⟨mage, mtype, mid, madv, mseq, mlinks, mmask, mrouters, mcost⟩ == x) = false)) :
 Calls Try.prog 69 #[.slice (some ⟨g, o, none⟩) x.length c] w (c0g x w) := by
 have hnb : ¬ (b0h (x.drop 2) = false ∨ x.getD 16 0 = 255 ∨ x.getD 17 0 = 255) := by
  rw [List.getD_eq_getElem?_getD, List.getElem?_eq_getElem (by omega), List.getD_eq_getElem?_getD, List.getElem?_eq_getElem (by omega), hri.out]
  rintro (h | h | h)
  ·cases h
  ·exact h16 h
  ·exact h17 h
 have hg : getL x = (d0v, 3) := by
  unfold getL
  rw [if_neg (by omega), if_neg hnb, if_neg (by rw [hh.out]; simp [hlen.out]), if_neg]
  rintro ⟨_, h⟩
  rw [hh.out] at h
  unfold g0v at h
  rw [hm.out] at h
  have := heq.out
  rw [h] at this; simp at this
 clear hnb
 have hg' := Hi hg; clear hg
 have hR : Hid (a06 (w.alloc (.cells Zl 76)) w.heap.size 76 Zm) := Hi (a06.new w _ _)
 have hk : Hid (a03 (fun _ => False) w (w.alloc (.cells Zl 76))) := Hi ((a03.refl _ _).alloc _)
 have hsz : Hid (w.heap.size < (w.alloc (.cells Zl 76)).heap.size) := Hi (by simp)
 go_enter Try.func69, Try.ntmps69
 go_upto_region 1 with fail
 generalize w.alloc (.cells Zl 76) = w0 at hR hk hsz ⊢
 go_wp2_with fail
 refine (f0b g o c x hx (by omega) hc age type seq len lid adv sum _ (Hi (hk.out.rangeAt hr.out id)) hh).mono ?_
 rintro e w1 ⟨rfl, k1⟩
 have hszB : Hid (w.heap.size < w1.heap.size) := Hi (Nat.lt_of_lt_of_le hsz.out k1.size)
 have hH : Hid (a06 (w1.alloc (.cells (Ha age type lid adv seq sum len) 69)) w1.heap.size 69 (Ha' age type lid adv seq sum len)) := Hi (a06.new w1 _ _)
 have hR2 := Hi ((hR.out.keep k1 id).alloc (.cells (Ha age type lid adv seq sum len) 69))
 have hk2 := Hi ((hk.out.trans k1).alloc (.cells (Ha age type lid adv seq sum len) 69))
 clear k1 hR hk hsz
 go_upto_region 4 with ((with_reducible refine a09 4 ?_); refine a07 rfl 69 (.tmp 4) (.tmp 11) rfl _ (Ha age type lid adv seq sum len) rfl rfl c04 rfl (b0o _ _ _ _ _ _ _) ?_)
 generalize w1.alloc (.cells (Ha age type lid adv seq sum len) 69) = w2 at hR2 hk2 hH ⊢
 have hr2 := Hi (hk2.out.rangeAt hr.out id)
 have hb2 := Hi (b01 hr2.out hc 2 (by omega))
 rw [if_neg (by omega)] at hb2
 have c16 := a0k hr2.out 16 (by omega)
 have e16' : (((x[16]'(by omega)).toNat : Int) == 255) = false := by rw [beq_eq_false_iff_ne]; intro h; apply h16; apply UInt8.toNat_inj.mp; show (x[16]'(by omega)).toNat = 255; omega
 have c17 := a0k hr2.out 17 (by omega)
 have e17' : (((x[17]'(by omega)).toNat : Int) == 255) = false := by rw [beq_eq_false_iff_ne]; intro h; apply h17; apply UInt8.toNat_inj.mp; show (x[17]'(by omega)).toNat = 255; omega
 have hl1 : (len != (x.length : Int)) = false := by rw [hlen.out]; simp
 have b6 := hH.out.cell 6 (.int .i64 len) rfl
 clear h16 h17
 go_wp2_with fail
 refine (e0z _ (x.drop 2) true (by simp; omega) _ hb2 hri).mono ?_
 rintro e w' ⟨rfl, rfl⟩
 have c20 : (20 : Int) ≤ c := by omega
 have x20 : (20 : Int) ≤ x.length := by omega
 have htl0 := b01 hr2.out hc 20 (by omega)
 by_cases hck : c = 20
 ·subst hck
  rw [if_pos rfl, show x.length - 20 = 0 by omega] at htl0
  have htl := Hi htl0; clear htl0
  go_upto_region 8 with fail
  clear b6 c16 c17
  refine wp_region_noPanic ?_
  refine wp_region_held_drew (S := (fun W => a03 (fun _ => False) w2 W)) (by kernel_rfl) (((a03.refl (fun _ => False) _).drew)) (fun hHeld => ?_)
  refine tk 0 rfl ?_
  refine tkL 1 rfl (a02 (by rfl) 3 (.tmp 40) rfl w1.heap.size 0 rfl _ (fun _ s => (hH.out.keep s id).cell 0 (.int .i64 age) rfl) (fun w s => a0j w _ _ _ s)) ?_
  refine tk 2 rfl ?_
  refine tkL 3 rfl (yieldsIf_load_mid (by rfl) 67 (.tmp 42) rfl w1.heap.size 1 rfl [.int .i64 type, .int .u32 lid, .int .u32 adv] _ (fun _ s => c0d (hH.out.keep s id)) Try.underlying67 rfl f05) ?_
  refine tk 4 rfl ?_
  refine tkL 5 rfl (a02 (by rfl) 3 (.tmp 44) rfl w1.heap.size 4 rfl _ (fun _ s => (hH.out.keep s id).cell 4 (.int .i64 seq) rfl) (fun w s => a0j w _ _ _ s)) ?_
  refine tk 6 rfl ?_
  refine tk 7 rfl ?_
  refine tk 8 rfl ?_
  refine b0a [49, 6] [9, 10, 11] (fun L f W =>
   (L 9 = true → L 11 = false → LsaF w2 W (f 49) ⟨mage, mtype, mid, madv, mseq, mlinks, mmask, mrouters, mcost⟩) ∧
   (L 10 = true → L 11 = false → ∃ B, f 6 = .pointer (some ⟨B, 0, none⟩) ∧ w2.heap.size ≤ B ∧ a06 W B 76 Zm) ∧
   (L 9 = true → L 10 = true → L 11 = false → ∃ B, f 6 = .pointer (some ⟨B, 0, none⟩) ∧ LsaX w2.heap.size W (f 49) ⟨mage, mtype, mid, madv, mseq, mlinks, mmask, mrouters, mcost⟩ B) ∧
   (L 11 = true → L 9 = true ∧ L 10 = true ∧ l0j W (f 6) ⟨mage, mtype, mid, madv, mseq, mlinks, mmask, mrouters, mcost⟩ w2.heap.size)) (by kernel_rfl) (by kernel_rfl) (by kernel_rfl) (by kernel_rfl) (Nat.le_of_ble_eq_true (by kernel_rfl)) hHeld
   (fun L f h => ⟨fun e => absurd (h 9 (by decide)) (by rw [e]; decide), fun e => absurd (h 10 (by decide)) (by rw [e]; decide), fun e => absurd (h 9 (by decide)) (by rw [e]; decide), fun e => absurd (h 11 (by decide)) (by rw [e]; decide)⟩) ?_ ?_
  ·refine a0p.cons (d := 49) rfl rfl (by decide) ?_ (a0p.cons (d := 6) rfl rfl (by decide) ?_ (a0p.cons0 rfl rfl ?_ a0p.nil))
   ·intro L f W hG hS hL hdep K hK
    simp only [a0q, List.foldl_cons, List.foldl_nil, Act.put, sA, sZ, sS] at hK ⊢
    rw [if_pos (by rfl)]
    go_simp
    refine (h08 age type seq lid adv _ _ _ (x.drop 20) ⟨mage, mtype, mid, madv, mseq, mlinks, mmask, mrouters, mcost⟩ (by simp; omega) (by simp; omega) _ (Hi (htl.out.keep hS)) hm).mono ?_
    rintro e W' ⟨⟨v, rfl, hV⟩, hk'⟩
    go_wp2_with fail
    refine hK.out _ _ (hS.trans hk') ⟨fun _ _ => hV.older hS.size, fun e10 e11 => ?_, fun _ e10 e11 => ?_, fun e11 => absurd ((hG.2.2.2 e11).1.symm.trans hL) (by decide)⟩
    ·obtain ⟨B, h1, h2, h3⟩ := hG.2.1 e10 e11
     exact ⟨B, h1, h2, h3.keep hk' id⟩
    ·obtain ⟨B, h1, h2, h3⟩ := hG.2.1 e10 e11
     exact ⟨B, h1, hV.away (lt_of_block h3) hS.size⟩
   ·intro L f W hG hS hL hdep K hK
    simp only [a0q, List.foldl_cons, List.foldl_nil, Act.put, sA, sZ, sS] at hK ⊢
    rw [if_pos (by rfl)]
    go_simp
    have hk' : a03 (fun _ => False) W (W.alloc (.cells Zl 76)) := (a03.refl _ _).alloc _
    refine hK.out _ _ (hS.trans hk') ⟨fun e9 e11 => (hG.1 e9 e11).keep hk', fun _ _ => ⟨W.heap.size, rfl, hS.size, a06.new W _ _⟩, fun e9 _ e11 => ⟨W.heap.size, rfl, ((hG.1 e9 e11).away2).keep hk'⟩, fun e11 => absurd ((hG.2.2.2 e11).2.1.symm.trans hL) (by decide)⟩
   ·intro L f W hG hS hL hdep K hK
    simp only [a0q, List.foldl_cons, List.foldl_nil, Act.put, sA, sZ, sS] at hK ⊢
    rw [if_pos (by rfl)]
    have d9 := hdep ⟨9, .data⟩ (by simp) rfl (by decide)
    have d10 := hdep ⟨10, .data⟩ (by simp) rfl (by decide)
    obtain ⟨B, h6, hlo, hblk⟩ := hG.2.1 d10 hL
    obtain ⟨B', h6', p5, c5, p7, c7, h49, hl5, hn7, ha5, ha7, hf5, hf7⟩ := hG.2.2.1 d9 d10 hL
    rw [h6] at h6'; injection h6' with h6'; injection h6' with h6'; injection h6' with h6'; subst h6'
    refine wp_store_mid 76 (.tmp 6) (.tmp 49) rfl B 0 (La mage mtype mid madv mseq (.slice p5 mlinks.length c5) mmask (.slice p7 mrouters.length c7) mcost) h6 h49 (hblk.there 0 9 (Nat.le_refl 9)) b05 (a0y _ _ _ _ _ _ _ _ _ (a04 _ _ _) (a04 _ _ _)) ?_
    have hs9 : a03 (fun i => i = B) W (W.setCells B 0 (La' mage mtype mid madv mseq (.slice p5 mlinks.length c5) mmask (.slice p7 mrouters.length c7) mcost)) := a03.setCells (F := fun i => i = B) (.inl rfl) _ _ _ (a03.refl _ _)
    refine hK.out _ (hS.trans' hs9 (fun i e => .inr (by omega))) ⟨fun _ e => absurd (show true = false from e) (by decide), fun _ e => absurd (show true = false from e) (by decide), fun _ _ e => absurd (show true = false from e) (by decide), fun _ => ⟨d9, d10, B, p5, c5, p7, c7, h6, hlo, World.rangeAt_setCells_same _ _ _ _ (hblk.there 0 9 (Nat.le_refl 9)), hl5.keepF hs9 (fun h0 i e => ha5 h0 i _ _ e), hn7.keepF hs9 (fun h0 i e => ha7 h0 i _ _ e), hf5, hf7⟩⟩
  ·intro f W hG hS
   obtain ⟨-, -, B, p5, c5, p7, c7, h6, hlo, hrB, hl5, hn7, hf5, hf7⟩ := hG.2.2.2 rfl
   simp only [a0q, List.foldl_cons, List.foldl_nil, Act.put, sA, sZ, sS]
   rw [h6]
   generalize f 49 = f49
   have hS' := Hi hS; have hrB' := Hi hrB; have hl5' := Hi hl5; have hn7' := Hi hn7; have hlo' := Hi hlo; have hf5' := Hi hf5; have hf7' := Hi hf7
   have hR3 := Hi (hR2.out.keep hS id); have hk3 := Hi (hk2.out.trans hS)
   clear hG h6 hS hrB hl5 hn7 hlo hf5 hf7 f
   refine NoPanic.normal ?_
   go_wp2_with ((with_reducible refine a0a 51 ?_); refine wpList_load_mid rfl 76 (.tmp 6) rfl B 0 rfl (La' mage mtype mid madv mseq (.slice p5 mlinks.length c5) mmask (.slice p7 mrouters.length c7) mcost) _ hrB'.out Try.underlying76 rfl b05 ?_)
   refine (g0p mage mtype mseq mcost mid madv mmask mlinks mrouters p5 p7 c5 c7 _ hl5' hn7' hlok hrok hid hadv hmk hcan).mono ?_
   rintro e w4 ⟨pb, cb, rfl, hOb, k4⟩
   have hR4 := Hi (hR3.out.keep k4 id); have hk4 := Hi (hk3.out.trans k4)
   have hOb' := Hi hOb.bytes
   have hx4 := Hi (a0b.of rfl hc (hk4.out.rangeAt hr.out id))
   have hrB4 := Hi (k4.rangeAt hrB'.out id); have hl54 := Hi (hl5'.out.keep k4); have hn74 := Hi (hn7'.out.keep k4)
   clear k4 hOb hR3 hk3 hrB' hl5' hn7'
   go_wp2_with fail
   refine (d0u _ _ (putB ⟨mage, mtype, mid, madv, mseq, mlinks, mmask, mrouters, mcost⟩) x false _ hOb' hx4 heq).mono ?_
   rintro e w' ⟨rfl, rfl⟩
   go_wp2_with ((with_reducible refine a09 2 ?_); refine a05 rfl 76 (.tmp 2) (.tmp 63) rfl w.heap.size Zl rfl rfl (a06.there hR4.out 0 9 (Nat.le_refl 9)) b05 (a0y _ _ _ _ _ _ _ _ _ (a04 _ _ _) (a04 _ _ _)) ?_; intro w9 hr9 hs9)
   have e0 := a01 hr9.out 0 _ rfl
   have e1 := a01 hr9.out 1 _ rfl
   have e2 := a01 hr9.out 2 _ rfl
   have e3 := a01 hr9.out 3 _ rfl
   have e4 := a01 hr9.out 4 _ rfl
   have e5 := a01 hr9.out 5 _ rfl
   have e6 := a01 hr9.out 6 _ rfl
   have e7 := a01 hr9.out 7 _ rfl
   have e8 := a01 hr9.out 8 _ rfl
   refine bodyPost_ret (v := .tuple #[.agg Zl, .int .i64 3]) (by simp [results, Try.results69, go_sem, e0, e1, e2, e3, e4, e5, e6, e7, e8]) rfl ⟨⟨_, by rw [hg'.out], by rw [hg'.out]; exact LsaF.zero _ _⟩, hk4.out.trans' hs9.out (fun i e => .inr (by omega))⟩
 ·rw [if_neg hck] at htl0
  have htl := Hi htl0; clear htl0
  go_upto_region 8 with fail
  clear b6 c16 c17
  refine wp_region_noPanic ?_
  refine wp_region_held_drew (S := (fun W => a03 (fun _ => False) w2 W)) (by kernel_rfl) (((a03.refl (fun _ => False) _).drew)) (fun hHeld => ?_)
  refine tk 0 rfl ?_
  refine tkL 1 rfl (a02 (by rfl) 3 (.tmp 40) rfl w1.heap.size 0 rfl _ (fun _ s => (hH.out.keep s id).cell 0 (.int .i64 age) rfl) (fun w s => a0j w _ _ _ s)) ?_
  refine tk 2 rfl ?_
  refine tkL 3 rfl (yieldsIf_load_mid (by rfl) 67 (.tmp 42) rfl w1.heap.size 1 rfl [.int .i64 type, .int .u32 lid, .int .u32 adv] _ (fun _ s => c0d (hH.out.keep s id)) Try.underlying67 rfl f05) ?_
  refine tk 4 rfl ?_
  refine tkL 5 rfl (a02 (by rfl) 3 (.tmp 44) rfl w1.heap.size 4 rfl _ (fun _ s => (hH.out.keep s id).cell 4 (.int .i64 seq) rfl) (fun w s => a0j w _ _ _ s)) ?_
  refine tk 6 rfl ?_
  refine tk 7 rfl ?_
  refine tk 8 rfl ?_
  refine b0a [49, 6] [9, 10, 11] (fun L f W =>
   (L 9 = true → L 11 = false → LsaF w2 W (f 49) ⟨mage, mtype, mid, madv, mseq, mlinks, mmask, mrouters, mcost⟩) ∧
   (L 10 = true → L 11 = false → ∃ B, f 6 = .pointer (some ⟨B, 0, none⟩) ∧ w2.heap.size ≤ B ∧ a06 W B 76 Zm) ∧
   (L 9 = true → L 10 = true → L 11 = false → ∃ B, f 6 = .pointer (some ⟨B, 0, none⟩) ∧ LsaX w2.heap.size W (f 49) ⟨mage, mtype, mid, madv, mseq, mlinks, mmask, mrouters, mcost⟩ B) ∧
   (L 11 = true → L 9 = true ∧ L 10 = true ∧ l0j W (f 6) ⟨mage, mtype, mid, madv, mseq, mlinks, mmask, mrouters, mcost⟩ w2.heap.size)) (by kernel_rfl) (by kernel_rfl) (by kernel_rfl) (by kernel_rfl) (Nat.le_of_ble_eq_true (by kernel_rfl)) hHeld
   (fun L f h => ⟨fun e => absurd (h 9 (by decide)) (by rw [e]; decide), fun e => absurd (h 10 (by decide)) (by rw [e]; decide), fun e => absurd (h 9 (by decide)) (by rw [e]; decide), fun e => absurd (h 11 (by decide)) (by rw [e]; decide)⟩) ?_ ?_
  ·refine a0p.cons (d := 49) rfl rfl (by decide) ?_ (a0p.cons (d := 6) rfl rfl (by decide) ?_ (a0p.cons0 rfl rfl ?_ a0p.nil))
   ·intro L f W hG hS hL hdep K hK
    simp only [a0q, List.foldl_cons, List.foldl_nil, Act.put, sA, sZ, sS] at hK ⊢
    rw [if_pos (by rfl)]
    go_simp
    refine (h08 age type seq lid adv _ _ _ (x.drop 20) ⟨mage, mtype, mid, madv, mseq, mlinks, mmask, mrouters, mcost⟩ (by simp; omega) (by simp) _ (Hi (htl.out.keep hS)) hm).mono ?_
    rintro e W' ⟨⟨v, rfl, hV⟩, hk'⟩
    go_wp2_with fail
    refine hK.out _ _ (hS.trans hk') ⟨fun _ _ => hV.older hS.size, fun e10 e11 => ?_, fun _ e10 e11 => ?_, fun e11 => absurd ((hG.2.2.2 e11).1.symm.trans hL) (by decide)⟩
    ·obtain ⟨B, h1, h2, h3⟩ := hG.2.1 e10 e11
     exact ⟨B, h1, h2, h3.keep hk' id⟩
    ·obtain ⟨B, h1, h2, h3⟩ := hG.2.1 e10 e11
     exact ⟨B, h1, hV.away (lt_of_block h3) hS.size⟩
   ·intro L f W hG hS hL hdep K hK
    simp only [a0q, List.foldl_cons, List.foldl_nil, Act.put, sA, sZ, sS] at hK ⊢
    rw [if_pos (by rfl)]
    go_simp
    have hk' : a03 (fun _ => False) W (W.alloc (.cells Zl 76)) := (a03.refl _ _).alloc _
    refine hK.out _ _ (hS.trans hk') ⟨fun e9 e11 => (hG.1 e9 e11).keep hk', fun _ _ => ⟨W.heap.size, rfl, hS.size, a06.new W _ _⟩, fun e9 _ e11 => ⟨W.heap.size, rfl, ((hG.1 e9 e11).away2).keep hk'⟩, fun e11 => absurd ((hG.2.2.2 e11).2.1.symm.trans hL) (by decide)⟩
   ·intro L f W hG hS hL hdep K hK
    simp only [a0q, List.foldl_cons, List.foldl_nil, Act.put, sA, sZ, sS] at hK ⊢
    rw [if_pos (by rfl)]
    have d9 := hdep ⟨9, .data⟩ (by simp) rfl (by decide)
    have d10 := hdep ⟨10, .data⟩ (by simp) rfl (by decide)
    obtain ⟨B, h6, hlo, hblk⟩ := hG.2.1 d10 hL
    obtain ⟨B', h6', p5, c5, p7, c7, h49, hl5, hn7, ha5, ha7, hf5, hf7⟩ := hG.2.2.1 d9 d10 hL
    rw [h6] at h6'; injection h6' with h6'; injection h6' with h6'; injection h6' with h6'; subst h6'
    refine wp_store_mid 76 (.tmp 6) (.tmp 49) rfl B 0 (La mage mtype mid madv mseq (.slice p5 mlinks.length c5) mmask (.slice p7 mrouters.length c7) mcost) h6 h49 (hblk.there 0 9 (Nat.le_refl 9)) b05 (a0y _ _ _ _ _ _ _ _ _ (a04 _ _ _) (a04 _ _ _)) ?_
    have hs9 : a03 (fun i => i = B) W (W.setCells B 0 (La' mage mtype mid madv mseq (.slice p5 mlinks.length c5) mmask (.slice p7 mrouters.length c7) mcost)) := a03.setCells (F := fun i => i = B) (.inl rfl) _ _ _ (a03.refl _ _)
    refine hK.out _ (hS.trans' hs9 (fun i e => .inr (by omega))) ⟨fun _ e => absurd (show true = false from e) (by decide), fun _ e => absurd (show true = false from e) (by decide), fun _ _ e => absurd (show true = false from e) (by decide), fun _ => ⟨d9, d10, B, p5, c5, p7, c7, h6, hlo, World.rangeAt_setCells_same _ _ _ _ (hblk.there 0 9 (Nat.le_refl 9)), hl5.keepF hs9 (fun h0 i e => ha5 h0 i _ _ e), hn7.keepF hs9 (fun h0 i e => ha7 h0 i _ _ e), hf5, hf7⟩⟩
  ·intro f W hG hS
   obtain ⟨-, -, B, p5, c5, p7, c7, h6, hlo, hrB, hl5, hn7, hf5, hf7⟩ := hG.2.2.2 rfl
   simp only [a0q, List.foldl_cons, List.foldl_nil, Act.put, sA, sZ, sS]
   rw [h6]
   generalize f 49 = f49
   have hS' := Hi hS; have hrB' := Hi hrB; have hl5' := Hi hl5; have hn7' := Hi hn7; have hlo' := Hi hlo; have hf5' := Hi hf5; have hf7' := Hi hf7
   have hR3 := Hi (hR2.out.keep hS id); have hk3 := Hi (hk2.out.trans hS)
   clear hG h6 hS hrB hl5 hn7 hlo hf5 hf7 f
   refine NoPanic.normal ?_
   go_wp2_with ((with_reducible refine a0a 51 ?_); refine wpList_load_mid rfl 76 (.tmp 6) rfl B 0 rfl (La' mage mtype mid madv mseq (.slice p5 mlinks.length c5) mmask (.slice p7 mrouters.length c7) mcost) _ hrB'.out Try.underlying76 rfl b05 ?_)
   refine (g0p mage mtype mseq mcost mid madv mmask mlinks mrouters p5 p7 c5 c7 _ hl5' hn7' hlok hrok hid hadv hmk hcan).mono ?_
   rintro e w4 ⟨pb, cb, rfl, hOb, k4⟩
   have hR4 := Hi (hR3.out.keep k4 id); have hk4 := Hi (hk3.out.trans k4)
   have hOb' := Hi hOb.bytes
   have hx4 := Hi (a0b.of rfl hc (hk4.out.rangeAt hr.out id))
   have hrB4 := Hi (k4.rangeAt hrB'.out id); have hl54 := Hi (hl5'.out.keep k4); have hn74 := Hi (hn7'.out.keep k4)
   clear k4 hOb hR3 hk3 hrB' hl5' hn7'
   go_wp2_with fail
   refine (d0u _ _ (putB ⟨mage, mtype, mid, madv, mseq, mlinks, mmask, mrouters, mcost⟩) x false _ hOb' hx4 heq).mono ?_
   rintro e w' ⟨rfl, rfl⟩
   go_wp2_with ((with_reducible refine a09 2 ?_); refine a05 rfl 76 (.tmp 2) (.tmp 63) rfl w.heap.size Zl rfl rfl (a06.there hR4.out 0 9 (Nat.le_refl 9)) b05 (a0y _ _ _ _ _ _ _ _ _ (a04 _ _ _) (a04 _ _ _)) ?_; intro w9 hr9 hs9)
   have e0 := a01 hr9.out 0 _ rfl
   have e1 := a01 hr9.out 1 _ rfl
   have e2 := a01 hr9.out 2 _ rfl
   have e3 := a01 hr9.out 3 _ rfl
   have e4 := a01 hr9.out 4 _ rfl
   have e5 := a01 hr9.out 5 _ rfl
   have e6 := a01 hr9.out 6 _ rfl
   have e7 := a01 hr9.out 7 _ rfl
   have e8 := a01 hr9.out 8 _ rfl
   refine bodyPost_ret (v := .tuple #[.agg Zl, .int .i64 3]) (by simp [results, Try.results69, go_sem, e0, e1, e2, e3, e4, e5, e6, e7, e8]) rfl ⟨⟨_, by rw [hg'.out], by rw [hg'.out]; exact LsaF.zero _ _⟩, hk4.out.trans' hs9.out (fun i e => .inr (by omega))⟩
set_option maxRecDepth 100000 in
set_option maxHeartbeats 4000000 in
theorem lsGet_f (g o c : Nat) (x : List UInt8) (hx : 20 ≤ x.length) (hx2 : x.length ≤ 1000000) (hc : x.length ≤ c) (age type seq len : Int) (lid adv sum : Nat) (w : World) (hr : Hid (w.rangeAt g o (x.map bv))) (hh : Hid (a0f x = ⟨age, type, lid, adv, seq, sum, len⟩)) (hri : Hid (b0h (x.drop 2) = true)) (h16 : x[16]'(by omega) ≠ 255) (h17 : x[17]'(by omega) ≠ 255) (hlen : Hid (len = (x.length : Int))) (mage mtype mseq mcost : Int) (mid madv mmask : Nat) (mlinks : List b09) (mrouters : List Nat) (hm : Hid (c0o age type lid adv seq (x.drop 20) = ⟨mage, mtype, mid, madv, mseq, mlinks, mmask, mrouters, mcost⟩)) (hml : mlinks.length ≤ 1000000) (hmr : mrouters.length ≤ 1000000) (hlok : Hid (∀ l ∈ mlinks, l.ok)) (hrok : Hid (h0g mrouters)) (hid : mid < 4294967296) (hadv : madv < 4294967296) (hmk : mmask < 4294967296) (hcan : Hid (canB ⟨mage, mtype, mid, madv, mseq, mlinks, mmask, mrouters, mcost⟩ = true)) (heq : Hid ((putB ⟨mage, mtype, mid, madv, mseq, mlinks, mmask, mrouters, mcost⟩ == x) = true)) :
 Calls Try.prog 69 #[.slice (some ⟨g, o, none⟩) x.length c] w (c0g x w) := by
 have hnb : ¬ (b0h (x.drop 2) = false ∨ x.getD 16 0 = 255 ∨ x.getD 17 0 = 255) := by
  rw [List.getD_eq_getElem?_getD, List.getElem?_eq_getElem (by omega), List.getD_eq_getElem?_getD, List.getElem?_eq_getElem (by omega), hri.out]
  rintro (h | h | h)
  ·cases h
  ·exact h16 h
  ·exact h17 h
 have hg : getL x = (⟨mage, mtype, mid, madv, mseq, mlinks, mmask, mrouters, mcost⟩, 0) := by
  unfold getL
  rw [if_neg (by omega), if_neg hnb, if_neg (by rw [hh.out]; simp [hlen.out]), if_pos]
  ·rw [hh.out]; unfold g0v; rw [hm.out]
  ·rw [hh.out]; unfold g0v; rw [hm.out]; exact ⟨hcan.out, by simpa using heq.out⟩
 clear hnb
 have hg' := Hi hg; clear hg
 have hR : Hid (a06 (w.alloc (.cells Zl 76)) w.heap.size 76 Zm) := Hi (a06.new w _ _)
 have hk : Hid (a03 (fun _ => False) w (w.alloc (.cells Zl 76))) := Hi ((a03.refl _ _).alloc _)
 have hsz : Hid (w.heap.size < (w.alloc (.cells Zl 76)).heap.size) := Hi (by simp)
 go_enter Try.func69, Try.ntmps69
 go_upto_region 1 with fail
 generalize w.alloc (.cells Zl 76) = w0 at hR hk hsz ⊢
 go_wp2_with fail
 refine (f0b g o c x hx (by omega) hc age type seq len lid adv sum _ (Hi (hk.out.rangeAt hr.out id)) hh).mono ?_
 rintro e w1 ⟨rfl, k1⟩
 have hszB : Hid (w.heap.size < w1.heap.size) := Hi (Nat.lt_of_lt_of_le hsz.out k1.size)
 have hH : Hid (a06 (w1.alloc (.cells (Ha age type lid adv seq sum len) 69)) w1.heap.size 69 (Ha' age type lid adv seq sum len)) := Hi (a06.new w1 _ _)
 have hR2 := Hi ((hR.out.keep k1 id).alloc (.cells (Ha age type lid adv seq sum len) 69))
 have hk2 := Hi ((hk.out.trans k1).alloc (.cells (Ha age type lid adv seq sum len) 69))
 clear k1 hR hk hsz
 go_upto_region 4 with ((with_reducible refine a09 4 ?_); refine a07 rfl 69 (.tmp 4) (.tmp 11) rfl _ (Ha age type lid adv seq sum len) rfl rfl c04 rfl (b0o _ _ _ _ _ _ _) ?_)
 generalize w1.alloc (.cells (Ha age type lid adv seq sum len) 69) = w2 at hR2 hk2 hH ⊢
 have hsz2 : Hid (w.heap.size < w2.heap.size) := Hi (lt_of_block hR2.out)
 have hr2 := Hi (hk2.out.rangeAt hr.out id)
 have hb2 := Hi (b01 hr2.out hc 2 (by omega))
 rw [if_neg (by omega)] at hb2
 have c16 := a0k hr2.out 16 (by omega)
 have e16' : (((x[16]'(by omega)).toNat : Int) == 255) = false := by rw [beq_eq_false_iff_ne]; intro h; apply h16; apply UInt8.toNat_inj.mp; show (x[16]'(by omega)).toNat = 255; omega
 have c17 := a0k hr2.out 17 (by omega)
 have e17' : (((x[17]'(by omega)).toNat : Int) == 255) = false := by rw [beq_eq_false_iff_ne]; intro h; apply h17; apply UInt8.toNat_inj.mp; show (x[17]'(by omega)).toNat = 255; omega
 have hl1 : (len != (x.length : Int)) = false := by rw [hlen.out]; simp
 have b6 := hH.out.cell 6 (.int .i64 len) rfl
 clear h16 h17
 go_wp2_with fail
 refine (e0z _ (x.drop 2) true (by simp; omega) _ hb2 hri).mono ?_
 rintro e w' ⟨rfl, rfl⟩
 have c20 : (20 : Int) ≤ c := by omega
 have x20 : (20 : Int) ≤ x.length := by omega
 have htl0 := b01 hr2.out hc 20 (by omega)
 by_cases hck : c = 20
 ·subst hck
  rw [if_pos rfl, show x.length - 20 = 0 by omega] at htl0
  have htl := Hi htl0; clear htl0
  go_upto_region 8 with fail
  clear b6 c16 c17
  refine wp_region_noPanic ?_
  refine wp_region_held_drew (S := (fun W => a03 (fun _ => False) w2 W)) (by kernel_rfl) (((a03.refl (fun _ => False) _).drew)) (fun hHeld => ?_)
  refine tk 0 rfl ?_
  refine tkL 1 rfl (a02 (by rfl) 3 (.tmp 40) rfl w1.heap.size 0 rfl _ (fun _ s => (hH.out.keep s id).cell 0 (.int .i64 age) rfl) (fun w s => a0j w _ _ _ s)) ?_
  refine tk 2 rfl ?_
  refine tkL 3 rfl (yieldsIf_load_mid (by rfl) 67 (.tmp 42) rfl w1.heap.size 1 rfl [.int .i64 type, .int .u32 lid, .int .u32 adv] _ (fun _ s => c0d (hH.out.keep s id)) Try.underlying67 rfl f05) ?_
  refine tk 4 rfl ?_
  refine tkL 5 rfl (a02 (by rfl) 3 (.tmp 44) rfl w1.heap.size 4 rfl _ (fun _ s => (hH.out.keep s id).cell 4 (.int .i64 seq) rfl) (fun w s => a0j w _ _ _ s)) ?_
  refine tk 6 rfl ?_
  refine tk 7 rfl ?_
  refine tk 8 rfl ?_
  refine b0a [49, 6] [9, 10, 11] (fun L f W =>
   (L 9 = true → L 11 = false → LsaF w2 W (f 49) ⟨mage, mtype, mid, madv, mseq, mlinks, mmask, mrouters, mcost⟩) ∧
   (L 10 = true → L 11 = false → ∃ B, f 6 = .pointer (some ⟨B, 0, none⟩) ∧ w2.heap.size ≤ B ∧ a06 W B 76 Zm) ∧
   (L 9 = true → L 10 = true → L 11 = false → ∃ B, f 6 = .pointer (some ⟨B, 0, none⟩) ∧ LsaX w2.heap.size W (f 49) ⟨mage, mtype, mid, madv, mseq, mlinks, mmask, mrouters, mcost⟩ B) ∧
   (L 11 = true → L 9 = true ∧ L 10 = true ∧ l0j W (f 6) ⟨mage, mtype, mid, madv, mseq, mlinks, mmask, mrouters, mcost⟩ w2.heap.size)) (by kernel_rfl) (by kernel_rfl) (by kernel_rfl) (by kernel_rfl) (Nat.le_of_ble_eq_true (by kernel_rfl)) hHeld
   (fun L f h => ⟨fun e => absurd (h 9 (by decide)) (by rw [e]; decide), fun e => absurd (h 10 (by decide)) (by rw [e]; decide), fun e => absurd (h 9 (by decide)) (by rw [e]; decide), fun e => absurd (h 11 (by decide)) (by rw [e]; decide)⟩) ?_ ?_
  ·refine a0p.cons (d := 49) rfl rfl (by decide) ?_ (a0p.cons (d := 6) rfl rfl (by decide) ?_ (a0p.cons0 rfl rfl ?_ a0p.nil))
   ·intro L f W hG hS hL hdep K hK
    simp only [a0q, List.foldl_cons, List.foldl_nil, Act.put, sA, sZ, sS] at hK ⊢
    rw [if_pos (by rfl)]
    go_simp
    refine (h08 age type seq lid adv _ _ _ (x.drop 20) ⟨mage, mtype, mid, madv, mseq, mlinks, mmask, mrouters, mcost⟩ (by simp; omega) (by simp; omega) _ (Hi (htl.out.keep hS)) hm).mono ?_
    rintro e W' ⟨⟨v, rfl, hV⟩, hk'⟩
    go_wp2_with fail
    refine hK.out _ _ (hS.trans hk') ⟨fun _ _ => hV.older hS.size, fun e10 e11 => ?_, fun _ e10 e11 => ?_, fun e11 => absurd ((hG.2.2.2 e11).1.symm.trans hL) (by decide)⟩
    ·obtain ⟨B, h1, h2, h3⟩ := hG.2.1 e10 e11
     exact ⟨B, h1, h2, h3.keep hk' id⟩
    ·obtain ⟨B, h1, h2, h3⟩ := hG.2.1 e10 e11
     exact ⟨B, h1, hV.away (lt_of_block h3) hS.size⟩
   ·intro L f W hG hS hL hdep K hK
    simp only [a0q, List.foldl_cons, List.foldl_nil, Act.put, sA, sZ, sS] at hK ⊢
    rw [if_pos (by rfl)]
    go_simp
    have hk' : a03 (fun _ => False) W (W.alloc (.cells Zl 76)) := (a03.refl _ _).alloc _
    refine hK.out _ _ (hS.trans hk') ⟨fun e9 e11 => (hG.1 e9 e11).keep hk', fun _ _ => ⟨W.heap.size, rfl, hS.size, a06.new W _ _⟩, fun e9 _ e11 => ⟨W.heap.size, rfl, ((hG.1 e9 e11).away2).keep hk'⟩, fun e11 => absurd ((hG.2.2.2 e11).2.1.symm.trans hL) (by decide)⟩
   ·intro L f W hG hS hL hdep K hK
    simp only [a0q, List.foldl_cons, List.foldl_nil, Act.put, sA, sZ, sS] at hK ⊢
    rw [if_pos (by rfl)]
    have d9 := hdep ⟨9, .data⟩ (by simp) rfl (by decide)
    have d10 := hdep ⟨10, .data⟩ (by simp) rfl (by decide)
    obtain ⟨B, h6, hlo, hblk⟩ := hG.2.1 d10 hL
    obtain ⟨B', h6', p5, c5, p7, c7, h49, hl5, hn7, ha5, ha7, hf5, hf7⟩ := hG.2.2.1 d9 d10 hL
    rw [h6] at h6'; injection h6' with h6'; injection h6' with h6'; injection h6' with h6'; subst h6'
    refine wp_store_mid 76 (.tmp 6) (.tmp 49) rfl B 0 (La mage mtype mid madv mseq (.slice p5 mlinks.length c5) mmask (.slice p7 mrouters.length c7) mcost) h6 h49 (hblk.there 0 9 (Nat.le_refl 9)) b05 (a0y _ _ _ _ _ _ _ _ _ (a04 _ _ _) (a04 _ _ _)) ?_
    have hs9 : a03 (fun i => i = B) W (W.setCells B 0 (La' mage mtype mid madv mseq (.slice p5 mlinks.length c5) mmask (.slice p7 mrouters.length c7) mcost)) := a03.setCells (F := fun i => i = B) (.inl rfl) _ _ _ (a03.refl _ _)
    refine hK.out _ (hS.trans' hs9 (fun i e => .inr (by omega))) ⟨fun _ e => absurd (show true = false from e) (by decide), fun _ e => absurd (show true = false from e) (by decide), fun _ _ e => absurd (show true = false from e) (by decide), fun _ => ⟨d9, d10, B, p5, c5, p7, c7, h6, hlo, World.rangeAt_setCells_same _ _ _ _ (hblk.there 0 9 (Nat.le_refl 9)), hl5.keepF hs9 (fun h0 i e => ha5 h0 i _ _ e), hn7.keepF hs9 (fun h0 i e => ha7 h0 i _ _ e), hf5, hf7⟩⟩
  ·intro f W hG hS
   obtain ⟨-, -, B, p5, c5, p7, c7, h6, hlo, hrB, hl5, hn7, hf5, hf7⟩ := hG.2.2.2 rfl
   simp only [a0q, List.foldl_cons, List.foldl_nil, Act.put, sA, sZ, sS]
   rw [h6]
   generalize f 49 = f49
   have hS' := Hi hS; have hrB' := Hi hrB; have hl5' := Hi hl5; have hn7' := Hi hn7; have hlo' := Hi hlo; have hf5' := Hi hf5; have hf7' := Hi hf7
   have hR3 := Hi (hR2.out.keep hS id); have hk3 := Hi (hk2.out.trans hS)
   clear hG h6 hS hrB hl5 hn7 hlo hf5 hf7 f
   refine NoPanic.normal ?_
   go_wp2_with ((with_reducible refine a0a 51 ?_); refine wpList_load_mid rfl 76 (.tmp 6) rfl B 0 rfl (La' mage mtype mid madv mseq (.slice p5 mlinks.length c5) mmask (.slice p7 mrouters.length c7) mcost) _ hrB'.out Try.underlying76 rfl b05 ?_)
   refine (g0p mage mtype mseq mcost mid madv mmask mlinks mrouters p5 p7 c5 c7 _ hl5' hn7' hlok hrok hid hadv hmk hcan).mono ?_
   rintro e w4 ⟨pb, cb, rfl, hOb, k4⟩
   have hR4 := Hi (hR3.out.keep k4 id); have hk4 := Hi (hk3.out.trans k4)
   have hOb' := Hi hOb.bytes
   have hx4 := Hi (a0b.of rfl hc (hk4.out.rangeAt hr.out id))
   have hrB4 := Hi (k4.rangeAt hrB'.out id); have hl54 := Hi (hl5'.out.keep k4); have hn74 := Hi (hn7'.out.keep k4)
   clear k4 hOb hR3 hk3 hrB' hl5' hn7'
   go_wp2_with fail
   refine (d0u _ _ (putB ⟨mage, mtype, mid, madv, mseq, mlinks, mmask, mrouters, mcost⟩) x true _ hOb' hx4 heq).mono ?_
   rintro e w' ⟨rfl, rfl⟩
   go_wp2_with (first | ((with_reducible refine a0a 64 ?_); refine wpList_load_mid rfl 76 (.tmp 6) rfl B 0 rfl (La' mage mtype mid madv mseq (.slice p5 mlinks.length c5) mmask (.slice p7 mrouters.length c7) mcost) _ hrB4.out Try.underlying76 rfl b05 ?_) | ((with_reducible refine a09 2 ?_); refine a05 rfl 76 (.tmp 2) (.tmp 64) rfl w.heap.size (La mage mtype mid madv mseq (.slice p5 mlinks.length c5) mmask (.slice p7 mrouters.length c7) mcost) rfl rfl (a06.there hR4.out 0 9 (Nat.le_refl 9)) b05 (a0y _ _ _ _ _ _ _ _ _ (a04 _ _ _) (a04 _ _ _)) ?_; intro w9 hr9 hs9))
   have e0 := a01 hr9.out 0 _ rfl
   have e1 := a01 hr9.out 1 _ rfl
   have e2 := a01 hr9.out 2 _ rfl
   have e3 := a01 hr9.out 3 _ rfl
   have e4 := a01 hr9.out 4 _ rfl
   have e5 := a01 hr9.out 5 _ rfl
   have e6 := a01 hr9.out 6 _ rfl
   have e7 := a01 hr9.out 7 _ rfl
   have e8 := a01 hr9.out 8 _ rfl
   refine bodyPost_ret (v := .tuple #[.agg (La mage mtype mid madv mseq (.slice p5 mlinks.length c5) mmask (.slice p7 mrouters.length c7) mcost), .int .i64 0]) (by simp [results, Try.results69, go_sem, e0, e1, e2, e3, e4, e5, e6, e7, e8]) rfl ⟨⟨_, by rw [hg'.out], by rw [hg'.out]; exact ⟨p5, c5, p7, c7, rfl, hl54.out.keepF hs9.out (fun _ i e => by have := hf5'.out i _ _ e; have := hsz2.out; omega), hn74.out.keepF hs9.out (fun _ i e => by have := hf7'.out i _ _ e; have := hsz2.out; omega), (fun i n c e => by have := hf5'.out i n c e; have := hsz2.out; omega), (fun i n c e => by have := hf7'.out i n c e; have := hsz2.out; omega)⟩⟩, hk4.out.trans' hs9.out (fun i e => .inr (by omega))⟩
 ·rw [if_neg hck] at htl0
  have htl := Hi htl0; clear htl0
  go_upto_region 8 with fail
  clear b6 c16 c17
  refine wp_region_noPanic ?_
  refine wp_region_held_drew (S := (fun W => a03 (fun _ => False) w2 W)) (by kernel_rfl) (((a03.refl (fun _ => False) _).drew)) (fun hHeld => ?_)
  refine tk 0 rfl ?_
  refine tkL 1 rfl (a02 (by rfl) 3 (.tmp 40) rfl w1.heap.size 0 rfl _ (fun _ s => (hH.out.keep s id).cell 0 (.int .i64 age) rfl) (fun w s => a0j w _ _ _ s)) ?_
  refine tk 2 rfl ?_
  refine tkL 3 rfl (yieldsIf_load_mid (by rfl) 67 (.tmp 42) rfl w1.heap.size 1 rfl [.int .i64 type, .int .u32 lid, .int .u32 adv] _ (fun _ s => c0d (hH.out.keep s id)) Try.underlying67 rfl f05) ?_
  refine tk 4 rfl ?_
  refine tkL 5 rfl (a02 (by rfl) 3 (.tmp 44) rfl w1.heap.size 4 rfl _ (fun _ s => (hH.out.keep s id).cell 4 (.int .i64 seq) rfl) (fun w s => a0j w _ _ _ s)) ?_
  refine tk 6 rfl ?_
  refine tk 7 rfl ?_
  refine tk 8 rfl ?_
  refine b0a [49, 6] [9, 10, 11] (fun L f W =>
   (L 9 = true → L 11 = false → LsaF w2 W (f 49) ⟨mage, mtype, mid, madv, mseq, mlinks, mmask, mrouters, mcost⟩) ∧
   (L 10 = true → L 11 = false → ∃ B, f 6 = .pointer (some ⟨B, 0, none⟩) ∧ w2.heap.size ≤ B ∧ a06 W B 76 Zm) ∧
   (L 9 = true → L 10 = true → L 11 = false → ∃ B, f 6 = .pointer (some ⟨B, 0, none⟩) ∧ LsaX w2.heap.size W (f 49) ⟨mage, mtype, mid, madv, mseq, mlinks, mmask, mrouters, mcost⟩ B) ∧
   (L 11 = true → L 9 = true ∧ L 10 = true ∧ l0j W (f 6) ⟨mage, mtype, mid, madv, mseq, mlinks, mmask, mrouters, mcost⟩ w2.heap.size)) (by kernel_rfl) (by kernel_rfl) (by kernel_rfl) (by kernel_rfl) (Nat.le_of_ble_eq_true (by kernel_rfl)) hHeld
   (fun L f h => ⟨fun e => absurd (h 9 (by decide)) (by rw [e]; decide), fun e => absurd (h 10 (by decide)) (by rw [e]; decide), fun e => absurd (h 9 (by decide)) (by rw [e]; decide), fun e => absurd (h 11 (by decide)) (by rw [e]; decide)⟩) ?_ ?_
  ·refine a0p.cons (d := 49) rfl rfl (by decide) ?_ (a0p.cons (d := 6) rfl rfl (by decide) ?_ (a0p.cons0 rfl rfl ?_ a0p.nil))
   ·intro L f W hG hS hL hdep K hK
    simp only [a0q, List.foldl_cons, List.foldl_nil, Act.put, sA, sZ, sS] at hK ⊢
    rw [if_pos (by rfl)]
    go_simp
    refine (h08 age type seq lid adv _ _ _ (x.drop 20) ⟨mage, mtype, mid, madv, mseq, mlinks, mmask, mrouters, mcost⟩ (by simp; omega) (by simp) _ (Hi (htl.out.keep hS)) hm).mono ?_
    rintro e W' ⟨⟨v, rfl, hV⟩, hk'⟩
    go_wp2_with fail
    refine hK.out _ _ (hS.trans hk') ⟨fun _ _ => hV.older hS.size, fun e10 e11 => ?_, fun _ e10 e11 => ?_, fun e11 => absurd ((hG.2.2.2 e11).1.symm.trans hL) (by decide)⟩
    ·obtain ⟨B, h1, h2, h3⟩ := hG.2.1 e10 e11
     exact ⟨B, h1, h2, h3.keep hk' id⟩
    ·obtain ⟨B, h1, h2, h3⟩ := hG.2.1 e10 e11
     exact ⟨B, h1, hV.away (lt_of_block h3) hS.size⟩
   ·intro L f W hG hS hL hdep K hK
    simp only [a0q, List.foldl_cons, List.foldl_nil, Act.put, sA, sZ, sS] at hK ⊢
    rw [if_pos (by rfl)]
    go_simp
    have hk' : a03 (fun _ => False) W (W.alloc (.cells Zl 76)) := (a03.refl _ _).alloc _
    refine hK.out _ _ (hS.trans hk') ⟨fun e9 e11 => (hG.1 e9 e11).keep hk', fun _ _ => ⟨W.heap.size, rfl, hS.size, a06.new W _ _⟩, fun e9 _ e11 => ⟨W.heap.size, rfl, ((hG.1 e9 e11).away2).keep hk'⟩, fun e11 => absurd ((hG.2.2.2 e11).2.1.symm.trans hL) (by decide)⟩
   ·intro L f W hG hS hL hdep K hK
    simp only [a0q, List.foldl_cons, List.foldl_nil, Act.put, sA, sZ, sS] at hK ⊢
    rw [if_pos (by rfl)]
    have d9 := hdep ⟨9, .data⟩ (by simp) rfl (by decide)
    have d10 := hdep ⟨10, .data⟩ (by simp) rfl (by decide)
    obtain ⟨B, h6, hlo, hblk⟩ := hG.2.1 d10 hL
    obtain ⟨B', h6', p5, c5, p7, c7, h49, hl5, hn7, ha5, ha7, hf5, hf7⟩ := hG.2.2.1 d9 d10 hL
    rw [h6] at h6'; injection h6' with h6'; injection h6' with h6'; injection h6' with h6'; subst h6'
    refine wp_store_mid 76 (.tmp 6) (.tmp 49) rfl B 0 (La mage mtype mid madv mseq (.slice p5 mlinks.length c5) mmask (.slice p7 mrouters.length c7) mcost) h6 h49 (hblk.there 0 9 (Nat.le_refl 9)) b05 (a0y _ _ _ _ _ _ _ _ _ (a04 _ _ _) (a04 _ _ _)) ?_
    have hs9 : a03 (fun i => i = B) W (W.setCells B 0 (La' mage mtype mid madv mseq (.slice p5 mlinks.length c5) mmask (.slice p7 mrouters.length c7) mcost)) := a03.setCells (F := fun i => i = B) (.inl rfl) _ _ _ (a03.refl _ _)
    refine hK.out _ (hS.trans' hs9 (fun i e => .inr (by omega))) ⟨fun _ e => absurd (show true = false from e) (by decide), fun _ e => absurd (show true = false from e) (by decide), fun _ _ e => absurd (show true = false from e) (by decide), fun _ => ⟨d9, d10, B, p5, c5, p7, c7, h6, hlo, World.rangeAt_setCells_same _ _ _ _ (hblk.there 0 9 (Nat.le_refl 9)), hl5.keepF hs9 (fun h0 i e => ha5 h0 i _ _ e), hn7.keepF hs9 (fun h0 i e => ha7 h0 i _ _ e), hf5, hf7⟩⟩
  ·intro f W hG hS
   obtain ⟨-, -, B, p5, c5, p7, c7, h6, hlo, hrB, hl5, hn7, hf5, hf7⟩ := hG.2.2.2 rfl
   simp only [a0q, List.foldl_cons, List.foldl_nil, Act.put, sA, sZ, sS]
   rw [h6]
   generalize f 49 = f49
   have hS' := Hi hS; have hrB' := Hi hrB; have hl5' := Hi hl5; have hn7' := Hi hn7; have hlo' := Hi hlo; have hf5' := Hi hf5; have hf7' := Hi hf7
   have hR3 := Hi (hR2.out.keep hS id); have hk3 := Hi (hk2.out.trans hS)
   clear hG h6 hS hrB hl5 hn7 hlo hf5 hf7 f
   refine NoPanic.normal ?_
   go_wp2_with ((with_reducible refine a0a 51 ?_); refine wpList_load_mid rfl 76 (.tmp 6) rfl B 0 rfl (La' mage mtype mid madv mseq (.slice p5 mlinks.length c5) mmask (.slice p7 mrouters.length c7) mcost) _ hrB'.out Try.underlying76 rfl b05 ?_)
   refine (g0p mage mtype mseq mcost mid madv mmask mlinks mrouters p5 p7 c5 c7 _ hl5' hn7' hlok hrok hid hadv hmk hcan).mono ?_
   rintro e w4 ⟨pb, cb, rfl, hOb, k4⟩
   have hR4 := Hi (hR3.out.keep k4 id); have hk4 := Hi (hk3.out.trans k4)
   have hOb' := Hi hOb.bytes
   have hx4 := Hi (a0b.of rfl hc (hk4.out.rangeAt hr.out id))
   have hrB4 := Hi (k4.rangeAt hrB'.out id); have hl54 := Hi (hl5'.out.keep k4); have hn74 := Hi (hn7'.out.keep k4)
   clear k4 hOb hR3 hk3 hrB' hl5' hn7'
   go_wp2_with fail
   refine (d0u _ _ (putB ⟨mage, mtype, mid, madv, mseq, mlinks, mmask, mrouters, mcost⟩) x true _ hOb' hx4 heq).mono ?_
   rintro e w' ⟨rfl, rfl⟩
   go_wp2_with (first | ((with_reducible refine a0a 64 ?_); refine wpList_load_mid rfl 76 (.tmp 6) rfl B 0 rfl (La' mage mtype mid madv mseq (.slice p5 mlinks.length c5) mmask (.slice p7 mrouters.length c7) mcost) _ hrB4.out Try.underlying76 rfl b05 ?_) | ((with_reducible refine a09 2 ?_); refine a05 rfl 76 (.tmp 2) (.tmp 64) rfl w.heap.size (La mage mtype mid madv mseq (.slice p5 mlinks.length c5) mmask (.slice p7 mrouters.length c7) mcost) rfl rfl (a06.there hR4.out 0 9 (Nat.le_refl 9)) b05 (a0y _ _ _ _ _ _ _ _ _ (a04 _ _ _) (a04 _ _ _)) ?_; intro w9 hr9 hs9))
   have e0 := a01 hr9.out 0 _ rfl
   have e1 := a01 hr9.out 1 _ rfl
   have e2 := a01 hr9.out 2 _ rfl
   have e3 := a01 hr9.out 3 _ rfl
   have e4 := a01 hr9.out 4 _ rfl
   have e5 := a01 hr9.out 5 _ rfl
   have e6 := a01 hr9.out 6 _ rfl
   have e7 := a01 hr9.out 7 _ rfl
   have e8 := a01 hr9.out 8 _ rfl
   refine bodyPost_ret (v := .tuple #[.agg (La mage mtype mid madv mseq (.slice p5 mlinks.length c5) mmask (.slice p7 mrouters.length c7) mcost), .int .i64 0]) (by simp [results, Try.results69, go_sem, e0, e1, e2, e3, e4, e5, e6, e7, e8]) rfl ⟨⟨_, by rw [hg'.out], by rw [hg'.out]; exact ⟨p5, c5, p7, c7, rfl, hl54.out.keepF hs9.out (fun _ i e => by have := hf5'.out i _ _ e; have := hsz2.out; omega), hn74.out.keepF hs9.out (fun _ i e => by have := hf7'.out i _ _ e; have := hsz2.out; omega), (fun i n c e => by have := hf5'.out i n c e; have := hsz2.out; omega), (fun i n c e => by have := hf7'.out i n c e; have := hsz2.out; omega)⟩⟩, hk4.out.trans' hs9.out (fun i e => .inr (by omega))⟩
theorem l0d (age type seq : Int) (lid adv : Nat) (x : List UInt8) : (c0o age type lid adv seq x).links.length ≤ x.length ∧ (c0o age type lid adv seq x).routers.length ≤ x.length := by
 unfold c0o
 split
 ·simp
 ·split
  ·simp only [c0y, List.length_nil]; omega
  ·split
   ·simp only [c0j, List.length_nil]; omega
   ·split
    ·simp
    ·simp
theorem i0j (x : List UInt8) (H : c0p) (h : a0f x = H) : H.id < 4294967296 ∧ H.adv < 4294967296 := by
 rw [← h]
 exact ⟨b0g x 4 4 (by omega), b0g x 8 4 (by omega)⟩
theorem r0a (sl : Value) (x : List UInt8) (hx : x.length ≤ 1000000) (w : World) (h : Hid (a0b w sl x)) : Calls Try.prog 69 #[sl] w (c0g x w) := by
 obtain ⟨p, c, rfl, -, hc, hb⟩ := h.out
 by_cases h20 : x.length < 20
 ·exact o0b p c x h20 w
 ·obtain ⟨g, o, rfl, hr⟩ := hb (by omega)
  cases hh : a0f x with
  | mk age type lid adv seq sum len =>
   obtain ⟨l1, l2⟩ := i0j x _ hh
   cases hri : b0h (x.drop 2) with
   | false => exact lsGet_b1 g o c x (by omega) hx hc age type seq len lid adv sum w (Hi hr) (Hi hh) (Hi hri)
   | true =>
    by_cases h16 : x[16]'(by omega) = 255
    ·exact lsGet_b2 g o c x (by omega) hx hc age type seq len lid adv sum w (Hi hr) (Hi hh) (Hi hri) h16
    ·by_cases h17 : x[17]'(by omega) = 255
     ·exact lsGet_b3 g o c x (by omega) hx hc age type seq len lid adv sum w (Hi hr) (Hi hh) (Hi hri) h16 h17
     ·by_cases hlen : len = (x.length : Int)
      ·have hl := l0d age type seq lid adv (x.drop 20)
       have hp := k0d age type seq lid adv (x.drop 20)
       have hd : (x.drop 20).length ≤ 1000000 := by simp; omega
       cases hm : c0o age type lid adv seq (x.drop 20) with
       | mk mage mtype mid madv mseq mlinks mmask mrouters mcost =>
        rw [hm] at hl hp
        obtain ⟨q1, q2, q3, q4, q5⟩ := hp
        simp only at hl q1 q2 q3 q4 q5
        cases hcan : canB ⟨mage, mtype, mid, madv, mseq, mlinks, mmask, mrouters, mcost⟩ with
        | false => exact lsGet_d g o c x (by omega) hx hc age type seq len lid adv sum w (Hi hr) (Hi hh) (Hi hri) h16 h17 (Hi hlen) mage mtype mseq mcost mid madv mmask mlinks mrouters (Hi hm) (by omega) (by omega) (Hi hcan)
        | true =>
         cases heq : (putB ⟨mage, mtype, mid, madv, mseq, mlinks, mmask, mrouters, mcost⟩ == x) with
         | false => exact lsGet_e g o c x (by omega) hx hc age type seq len lid adv sum w (Hi hr) (Hi hh) (Hi hri) h16 h17 (Hi hlen) mage mtype mseq mcost mid madv mmask mlinks mrouters (Hi hm) (by omega) (by omega) (Hi q5) (Hi q4) (by rw [q1]; exact l1) (by rw [q2]; exact l2) q3 (Hi hcan) (Hi heq)
         | true => exact lsGet_f g o c x (by omega) hx hc age type seq len lid adv sum w (Hi hr) (Hi hh) (Hi hri) h16 h17 (Hi hlen) mage mtype mseq mcost mid madv mmask mlinks mrouters (Hi hm) (by omega) (by omega) (Hi q5) (Hi q4) (by rw [q1]; exact l1) (by rw [q2]; exact l2) q3 (Hi hcan) (Hi heq)
      ·exact lsGet_c g o c x (by omega) hx hc age type seq len lid adv sum w (Hi hr) (Hi hh) (Hi hri) h16 h17 hlen
theorem lsGet_rf (sl : Value) (x : List UInt8) (m : LsaD) (e0 : Int) (hx : x.length ≤ 1000000) (w : World) (h : Hid (a0b w sl x)) (hm : Hid (getL x = (m, e0))) :
 Calls Try.prog 69 #[sl] w fun e w' => (∃ v, e = .returned (.tuple #[v, .int .i64 e0]) ∧ LsaF w w' v m) ∧ a03 (fun _ => False) w w' := by
 refine (r0a sl x hx w h).mono ?_
 rintro e w' ⟨⟨v, rfl, hV⟩, hk⟩
 rw [hm.out] at hV ⊢
 exact ⟨⟨v, rfl, hV⟩, hk⟩
def a0s {α : Type} (sz : Nat) (cv : α → List Value) (w : World) (v : Value) (xs : List α) : Prop :=
 ∃ p c, v = .slice p xs.length c ∧ (p = none → c = 0) ∧ xs.length ≤ c ∧ (0 < xs.length → ∃ g o, p = some ⟨g, o, none⟩ ∧ ∀ i x, xs[i]? = some x → w.rangeAt g (o + i * sz) (cv x))
section
variable {α : Type} {sz : Nat} {cv : α → List Value}
theorem a0s.keepF {F : Nat → Prop} {w w' : World} {v : Value} {xs : List α} (h : a0s sz cv w v xs) (k : a03 F w w') (hF : 0 < xs.length → ∀ i, v.ownBlock = some i → ¬ F i) : a0s sz cv w' v xs := by
 obtain ⟨p, c, rfl, hp, hc, h⟩ := h
 refine ⟨p, c, rfl, hp, hc, fun h0 => ?_⟩
 obtain ⟨g, o, rfl, hr⟩ := h h0
 exact ⟨g, o, rfl, fun i x hx => k.rangeAt (hr i x hx) (hF h0 g rfl)⟩
theorem a0s.keep {w w' : World} {v : Value} {xs : List α} (h : a0s sz cv w v xs) (k : a03 (fun _ => False) w w') : a0s sz cv w' v xs := h.keepF k (fun _ _ _ f => f)
theorem a0s.nil (w : World) : a0s sz cv w (.slice none 0 0) ([] : List α) := ⟨none, 0, rfl, fun _ => rfl, Nat.le_refl _, fun h => by simp at h⟩
theorem a0s.open {w : World} {p : Option Addr} {n c : Nat} {xs : List α} (h : a0s sz cv w (.slice p n c) xs) (h0 : 0 < xs.length) : ∃ g o, p = some ⟨g, o, none⟩ ∧ ∀ i x, xs[i]? = some x → w.rangeAt g (o + i * sz) (cv x) := by
 obtain ⟨p', c', e, -, -, hr⟩ := h
 injection e with e1 e2 e3
 subst e1
 exact hr h0
theorem a0s.len {w : World} {p : Option Addr} {n c : Nat} {xs : List α} (h : a0s sz cv w (.slice p n c) xs) : n = xs.length := by
 obtain ⟨p', c', e, _⟩ := h; injection e
theorem a0s.lt {w : World} {v : Value} {xs : List α} (h : a0s sz cv w v xs) (h0 : 0 < xs.length) (hcv : ∀ x, 0 < (cv x).length) : ∀ i, v.ownBlock = some i → i < w.heap.size := fun i e => by
 obtain ⟨p, c, rfl, -, -, hr⟩ := h
 obtain ⟨g, o, rfl, hra⟩ := hr h0
 simp only [Value.ownBlock, Option.some.injEq] at e
 subst e
 have := hra 0 xs[0] (List.getElem?_eq_getElem h0) 0 _ (List.getElem?_eq_getElem (hcv _))
 have := World.block_lt_of_cell? w _ this
 exact this
def d0h (cv : α → List Value) (xs : List α) : List Value := xs.flatMap cv
theorem i07 (xs : List α) (x : α) : d0h cv (xs ++ [x]) = d0h cv xs ++ cv x := by unfold d0h; simp
theorem m0n (hcv : ∀ x, (cv x).length = sz) (xs : List α) : ∀ (i : Nat) (x : α), xs[i]? = some x → ∀ j, j < sz → (d0h cv xs)[i * sz + j]? = (cv x)[j]? := by
 induction xs with
 | nil => intro i l h; simp at h
 | cons n ns ih =>
  intro i x h j hj
  have e : d0h cv (n :: ns) = cv n ++ d0h cv ns := by unfold d0h; rw [List.flatMap_cons]
  rw [e, List.getElem?_append, hcv]
  cases i with
  | zero => simp at h; subst h; rw [if_pos (by omega)]; simp
  | succ i =>
   rw [if_neg (by rw [Nat.add_mul]; omega), ← ih i x (by simpa using h) j hj]; congr 1; rw [Nat.add_mul]; omega
def OwnR (t : TypeId) (sz : Nat) (cv : α → List Value) (w0 w : World) (v : Value) (xs : List α) : Prop :=
 w.ownsRow 0 t sz v xs.length (d0h cv xs) ∧ (∀ k, v.ownBlock = some k → w0.heap.size ≤ k) ∧ w0.heap.size ≤ w.heap.size
theorem OwnR.nil {t : TypeId} (w0 w : World) (h : w0.heap.size ≤ w.heap.size) : OwnR t sz cv w0 w (.slice none 0 0) ([] : List α) := ⟨⟨by simp [d0h], .inl ⟨rfl, by simp [d0h]⟩⟩, by simp [Value.ownBlock], h⟩
theorem OwnR.slice {t : TypeId} {w0 w : World} {v : Value} {xs : List α} (h : OwnR t sz cv w0 w v xs) : ∃ p c, v = .slice p xs.length c := b0c h.1
theorem OwnR.keep {t : TypeId} {F : Nat → Prop} {w0 w w' : World} {v : Value} {xs : List α} (h : OwnR t sz cv w0 w v xs) (k : a03 F w w') (hF : ∀ i, v.ownBlock = some i → ¬ F i) : OwnR t sz cv w0 w' v xs :=
 ⟨k.ownsRow h.1 hF, h.2.1, Nat.le_trans h.2.2 k.size⟩
theorem OwnR.at {t : TypeId} {w0 w : World} {v : Value} {xs : List α} (hcv : ∀ x, (cv x).length = sz) (h : OwnR t sz cv w0 w v xs) : a0s sz cv w v xs := by
 obtain ⟨p, c, rfl⟩ := h.slice
 rcases h.1.2 with ⟨e, h2⟩ | ⟨g, cap, cur, he, _, _, hle, _⟩
 ·injection e with e1 e2 e3; subst e1; subst e3
  exact ⟨none, 0, rfl, fun _ => rfl, by omega, fun h0 => by omega⟩
 ·injection he with e1 e2 e3
  subst e1; subst e3
  refine ⟨_, _, rfl, fun h => (by cases h), hle, fun h0 => ⟨g, 0, rfl, fun i l hl j u hu => ?_⟩⟩
  have hj : j < sz := by have := (List.getElem?_eq_some_iff.1 hu).1; rw [hcv] at this; exact this
  have := h.1.cells (g := g) rfl (i * sz + j) u (by rw [m0n hcv xs i l hl j hj]; exact hu)
  rw [Addr.add_mid] at this
  rw [Nat.zero_add]; rw [Nat.zero_add] at this; exact this
theorem c0v {P : Program} {w : World} {o : Oper} {a : Act} {K : Act → World → Prop} {Q : Exit → Act → World → Prop} (s x : Operand) (t e : TypeId)
 (ho : o.op = .call { callee := .builtin .append, args := #[s, x], argTypes := #[t, t] })
 (i : TypeInfo) (z : Value) (by_ : Nat) (ht : P.underlying t = some (.slice e)) (hi : P.info? e = some i) (hz : i.zero = some z) (hsize : i.size = sz) (hby : i.bytes = by_) (hzs : z.cells.size = sz) (hsz0 : 0 < sz) (hby1 : by_ ≤ 100000)
 (hcv : ∀ x, (cv x).length = sz) (w0 : World) (v : Value) (n : Nat) (xs : List α) (hn : xs.length = n) (hs : a.eval s = v) (hown : OwnR e sz cv w0 w v xs) (ad : Addr) (hx : a.eval x = .slice (some ad) 1 1) (l : α) (hl : ∀ j u, (cv l)[j]? = some u → w.cell? (ad.add j) = some u) (h1 : ∀ u ∈ cv l, u.oneCell' = true) (hsz : n ≤ 1000000000)
 (h : ∀ p c w', OwnR e sz cv w0 w' (.slice p (n + 1) c) (xs ++ [l]) → d09 w v p (n + 1) c w' → K (a.put o.dst (.slice p (n + 1) c)) w') : Oper.wp P o a w K Q := by
 subst hn
 have hb : (xs.length + 1) * by_ ≤ 1000000001 * 100000 := Nat.mul_le_mul (by omega) hby1
 obtain ⟨v', w', hr, h2, h3, h4⟩ := b0y (P := P) w t o.type e i z sz by_ ht hi hz hsize hby hzs hsz0 v xs.length (d0h cv xs) hown.1 ad 1 1 (cv l) (by rw [hcv]; omega) hl h1 (by unfold maxLen; omega) (by omega)
 obtain ⟨p, c, rfl⟩ := b0c h2
 unfold Oper.wp execOp
 simp only [ho, resolve, invoke, builtin, Sem.run_bind, Sem.run_pure, Result.andThen_ok, List.map_toArray, List.map_cons, List.map_nil, hs, hx, hr]
 refine h p c w' ⟨by rw [i07]; simpa using h2, fun k e => ?_, Nat.le_trans hown.2.2 h3.size⟩ ⟨(a03.refl _ _).grown h3 (fun k e => .inl e), h4⟩
 rcases h4 k e with e | e
 ·exact hown.2.1 k e
 ·exact Nat.le_trans hown.2.2 e
theorem g0a {P : Program} {w : World} {ops : Array Oper} {rest : List Oper} {o : Oper} {a : Act} {Q : Exit → Act → World → Prop} (hgd : o.guard = none) (s x : Operand) (t e : TypeId)
 (ho : o.op = .call { callee := .builtin .append, args := #[s, x], argTypes := #[t, t] })
 (i : TypeInfo) (z : Value) (by_ : Nat) (ht : P.underlying t = some (.slice e)) (hi : P.info? e = some i) (hz : i.zero = some z) (hsize : i.size = sz) (hby : i.bytes = by_) (hzs : z.cells.size = sz) (hsz0 : 0 < sz) (hby1 : by_ ≤ 100000)
 (hcv : ∀ x, (cv x).length = sz) (w0 : World) (v : Value) (n : Nat) (xs : List α) (hn : xs.length = n) (hs : a.eval s = v) (hown : OwnR e sz cv w0 w v xs) (ad : Addr) (hx : a.eval x = .slice (some ad) 1 1) (l : α) (hl : ∀ j u, (cv l)[j]? = some u → w.cell? (ad.add j) = some u) (h1 : ∀ u ∈ cv l, u.oneCell' = true) (hsz : n ≤ 1000000000)
 (h : ∀ p c w', Hid (OwnR e sz cv w0 w' (.slice p (n + 1) c) (xs ++ [l])) → Hid (d09 w v p (n + 1) c w') → wpList P ops Q rest (a.put o.dst (.slice p (n + 1) c)) w') : wpList P ops Q (o :: rest) a w :=
 wpList_plain hgd fun _ hK => c0v s x t e ho i z by_ ht hi hz hsize hby hzs hsz0 hby1 hcv w0 v n xs hn hs hown ad hx l hl h1 hsz (fun p c w' h1 h2 => hK _ _ (h p c w' (Hi h1) (Hi h2)))
end
theorem OwnR.keeps {α : Type} {t sz : Nat} {cv : α → List Value} {w0 W W' : World} {v : Value} {xs : List α} (h : OwnR t sz cv w0 W v xs) (k : a03 (fun _ => False) w0 W) {p : Option Addr} {n c : Nat} (g : d09 W v p n c W') : a03 (fun _ => False) w0 W' :=
 k.trans' g.k (fun i e => .inr (h.2.1 i e))
structure KeyD where
 type : Int
 id : Nat
 adv : Nat
structure a0m where
 type : Int
 router : Nat
 area : Nat
 auth : List UInt8
 mask : Nat
 interval : Int
 dead : Int
 priority : Int
 dr : Nat
 bdr : Nat
 nbs : List Nat
 flags : Int
 seq : Nat
 heads : List c0p
 keys : List KeyD
 lsas : List LsaD
def b0d (h : c0p) : List Value := (Ha' h.age h.type h.id h.adv h.seq h.sum h.len)
def b0m (k : KeyD) : List Value := [.int .i64 k.type, .int .u32 k.id, .int .u32 k.adv]
theorem b0r (h : c0p) : (b0d h).length = 7 := rfl
theorem c0f (k : KeyD) : (b0m k).length = 3 := rfl
theorem f0c (h : c0p) : ∀ u ∈ b0d h, u.oneCell' = true := by
 intro u hu; simp [b0d] at hu; rcases hu with rfl | rfl | rfl | rfl | rfl | rfl | rfl <;> rfl
theorem g04 (h : KeyD) : ∀ u ∈ b0m h, u.oneCell' = true := by
 intro u hu; simp [b0m] at hu; rcases hu with rfl | rfl | rfl <;> rfl
structure LsaM where
 d : LsaD
 p5 : Option Addr
 c5 : Nat
 p7 : Option Addr
 c7 : Nat
def d0t (m : LsaM) : List Value := (La' m.d.age m.d.type m.d.id m.d.adv m.d.seq (.slice m.p5 m.d.links.length m.c5) m.d.mask (.slice m.p7 m.d.routers.length m.c7) m.d.cost)
theorem c0r (m : LsaM) : (d0t m).length = 9 := rfl
theorem h07 (h : LsaM) : ∀ u ∈ d0t h, u.oneCell' = true := by
 intro u hu; simp [d0t] at hu; rcases hu with rfl | rfl | rfl | rfl | rfl | rfl | rfl | rfl | rfl <;> rfl
def f0j (w : World) (m : LsaM) : Prop := b03 w (.slice m.p5 m.d.links.length m.c5) m.d.links ∧ a0x w (.slice m.p7 m.d.routers.length m.c7) m.d.routers
theorem f0j.keep {w w' : World} {m : LsaM} (h : f0j w m) (k : a03 (fun _ => False) w w') : f0j w' m := ⟨h.1.keep k, h.2.keep k⟩
def i0t (w : World) (v : Value) (ls : List LsaD) : Prop := ∃ ms : List LsaM, ms.map (·.d) = ls ∧ a0s 9 d0t w v ms ∧ ∀ m ∈ ms, f0j w m
theorem i0t.keep {w w' : World} {v : Value} {x : List LsaD} (h : i0t w v x) (k : a03 (fun _ => False) w w') : i0t w' v x := by
 obtain ⟨ms, h1, h2, h3⟩ := h
 exact ⟨ms, h1, h2.keep k, fun m hm => (h3 m hm).keep k⟩
theorem i0t.nil (w : World) : i0t w (.slice none 0 0) [] := ⟨[], rfl, a0s.nil w, by simp⟩
def g07 (w : World) (v : Value) (hs : List c0p) : Prop := a0s 7 b0d w v hs
def h0p (w : World) (v : Value) (ks : List KeyD) : Prop := a0s 3 b0m w v ks
def a0w (p : a0m) (vn vh vk vl : Value) : List Value :=
 [.int .i64 p.type, .int .u32 p.router, .int .u32 p.area, .string ⟨p.auth.toArray⟩, .int .u32 p.mask, .int .i64 p.interval, .int .i64 p.dead, .int .i64 p.priority, .int .u32 p.dr, .int .u32 p.bdr, vn, .int .i64 p.flags, .int .u32 p.seq, vh, vk, vl]
structure d0f (w : World) (p : a0m) (vn vh vk vl : Value) : Prop where
 n : a0x w vn p.nbs
 h : g07 w vh p.heads
 k : h0p w vk p.keys
 l : i0t w vl p.lsas
theorem d0f.keep {w w' : World} {p : a0m} {vn vh vk vl : Value} (h : d0f w p vn vh vk vl) (k : a03 (fun _ => False) w w') : d0f w' p vn vh vk vl := ⟨h.n.keep k, a0s.keep h.h k, a0s.keep h.k k, h.l.keep k⟩
end Go.Proofs.Ytmggbljkehclpaa
namespace Go.Proofs.Ytmggbljkehclpaa
open Go.RowKit
def c03 (hs : List c0p) : List UInt8 := hs.flatMap d0d
theorem e0c (hs : List c0p) : (c03 hs).length = 20 * hs.length := by
 induction hs with
 | nil => rfl
 | cons n ns ih => unfold c03 at *; rw [List.flatMap_cons, List.length_append, ih, d04, List.length_cons]; omega
theorem k0e (ls : List c0p) (l : c0p) : c03 (ls ++ [l]) = c03 ls ++ d0d l := by unfold c03; simp
def keyB (k : KeyD) : List UInt8 := be 4 (lo32 k.type) ++ be 4 k.id ++ be 4 k.adv
theorem p03 (k : KeyD) : (keyB k).length = 12 := by unfold keyB; simp [a08]
def e0b (ks : List KeyD) : List UInt8 := ks.flatMap keyB
theorem f0t (hs : List KeyD) : (e0b hs).length = 12 * hs.length := by
 induction hs with
 | nil => rfl
 | cons n ns ih => unfold e0b at *; rw [List.flatMap_cons, List.length_append, ih, p03, List.length_cons]; omega
theorem l0a (ls : List KeyD) (l : KeyD) : e0b (ls ++ [l]) = e0b ls ++ keyB l := by unfold e0b; simp
def c0k (ls : List LsaD) : List UInt8 := ls.flatMap putB
theorem l07 (ls : List LsaD) (l : LsaD) : c0k (ls ++ [l]) = c0k ls ++ putB l := by unfold c0k; simp
theorem o01 {l : LsaD} (h : canB l = true) : (putB l).length ≤ 504 := by
 rw [e0f]
 have := f0m (e03 h).1 (e03 h).2
 omega
theorem o0y (ls : List LsaD) (h : ∀ l ∈ ls, canB l = true) : (c0k ls).length ≤ 504 * ls.length := by
 induction ls with
 | nil => simp [c0k]
 | cons n ns ih =>
  unfold c0k at *
  rw [List.flatMap_cons, List.length_append, List.length_cons]
  have h1 := o01 (h n (by simp))
  have h2 := ih (fun l hl => h l (by simp [hl]))
  omega
def l0f (p : a0m) : List UInt8 := be 4 p.mask ++ be 2 (lo16 p.interval) ++ [2, UInt8.ofNat (lo8 p.priority)] ++ be 4 (lo32 p.dead) ++ be 4 p.dr ++ be 4 p.bdr ++ bes p.nbs
theorem l0e (p : a0m) : (l0f p).length = 20 + 4 * p.nbs.length := by unfold l0f; simp [a08, e04]; omega
def b0x (p : a0m) : List UInt8 :=
 if p.type = 1 then l0f p
 else if p.type = 2 then [5, 220, 2, UInt8.ofNat (lo8 p.flags)] ++ be 4 p.seq ++ c03 p.heads
 else if p.type = 3 then e0b p.keys
 else if p.type = 4 then be 4 p.lsas.length ++ c0k p.lsas
 else c03 p.heads
def b0n (k : KeyD) : Bool := !a0e k.type 0 255
def b0e (h : c0p) : Bool := !a0e h.age 0 65535 || (!a0e h.len 0 65535 || (!a0e h.seq (-2147483648) 2147483647 || !a0e h.type 0 255))
def g0m (p : a0m) : Bool := decide (p.mask = 0) && (decide (p.interval = 0) && (decide (p.dead = 0) && (decide (p.priority = 0) && (decide (p.dr = 0) && (decide (p.bdr = 0) && decide (p.nbs.length = 0))))))
def g0w (p : a0m) : Bool := a0e p.interval 1 65535 && (a0e p.dead 1 65535 && (a0e p.priority 0 255 && decide (p.nbs.length ≤ 20)))
def e0k (p : a0m) : Bool :=
 (!decide (p.type = 1) && !g0m p) || ((!decide (p.type = 2) && (!decide (p.flags = 0) || !decide (p.seq = 0))) ||
 ((!decide (p.type = 2) && (!decide (p.type = 5) && decide (0 < p.heads.length))) || ((!decide (p.type = 3) && decide (0 < p.keys.length)) || (!decide (p.type = 4) && decide (0 < p.lsas.length)))))
def n05 (p : a0m) : Bool := decide (p.heads.length ≤ 20) && (!p.heads.any b0e && (decide (p.keys.length ≤ 20) && (!p.keys.any b0n && decide (p.lsas.length ≤ 20))))
def i0q (a : List UInt8) : Bool := decide (a.length ≤ 8) && !a.any (· == 0)
def canP (p : a0m) : Bool := a0e p.type 1 5 && (!e0k p && ((!decide (p.type = 1) || g0w p) && (i0q p.auth && (a0e p.flags 0 7 && n05 p))))
def okP (p : a0m) : Bool := canP p && p.lsas.all canB
def key8 (a : List UInt8) : List UInt8 := h0u (e01 8) 0 (a.take 8)
theorem d0k (a : List UInt8) : (key8 a).length = 8 := by unfold key8; rw [r06 _ _ _ (by rw [f04, List.length_take]; omega), f04]
def d03 (a : List UInt8) : Nat := if a = [] then 0 else 1
def j01 (p : a0m) (n s : Nat) : List UInt8 := [2, UInt8.ofNat (lo8 p.type)] ++ be 2 (24 + n) ++ be 4 p.router ++ be 4 p.area ++ be 2 s ++ be 2 (d03 p.auth)
theorem n08 (p : a0m) (n s : Nat) : (j01 p n s).length = 16 := by unfold j01; simp [a08]
def sumP (p : a0m) : Nat := inet (j01 p (b0x p).length 0 ++ b0x p)
def putP (p : a0m) : List UInt8 := j01 p (b0x p).length (sumP p) ++ key8 p.auth ++ b0x p
theorem h05 (p : a0m) : (putP p).length = 24 + (b0x p).length := by unfold putP; simp [n08, d0k]; omega
theorem c0l {p : a0m} (h : canP p = true) : a0e p.type 1 5 = true ∧ e0k p = false ∧ (p.type = 1 → g0w p = true) ∧ i0q p.auth = true ∧ a0e p.flags 0 7 = true ∧ n05 p = true := by
 unfold canP at h
 simp only [Bool.and_eq_true, Bool.or_eq_true, Bool.not_eq_true', decide_eq_true_eq] at h
 obtain ⟨h1, h2, h3, h4, h5, h6⟩ := h
 refine ⟨h1, h2, fun e => ?_, h4, h5, h6⟩
 rcases h3 with h | h
 ·rw [decide_eq_false_iff_not] at h; exact absurd e h
 ·exact h
theorem e0n {p : a0m} (h : n05 p = true) : p.heads.length ≤ 20 ∧ p.heads.any b0e = false ∧ p.keys.length ≤ 20 ∧ p.keys.any b0n = false ∧ p.lsas.length ≤ 20 := by
 unfold n05 at h
 simpa only [Bool.and_eq_true, Bool.not_eq_true', decide_eq_true_eq] using h
theorem g0c {p : a0m} (h : okP p = true) : (b0x p).length ≤ 10084 := by
 unfold okP at h
 rw [Bool.and_eq_true] at h
 obtain ⟨h1, h2⟩ := h
 obtain ⟨a1, a2, a3, a4, a5, a6⟩ := c0l h1
 obtain ⟨b1, b2, b3, b4, b5⟩ := e0n a6
 have h2' : ∀ l ∈ p.lsas, canB l = true := by simpa using h2
 unfold b0x
 split
 ·rename_i t
  have := a3 t
  unfold g0w at this
  simp only [Bool.and_eq_true, decide_eq_true_eq] at this
  rw [l0e]; omega
 ·split
  ·simp [a08, e0c]; omega
  ·split
   ·rw [f0t]; omega
   ·split
    ·have := o0y p.lsas h2'
     rw [List.length_append, a08]; omega
    ·rw [e0c]; omega
def c08 : a0m := ⟨0, 0, 0, [], 0, 0, 0, 0, 0, 0, [], 0, 0, [], [], []⟩
def d0m (x : List UInt8) (j : Nat) : List c0p := (List.range j).map fun i => a0f (x.drop (20 * i))
theorem d0b (l : List UInt8) (j : Nat) : (d0m l j).length = j := by unfold d0m; simp
theorem l01 (l : List UInt8) (j : Nat) : d0m l (j + 1) = d0m l j ++ [a0f (l.drop (20 * j))] := by unfold d0m; simp [List.range_succ]
def l0z (x : List UInt8) (k : Nat) : KeyD := ⟨(a0d (sub x k 4) : Nat), a0d (sub x (k + 4) 4), a0d (sub x (k + 8) 4)⟩
def e0h (x : List UInt8) (j : Nat) : List KeyD := (List.range j).map fun i => l0z x (12 * i)
theorem f0q (l : List UInt8) (j : Nat) : (e0h l j).length = j := by unfold e0h; simp
theorem k0z (l : List UInt8) (j : Nat) : e0h l (j + 1) = e0h l j ++ [l0z l (12 * j)] := by unfold e0h; simp [List.range_succ]
def d0w : Nat → List UInt8 → List LsaD × Int
 | 0, _ => ([], 0)
 | n + 1, x =>
  if x.length < 20 ∨ (a0f x).len < 20 ∨ (x.length : Int) < (a0f x).len then ([], 3)
  else if (getL (x.take (a0f x).len.toNat)).2 ≠ 0 then ([], (getL (x.take (a0f x).len.toNat)).2)
  else if (d0w n (x.drop (a0f x).len.toNat)).2 ≠ 0 then ([], (d0w n (x.drop (a0f x).len.toNat)).2)
  else ((getL (x.take (a0f x).len.toNat)).1 :: (d0w n (x.drop (a0f x).len.toNat)).1, 0)
def d02 (x : List UInt8) : List LsaD × Int :=
 if x.length < 4 ∨ 20 < a0d (sub x 0 4) then ([], 3) else d0w (a0d (sub x 0 4)) (x.drop 4)
def e0e (type : Int) (router area : Nat) (auth : List UInt8) : a0m := ⟨type, router, area, auth, 0, 0, 0, 0, 0, 0, [], 0, 0, [], [], []⟩
def b0p (type : Int) (router area : Nat) (auth x : List UInt8) : a0m × Int :=
 if type = 1 ∧ 20 ≤ x.length then (⟨1, router, area, auth, a0d (sub x 0 4), (a0d (sub x 4 2) : Nat), (a0d (sub x 8 4) : Nat), ((x.getD 7 0).toNat : Int), a0d (sub x 12 4), a0d (sub x 16 4), c0i (x.drop 20) ((x.length - 20) / 4), 0, 0, [], [], []⟩, 0)
 else if type = 2 ∧ 8 ≤ x.length then (⟨2, router, area, auth, 0, 0, 0, 0, 0, 0, [], ((x.getD 3 0).toNat : Int), a0d (sub x 4 4), d0m (x.drop 8) ((x.length - 8) / 20), [], []⟩, 0)
 else if type = 3 then (⟨3, router, area, auth, 0, 0, 0, 0, 0, 0, [], 0, 0, [], e0h x (x.length / 12), []⟩, 0)
 else if type = 4 then (⟨4, router, area, auth, 0, 0, 0, 0, 0, 0, [], 0, 0, [], [], (d02 x).1⟩, (d02 x).2)
 else if type = 5 then (⟨5, router, area, auth, 0, 0, 0, 0, 0, 0, [], 0, 0, d0m x (x.length / 20), [], []⟩, 0)
 else (e0e type router area auth, 0)
def sumX (x : List UInt8) : Nat := inet (x.take 12 ++ [0, 0] ++ sub x 14 2 ++ x.drop 24)
def getP (x auth : List UInt8) : a0m × Int :=
 if x.length < 24 then (c08, 4)
 else if x.getD 0 0 ≠ 2 ∨ a0d (sub x 2 2) ≠ x.length then (c08, 3)
 else if a0d (sub x 12 2) ≠ sumX x then (c08, 8)
 else if 8 < auth.length ∨ a0d (sub x 14 2) ≠ d03 auth ∨ sub x 16 8 ≠ key8 auth then (c08, 9)
 else if (b0p ((x.getD 1 0).toNat : Int) (a0d (sub x 4 4)) (a0d (sub x 8 4)) auth (x.drop 24)).2 ≠ 0 then (c08, (b0p ((x.getD 1 0).toNat : Int) (a0d (sub x 4 4)) (a0d (sub x 8 4)) auth (x.drop 24)).2)
 else if okP (b0p ((x.getD 1 0).toNat : Int) (a0d (sub x 4 4)) (a0d (sub x 8 4)) auth (x.drop 24)).1 = true ∧ putP (b0p ((x.getD 1 0).toNat : Int) (a0d (sub x 4 4)) (a0d (sub x 8 4)) auth (x.drop 24)).1 = x then ((b0p ((x.getD 1 0).toNat : Int) (a0d (sub x 4 4)) (a0d (sub x 8 4)) auth (x.drop 24)).1, 0)
 else (c08, 3)
end Go.Proofs.Ytmggbljkehclpaa
