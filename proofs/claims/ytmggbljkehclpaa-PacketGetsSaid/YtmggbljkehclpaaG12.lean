/- LQ LR PA PB -/
import Derived.Test.YtmggbljkehclpaaG11
set_option linter.unusedVariables false
set_option linter.unusedSimpArgs false
namespace Go.Proofs.Ytmggbljkehclpaa
open Go.RowKit
set_option maxRecDepth 100000 in
set_option maxHeartbeats 4000000 in
theorem lsGet_e (g o c : Nat) (x : List UInt8) (hx : 20 ≤ x.length) (hx2 : x.length ≤ 1000000) (hc : x.length ≤ c) (age type seq len : Int) (lid adv sum : Nat) (w : World) (hr : Hid (w.rangeAt g o (x.map bv))) (hh : Hid (a0h x = ⟨age, type, lid, adv, seq, sum, len⟩)) (hri : Hid (b0h (x.drop 2) = true)) (h16 : x[16]'(by omega) ≠ 255) (h17 : x[17]'(by omega) ≠ 255) (hlen : Hid (len = (x.length : Int))) (mage mtype mseq mcost : Int) (mid madv mmask : Nat) (mlinks : List b09) (mrouters : List Nat) (hm : Hid (c0p age type lid adv seq (x.drop 20) = ⟨mage, mtype, mid, madv, mseq, mlinks, mmask, mrouters, mcost⟩)) (hml : mlinks.length ≤ 1000000) (hmr : mrouters.length ≤ 1000000) (hlok : Hid (∀ l ∈ mlinks, l.ok)) (hrok : Hid (h06 mrouters)) (hid : mid < 4294967296) (hadv : madv < 4294967296) (hmk : mmask < 4294967296) (hcan : Hid (canB ⟨mage, mtype, mid, madv, mseq, mlinks, mmask, mrouters, mcost⟩ = true)) (heq : Hid ((putB ⟨mage, mtype, mid, madv, mseq, mlinks, mmask, mrouters, mcost⟩ == x) = false)) :
 Calls Try.prog 69 #[.slice (some ⟨g, o, none⟩) x.length c] w (c05 x w) := by
 have hnb : ¬ (b0h (x.drop 2) = false ∨ x.getD 16 0 = 255 ∨ x.getD 17 0 = 255) := by
  rw [List.getD_eq_getElem?_getD, List.getElem?_eq_getElem (by omega), List.getD_eq_getElem?_getD, List.getElem?_eq_getElem (by omega), hri.out]
  rintro (h | h | h)
  ·cases h
  ·exact h16 h
  ·exact h17 h
 have hg : getL x = (d0d, 3) := by
  unfold getL
  rw [if_neg (by omega), if_neg hnb, if_neg (by rw [hh.out]; simp [hlen.out]), if_neg]
  rintro ⟨_, h⟩
  rw [hh.out] at h
  unfold h01 at h
  rw [hm.out] at h
  have := heq.out
  rw [h] at this; simp at this
 clear hnb
 have hg' := Hi hg; clear hg
 have hR : Hid (a06 (w.alloc (.cells Zl 76)) w.heap.size 76 Zm) := Hi (a06.new w _ _)
 have hk : Hid (a02 (fun _ => False) w (w.alloc (.cells Zl 76))) := Hi ((a02.refl _ _).alloc _)
 have hsz : Hid (w.heap.size < (w.alloc (.cells Zl 76)).heap.size) := Hi (by simp)
 go_enter Try.func69, Try.ntmps69
 go_upto_region 1 with fail
 generalize w.alloc (.cells Zl 76) = w0 at hR hk hsz ⊢
 go_wp2_with fail
 refine (e0t g o c x hx (by omega) hc age type seq len lid adv sum _ (Hi (hk.out.rangeAt hr.out id)) hh).mono ?_
 rintro e w1 ⟨rfl, k1⟩
 have hszB : Hid (w.heap.size < w1.heap.size) := Hi (Nat.lt_of_lt_of_le hsz.out k1.size)
 have hH : Hid (a06 (w1.alloc (.cells (Ha age type lid adv seq sum len) 69)) w1.heap.size 69 (Ha' age type lid adv seq sum len)) := Hi (a06.new w1 _ _)
 have hR2 := Hi ((hR.out.keep k1 id).alloc (.cells (Ha age type lid adv seq sum len) 69))
 have hk2 := Hi ((hk.out.trans k1).alloc (.cells (Ha age type lid adv seq sum len) 69))
 clear k1 hR hk hsz
 go_upto_region 4 with ((with_reducible refine a08 4 ?_); refine a07 rfl 69 (.tmp 4) (.tmp 11) rfl _ (Ha age type lid adv seq sum len) rfl rfl b0w rfl (b0i _ _ _ _ _ _ _) ?_)
 generalize w1.alloc (.cells (Ha age type lid adv seq sum len) 69) = w2 at hR2 hk2 hH ⊢
 have hr2 := Hi (hk2.out.rangeAt hr.out id)
 have hb2 := Hi (a0w hr2.out hc 2 (by omega))
 rw [if_neg (by omega)] at hb2
 have c16 := a0i hr2.out 16 (by omega)
 have e16' : (((x[16]'(by omega)).toNat : Int) == 255) = false := by rw [beq_eq_false_iff_ne]; intro h; apply h16; apply UInt8.toNat_inj.mp; show (x[16]'(by omega)).toNat = 255; omega
 have c17 := a0i hr2.out 17 (by omega)
 have e17' : (((x[17]'(by omega)).toNat : Int) == 255) = false := by rw [beq_eq_false_iff_ne]; intro h; apply h17; apply UInt8.toNat_inj.mp; show (x[17]'(by omega)).toNat = 255; omega
 have hl1 : (len != (x.length : Int)) = false := by rw [hlen.out]; simp
 have b6 := hH.out.cell 6 (.int .i64 len) rfl
 clear h16 h17
 go_wp2_with fail
 refine (e0g _ (x.drop 2) true (by simp; omega) _ hb2 hri).mono ?_
 rintro e w' ⟨rfl, rfl⟩
 have c20 : (20 : Int) ≤ c := by omega
 have x20 : (20 : Int) ≤ x.length := by omega
 have htl0 := a0w hr2.out hc 20 (by omega)
 by_cases hck : c = 20
 ·subst hck
  rw [if_pos rfl, show x.length - 20 = 0 by omega] at htl0
  have htl := Hi htl0; clear htl0
  go_upto_region 8 with fail
  clear b6 c16 c17
  refine wp_region_noPanic ?_
  refine wp_region_held_drew (S := (fun W => a02 (fun _ => False) w2 W)) (by kernel_rfl) (((a02.refl (fun _ => False) _).drew)) (fun hHeld => ?_)
  refine tk 0 rfl ?_
  refine tkL 1 rfl (a04 (by rfl) 3 (.tmp 40) rfl w1.heap.size 0 rfl _ (fun _ s => (hH.out.keep s id).cell 0 (.int .i64 age) rfl) (fun w s => a0t w _ _ _ s)) ?_
  refine tk 2 rfl ?_
  refine tkL 3 rfl (yieldsIf_load_mid (by rfl) 67 (.tmp 42) rfl w1.heap.size 1 rfl [.int .i64 type, .int .u32 lid, .int .u32 adv] _ (fun _ s => c02 (hH.out.keep s id)) Try.underlying67 rfl e0m) ?_
  refine tk 4 rfl ?_
  refine tkL 5 rfl (a04 (by rfl) 3 (.tmp 44) rfl w1.heap.size 4 rfl _ (fun _ s => (hH.out.keep s id).cell 4 (.int .i64 seq) rfl) (fun w s => a0t w _ _ _ s)) ?_
  refine tk 6 rfl ?_
  refine tk 7 rfl ?_
  refine tk 8 rfl ?_
  refine b0a [49, 6] [9, 10, 11] (fun L f W =>
   (L 9 = true → L 11 = false → LsaF w2 W (f 49) ⟨mage, mtype, mid, madv, mseq, mlinks, mmask, mrouters, mcost⟩) ∧
   (L 10 = true → L 11 = false → ∃ B, f 6 = .pointer (some ⟨B, 0, none⟩) ∧ w2.heap.size ≤ B ∧ a06 W B 76 Zm) ∧
   (L 9 = true → L 10 = true → L 11 = false → ∃ B, f 6 = .pointer (some ⟨B, 0, none⟩) ∧ LsaX w2.heap.size W (f 49) ⟨mage, mtype, mid, madv, mseq, mlinks, mmask, mrouters, mcost⟩ B) ∧
   (L 11 = true → L 9 = true ∧ L 10 = true ∧ k0m W (f 6) ⟨mage, mtype, mid, madv, mseq, mlinks, mmask, mrouters, mcost⟩ w2.heap.size)) (by kernel_rfl) (by kernel_rfl) (by kernel_rfl) (by kernel_rfl) (Nat.le_of_ble_eq_true (by kernel_rfl)) hHeld
   (fun L f h => ⟨fun e => absurd (h 9 (by decide)) (by rw [e]; decide), fun e => absurd (h 10 (by decide)) (by rw [e]; decide), fun e => absurd (h 9 (by decide)) (by rw [e]; decide), fun e => absurd (h 11 (by decide)) (by rw [e]; decide)⟩) ?_ ?_
  ·refine a0v.cons (d := 49) rfl rfl (by decide) ?_ (a0v.cons (d := 6) rfl rfl (by decide) ?_ (a0v.cons0 rfl rfl ?_ a0v.nil))
   ·intro L f W hG hS hL hdep K hK
    simp only [a0r, List.foldl_cons, List.foldl_nil, Act.put, sA, sZ, sS] at hK ⊢
    rw [if_pos (by rfl)]
    go_simp
    refine (g0h age type seq lid adv _ _ _ (x.drop 20) ⟨mage, mtype, mid, madv, mseq, mlinks, mmask, mrouters, mcost⟩ (by simp; omega) (by simp; omega) _ (Hi (htl.out.keep hS)) hm).mono ?_
    rintro e W' ⟨⟨v, rfl, hV⟩, hk'⟩
    go_wp2_with fail
    refine hK.out _ _ (hS.trans hk') ⟨fun _ _ => hV.older hS.size, fun e10 e11 => ?_, fun _ e10 e11 => ?_, fun e11 => absurd ((hG.2.2.2 e11).1.symm.trans hL) (by decide)⟩
    ·obtain ⟨B, h1, h2, h3⟩ := hG.2.1 e10 e11
     exact ⟨B, h1, h2, h3.keep hk' id⟩
    ·obtain ⟨B, h1, h2, h3⟩ := hG.2.1 e10 e11
     exact ⟨B, h1, hV.away (lt_of_block h3) hS.size⟩
   ·intro L f W hG hS hL hdep K hK
    simp only [a0r, List.foldl_cons, List.foldl_nil, Act.put, sA, sZ, sS] at hK ⊢
    rw [if_pos (by rfl)]
    go_simp
    have hk' : a02 (fun _ => False) W (W.alloc (.cells Zl 76)) := (a02.refl _ _).alloc _
    refine hK.out _ _ (hS.trans hk') ⟨fun e9 e11 => (hG.1 e9 e11).keep hk', fun _ _ => ⟨W.heap.size, rfl, hS.size, a06.new W _ _⟩, fun e9 _ e11 => ⟨W.heap.size, rfl, ((hG.1 e9 e11).away2).keep hk'⟩, fun e11 => absurd ((hG.2.2.2 e11).2.1.symm.trans hL) (by decide)⟩
   ·intro L f W hG hS hL hdep K hK
    simp only [a0r, List.foldl_cons, List.foldl_nil, Act.put, sA, sZ, sS] at hK ⊢
    rw [if_pos (by rfl)]
    have d9 := hdep ⟨9, .data⟩ (by simp) rfl (by decide)
    have d10 := hdep ⟨10, .data⟩ (by simp) rfl (by decide)
    obtain ⟨B, h6, hlo, hblk⟩ := hG.2.1 d10 hL
    obtain ⟨B', h6', p5, c5, p7, c7, h49, hl5, hn7, ha5, ha7, hf5, hf7⟩ := hG.2.2.1 d9 d10 hL
    rw [h6] at h6'; injection h6' with h6'; injection h6' with h6'; injection h6' with h6'; subst h6'
    refine wp_store_mid 76 (.tmp 6) (.tmp 49) rfl B 0 (La mage mtype mid madv mseq (.slice p5 mlinks.length c5) mmask (.slice p7 mrouters.length c7) mcost) h6 h49 (hblk.there 0 9 (Nat.le_refl 9)) b04 (a0z _ _ _ _ _ _ _ _ _ (a03 _ _ _) (a03 _ _ _)) ?_
    have hs9 : a02 (fun i => i = B) W (W.setCells B 0 (La' mage mtype mid madv mseq (.slice p5 mlinks.length c5) mmask (.slice p7 mrouters.length c7) mcost)) := a02.setCells (F := fun i => i = B) (.inl rfl) _ _ _ (a02.refl _ _)
    refine hK.out _ (hS.trans' hs9 (fun i e => .inr (by omega))) ⟨fun _ e => absurd (show true = false from e) (by decide), fun _ e => absurd (show true = false from e) (by decide), fun _ _ e => absurd (show true = false from e) (by decide), fun _ => ⟨d9, d10, B, p5, c5, p7, c7, h6, hlo, World.rangeAt_setCells_same _ _ _ _ (hblk.there 0 9 (Nat.le_refl 9)), hl5.keepF hs9 (fun h0 i e => ha5 h0 i _ _ e), hn7.keepF hs9 (fun h0 i e => ha7 h0 i _ _ e), hf5, hf7⟩⟩
  ·intro f W hG hS
   obtain ⟨-, -, B, p5, c5, p7, c7, h6, hlo, hrB, hl5, hn7, hf5, hf7⟩ := hG.2.2.2 rfl
   simp only [a0r, List.foldl_cons, List.foldl_nil, Act.put, sA, sZ, sS]
   rw [h6]
   generalize f 49 = f49
   have hS' := Hi hS; have hrB' := Hi hrB; have hl5' := Hi hl5; have hn7' := Hi hn7; have hlo' := Hi hlo; have hf5' := Hi hf5; have hf7' := Hi hf7
   have hR3 := Hi (hR2.out.keep hS id); have hk3 := Hi (hk2.out.trans hS)
   clear hG h6 hS hrB hl5 hn7 hlo hf5 hf7 f
   refine NoPanic.normal ?_
   go_wp2_with ((with_reducible refine a09 51 ?_); refine wpList_load_mid rfl 76 (.tmp 6) rfl B 0 rfl (La' mage mtype mid madv mseq (.slice p5 mlinks.length c5) mmask (.slice p7 mrouters.length c7) mcost) _ hrB'.out Try.underlying76 rfl b04 ?_)
   refine (g03 mage mtype mseq mcost mid madv mmask mlinks mrouters p5 p7 c5 c7 _ hl5' hn7' hlok hrok hid hadv hmk hcan).mono ?_
   rintro e w4 ⟨pb, cb, rfl, hOb, k4⟩
   have hR4 := Hi (hR3.out.keep k4 id); have hk4 := Hi (hk3.out.trans k4)
   have hOb' := Hi hOb.bytes
   have hx4 := Hi (a0a.of rfl hc (hk4.out.rangeAt hr.out id))
   have hrB4 := Hi (k4.rangeAt hrB'.out id); have hl54 := Hi (hl5'.out.keep k4); have hn74 := Hi (hn7'.out.keep k4)
   clear k4 hOb hR3 hk3 hrB' hl5' hn7'
   go_wp2_with fail
   refine (d0c _ _ (putB ⟨mage, mtype, mid, madv, mseq, mlinks, mmask, mrouters, mcost⟩) x false _ hOb' hx4 heq).mono ?_
   rintro e w' ⟨rfl, rfl⟩
   go_wp2_with ((with_reducible refine a08 2 ?_); refine a05 rfl 76 (.tmp 2) (.tmp 63) rfl w.heap.size Zl rfl rfl (a06.there hR4.out 0 9 (Nat.le_refl 9)) b04 (a0z _ _ _ _ _ _ _ _ _ (a03 _ _ _) (a03 _ _ _)) ?_; intro w9 hr9 hs9)
   have e0 := a01 hr9.out 0 _ rfl
   have e1 := a01 hr9.out 1 _ rfl
   have e2 := a01 hr9.out 2 _ rfl
   have e3 := a01 hr9.out 3 _ rfl
   have e4 := a01 hr9.out 4 _ rfl
   have e5 := a01 hr9.out 5 _ rfl
   have e6 := a01 hr9.out 6 _ rfl
   have e7 := a01 hr9.out 7 _ rfl
   have e8 := a01 hr9.out 8 _ rfl
   refine bodyPost_ret (v := .tuple #[.agg Zl, .int .i64 3]) (by simp [results, Try.results69, go_sem, e0, e1, e2, e3, e4, e5, e6, e7, e8]) rfl ⟨⟨_, by rw [hg'.out], by rw [hg'.out]; exact LsaF.zero _ _⟩, hk4.out.trans' hs9.out (fun i e => .inr (by omega))⟩
 ·rw [if_neg hck] at htl0
  have htl := Hi htl0; clear htl0
  go_upto_region 8 with fail
  clear b6 c16 c17
  refine wp_region_noPanic ?_
  refine wp_region_held_drew (S := (fun W => a02 (fun _ => False) w2 W)) (by kernel_rfl) (((a02.refl (fun _ => False) _).drew)) (fun hHeld => ?_)
  refine tk 0 rfl ?_
  refine tkL 1 rfl (a04 (by rfl) 3 (.tmp 40) rfl w1.heap.size 0 rfl _ (fun _ s => (hH.out.keep s id).cell 0 (.int .i64 age) rfl) (fun w s => a0t w _ _ _ s)) ?_
  refine tk 2 rfl ?_
  refine tkL 3 rfl (yieldsIf_load_mid (by rfl) 67 (.tmp 42) rfl w1.heap.size 1 rfl [.int .i64 type, .int .u32 lid, .int .u32 adv] _ (fun _ s => c02 (hH.out.keep s id)) Try.underlying67 rfl e0m) ?_
  refine tk 4 rfl ?_
  refine tkL 5 rfl (a04 (by rfl) 3 (.tmp 44) rfl w1.heap.size 4 rfl _ (fun _ s => (hH.out.keep s id).cell 4 (.int .i64 seq) rfl) (fun w s => a0t w _ _ _ s)) ?_
  refine tk 6 rfl ?_
  refine tk 7 rfl ?_
  refine tk 8 rfl ?_
  refine b0a [49, 6] [9, 10, 11] (fun L f W =>
   (L 9 = true → L 11 = false → LsaF w2 W (f 49) ⟨mage, mtype, mid, madv, mseq, mlinks, mmask, mrouters, mcost⟩) ∧
   (L 10 = true → L 11 = false → ∃ B, f 6 = .pointer (some ⟨B, 0, none⟩) ∧ w2.heap.size ≤ B ∧ a06 W B 76 Zm) ∧
   (L 9 = true → L 10 = true → L 11 = false → ∃ B, f 6 = .pointer (some ⟨B, 0, none⟩) ∧ LsaX w2.heap.size W (f 49) ⟨mage, mtype, mid, madv, mseq, mlinks, mmask, mrouters, mcost⟩ B) ∧
   (L 11 = true → L 9 = true ∧ L 10 = true ∧ k0m W (f 6) ⟨mage, mtype, mid, madv, mseq, mlinks, mmask, mrouters, mcost⟩ w2.heap.size)) (by kernel_rfl) (by kernel_rfl) (by kernel_rfl) (by kernel_rfl) (Nat.le_of_ble_eq_true (by kernel_rfl)) hHeld
   (fun L f h => ⟨fun e => absurd (h 9 (by decide)) (by rw [e]; decide), fun e => absurd (h 10 (by decide)) (by rw [e]; decide), fun e => absurd (h 9 (by decide)) (by rw [e]; decide), fun e => absurd (h 11 (by decide)) (by rw [e]; decide)⟩) ?_ ?_
  ·refine a0v.cons (d := 49) rfl rfl (by decide) ?_ (a0v.cons (d := 6) rfl rfl (by decide) ?_ (a0v.cons0 rfl rfl ?_ a0v.nil))
   ·intro L f W hG hS hL hdep K hK
    simp only [a0r, List.foldl_cons, List.foldl_nil, Act.put, sA, sZ, sS] at hK ⊢
    rw [if_pos (by rfl)]
    go_simp
    refine (g0h age type seq lid adv _ _ _ (x.drop 20) ⟨mage, mtype, mid, madv, mseq, mlinks, mmask, mrouters, mcost⟩ (by simp; omega) (by simp) _ (Hi (htl.out.keep hS)) hm).mono ?_
    rintro e W' ⟨⟨v, rfl, hV⟩, hk'⟩
    go_wp2_with fail
    refine hK.out _ _ (hS.trans hk') ⟨fun _ _ => hV.older hS.size, fun e10 e11 => ?_, fun _ e10 e11 => ?_, fun e11 => absurd ((hG.2.2.2 e11).1.symm.trans hL) (by decide)⟩
    ·obtain ⟨B, h1, h2, h3⟩ := hG.2.1 e10 e11
     exact ⟨B, h1, h2, h3.keep hk' id⟩
    ·obtain ⟨B, h1, h2, h3⟩ := hG.2.1 e10 e11
     exact ⟨B, h1, hV.away (lt_of_block h3) hS.size⟩
   ·intro L f W hG hS hL hdep K hK
    simp only [a0r, List.foldl_cons, List.foldl_nil, Act.put, sA, sZ, sS] at hK ⊢
    rw [if_pos (by rfl)]
    go_simp
    have hk' : a02 (fun _ => False) W (W.alloc (.cells Zl 76)) := (a02.refl _ _).alloc _
    refine hK.out _ _ (hS.trans hk') ⟨fun e9 e11 => (hG.1 e9 e11).keep hk', fun _ _ => ⟨W.heap.size, rfl, hS.size, a06.new W _ _⟩, fun e9 _ e11 => ⟨W.heap.size, rfl, ((hG.1 e9 e11).away2).keep hk'⟩, fun e11 => absurd ((hG.2.2.2 e11).2.1.symm.trans hL) (by decide)⟩
   ·intro L f W hG hS hL hdep K hK
    simp only [a0r, List.foldl_cons, List.foldl_nil, Act.put, sA, sZ, sS] at hK ⊢
    rw [if_pos (by rfl)]
    have d9 := hdep ⟨9, .data⟩ (by simp) rfl (by decide)
    have d10 := hdep ⟨10, .data⟩ (by simp) rfl (by decide)
    obtain ⟨B, h6, hlo, hblk⟩ := hG.2.1 d10 hL
    obtain ⟨B', h6', p5, c5, p7, c7, h49, hl5, hn7, ha5, ha7, hf5, hf7⟩ := hG.2.2.1 d9 d10 hL
    rw [h6] at h6'; injection h6' with h6'; injection h6' with h6'; injection h6' with h6'; subst h6'
    refine wp_store_mid 76 (.tmp 6) (.tmp 49) rfl B 0 (La mage mtype mid madv mseq (.slice p5 mlinks.length c5) mmask (.slice p7 mrouters.length c7) mcost) h6 h49 (hblk.there 0 9 (Nat.le_refl 9)) b04 (a0z _ _ _ _ _ _ _ _ _ (a03 _ _ _) (a03 _ _ _)) ?_
    have hs9 : a02 (fun i => i = B) W (W.setCells B 0 (La' mage mtype mid madv mseq (.slice p5 mlinks.length c5) mmask (.slice p7 mrouters.length c7) mcost)) := a02.setCells (F := fun i => i = B) (.inl rfl) _ _ _ (a02.refl _ _)
    refine hK.out _ (hS.trans' hs9 (fun i e => .inr (by omega))) ⟨fun _ e => absurd (show true = false from e) (by decide), fun _ e => absurd (show true = false from e) (by decide), fun _ _ e => absurd (show true = false from e) (by decide), fun _ => ⟨d9, d10, B, p5, c5, p7, c7, h6, hlo, World.rangeAt_setCells_same _ _ _ _ (hblk.there 0 9 (Nat.le_refl 9)), hl5.keepF hs9 (fun h0 i e => ha5 h0 i _ _ e), hn7.keepF hs9 (fun h0 i e => ha7 h0 i _ _ e), hf5, hf7⟩⟩
  ·intro f W hG hS
   obtain ⟨-, -, B, p5, c5, p7, c7, h6, hlo, hrB, hl5, hn7, hf5, hf7⟩ := hG.2.2.2 rfl
   simp only [a0r, List.foldl_cons, List.foldl_nil, Act.put, sA, sZ, sS]
   rw [h6]
   generalize f 49 = f49
   have hS' := Hi hS; have hrB' := Hi hrB; have hl5' := Hi hl5; have hn7' := Hi hn7; have hlo' := Hi hlo; have hf5' := Hi hf5; have hf7' := Hi hf7
   have hR3 := Hi (hR2.out.keep hS id); have hk3 := Hi (hk2.out.trans hS)
   clear hG h6 hS hrB hl5 hn7 hlo hf5 hf7 f
   refine NoPanic.normal ?_
   go_wp2_with ((with_reducible refine a09 51 ?_); refine wpList_load_mid rfl 76 (.tmp 6) rfl B 0 rfl (La' mage mtype mid madv mseq (.slice p5 mlinks.length c5) mmask (.slice p7 mrouters.length c7) mcost) _ hrB'.out Try.underlying76 rfl b04 ?_)
   refine (g03 mage mtype mseq mcost mid madv mmask mlinks mrouters p5 p7 c5 c7 _ hl5' hn7' hlok hrok hid hadv hmk hcan).mono ?_
   rintro e w4 ⟨pb, cb, rfl, hOb, k4⟩
   have hR4 := Hi (hR3.out.keep k4 id); have hk4 := Hi (hk3.out.trans k4)
   have hOb' := Hi hOb.bytes
   have hx4 := Hi (a0a.of rfl hc (hk4.out.rangeAt hr.out id))
   have hrB4 := Hi (k4.rangeAt hrB'.out id); have hl54 := Hi (hl5'.out.keep k4); have hn74 := Hi (hn7'.out.keep k4)
   clear k4 hOb hR3 hk3 hrB' hl5' hn7'
   go_wp2_with fail
   refine (d0c _ _ (putB ⟨mage, mtype, mid, madv, mseq, mlinks, mmask, mrouters, mcost⟩) x false _ hOb' hx4 heq).mono ?_
   rintro e w' ⟨rfl, rfl⟩
   go_wp2_with ((with_reducible refine a08 2 ?_); refine a05 rfl 76 (.tmp 2) (.tmp 63) rfl w.heap.size Zl rfl rfl (a06.there hR4.out 0 9 (Nat.le_refl 9)) b04 (a0z _ _ _ _ _ _ _ _ _ (a03 _ _ _) (a03 _ _ _)) ?_; intro w9 hr9 hs9)
   have e0 := a01 hr9.out 0 _ rfl
   have e1 := a01 hr9.out 1 _ rfl
   have e2 := a01 hr9.out 2 _ rfl
   have e3 := a01 hr9.out 3 _ rfl
   have e4 := a01 hr9.out 4 _ rfl
   have e5 := a01 hr9.out 5 _ rfl
   have e6 := a01 hr9.out 6 _ rfl
   have e7 := a01 hr9.out 7 _ rfl
   have e8 := a01 hr9.out 8 _ rfl
   refine bodyPost_ret (v := .tuple #[.agg Zl, .int .i64 3]) (by simp [results, Try.results69, go_sem, e0, e1, e2, e3, e4, e5, e6, e7, e8]) rfl ⟨⟨_, by rw [hg'.out], by rw [hg'.out]; exact LsaF.zero _ _⟩, hk4.out.trans' hs9.out (fun i e => .inr (by omega))⟩
set_option maxRecDepth 100000 in
set_option maxHeartbeats 4000000 in
theorem lsGet_f (g o c : Nat) (x : List UInt8) (hx : 20 ≤ x.length) (hx2 : x.length ≤ 1000000) (hc : x.length ≤ c) (age type seq len : Int) (lid adv sum : Nat) (w : World) (hr : Hid (w.rangeAt g o (x.map bv))) (hh : Hid (a0h x = ⟨age, type, lid, adv, seq, sum, len⟩)) (hri : Hid (b0h (x.drop 2) = true)) (h16 : x[16]'(by omega) ≠ 255) (h17 : x[17]'(by omega) ≠ 255) (hlen : Hid (len = (x.length : Int))) (mage mtype mseq mcost : Int) (mid madv mmask : Nat) (mlinks : List b09) (mrouters : List Nat) (hm : Hid (c0p age type lid adv seq (x.drop 20) = ⟨mage, mtype, mid, madv, mseq, mlinks, mmask, mrouters, mcost⟩)) (hml : mlinks.length ≤ 1000000) (hmr : mrouters.length ≤ 1000000) (hlok : Hid (∀ l ∈ mlinks, l.ok)) (hrok : Hid (h06 mrouters)) (hid : mid < 4294967296) (hadv : madv < 4294967296) (hmk : mmask < 4294967296) (hcan : Hid (canB ⟨mage, mtype, mid, madv, mseq, mlinks, mmask, mrouters, mcost⟩ = true)) (heq : Hid ((putB ⟨mage, mtype, mid, madv, mseq, mlinks, mmask, mrouters, mcost⟩ == x) = true)) :
 Calls Try.prog 69 #[.slice (some ⟨g, o, none⟩) x.length c] w (c05 x w) := by
 have hnb : ¬ (b0h (x.drop 2) = false ∨ x.getD 16 0 = 255 ∨ x.getD 17 0 = 255) := by
  rw [List.getD_eq_getElem?_getD, List.getElem?_eq_getElem (by omega), List.getD_eq_getElem?_getD, List.getElem?_eq_getElem (by omega), hri.out]
  rintro (h | h | h)
  ·cases h
  ·exact h16 h
  ·exact h17 h
 have hg : getL x = (⟨mage, mtype, mid, madv, mseq, mlinks, mmask, mrouters, mcost⟩, 0) := by
  unfold getL
  rw [if_neg (by omega), if_neg hnb, if_neg (by rw [hh.out]; simp [hlen.out]), if_pos]
  ·rw [hh.out]; unfold h01; rw [hm.out]
  ·rw [hh.out]; unfold h01; rw [hm.out]; exact ⟨hcan.out, by simpa using heq.out⟩
 clear hnb
 have hg' := Hi hg; clear hg
 have hR : Hid (a06 (w.alloc (.cells Zl 76)) w.heap.size 76 Zm) := Hi (a06.new w _ _)
 have hk : Hid (a02 (fun _ => False) w (w.alloc (.cells Zl 76))) := Hi ((a02.refl _ _).alloc _)
 have hsz : Hid (w.heap.size < (w.alloc (.cells Zl 76)).heap.size) := Hi (by simp)
 go_enter Try.func69, Try.ntmps69
 go_upto_region 1 with fail
 generalize w.alloc (.cells Zl 76) = w0 at hR hk hsz ⊢
 go_wp2_with fail
 refine (e0t g o c x hx (by omega) hc age type seq len lid adv sum _ (Hi (hk.out.rangeAt hr.out id)) hh).mono ?_
 rintro e w1 ⟨rfl, k1⟩
 have hszB : Hid (w.heap.size < w1.heap.size) := Hi (Nat.lt_of_lt_of_le hsz.out k1.size)
 have hH : Hid (a06 (w1.alloc (.cells (Ha age type lid adv seq sum len) 69)) w1.heap.size 69 (Ha' age type lid adv seq sum len)) := Hi (a06.new w1 _ _)
 have hR2 := Hi ((hR.out.keep k1 id).alloc (.cells (Ha age type lid adv seq sum len) 69))
 have hk2 := Hi ((hk.out.trans k1).alloc (.cells (Ha age type lid adv seq sum len) 69))
 clear k1 hR hk hsz
 go_upto_region 4 with ((with_reducible refine a08 4 ?_); refine a07 rfl 69 (.tmp 4) (.tmp 11) rfl _ (Ha age type lid adv seq sum len) rfl rfl b0w rfl (b0i _ _ _ _ _ _ _) ?_)
 generalize w1.alloc (.cells (Ha age type lid adv seq sum len) 69) = w2 at hR2 hk2 hH ⊢
 have hsz2 : Hid (w.heap.size < w2.heap.size) := Hi (lt_of_block hR2.out)
 have hr2 := Hi (hk2.out.rangeAt hr.out id)
 have hb2 := Hi (a0w hr2.out hc 2 (by omega))
 rw [if_neg (by omega)] at hb2
 have c16 := a0i hr2.out 16 (by omega)
 have e16' : (((x[16]'(by omega)).toNat : Int) == 255) = false := by rw [beq_eq_false_iff_ne]; intro h; apply h16; apply UInt8.toNat_inj.mp; show (x[16]'(by omega)).toNat = 255; omega
 have c17 := a0i hr2.out 17 (by omega)
 have e17' : (((x[17]'(by omega)).toNat : Int) == 255) = false := by rw [beq_eq_false_iff_ne]; intro h; apply h17; apply UInt8.toNat_inj.mp; show (x[17]'(by omega)).toNat = 255; omega
 have hl1 : (len != (x.length : Int)) = false := by rw [hlen.out]; simp
 have b6 := hH.out.cell 6 (.int .i64 len) rfl
 clear h16 h17
 go_wp2_with fail
 refine (e0g _ (x.drop 2) true (by simp; omega) _ hb2 hri).mono ?_
 rintro e w' ⟨rfl, rfl⟩
 have c20 : (20 : Int) ≤ c := by omega
 have x20 : (20 : Int) ≤ x.length := by omega
 have htl0 := a0w hr2.out hc 20 (by omega)
 by_cases hck : c = 20
 ·subst hck
  rw [if_pos rfl, show x.length - 20 = 0 by omega] at htl0
  have htl := Hi htl0; clear htl0
  go_upto_region 8 with fail
  clear b6 c16 c17
  refine wp_region_noPanic ?_
  refine wp_region_held_drew (S := (fun W => a02 (fun _ => False) w2 W)) (by kernel_rfl) (((a02.refl (fun _ => False) _).drew)) (fun hHeld => ?_)
  refine tk 0 rfl ?_
  refine tkL 1 rfl (a04 (by rfl) 3 (.tmp 40) rfl w1.heap.size 0 rfl _ (fun _ s => (hH.out.keep s id).cell 0 (.int .i64 age) rfl) (fun w s => a0t w _ _ _ s)) ?_
  refine tk 2 rfl ?_
  refine tkL 3 rfl (yieldsIf_load_mid (by rfl) 67 (.tmp 42) rfl w1.heap.size 1 rfl [.int .i64 type, .int .u32 lid, .int .u32 adv] _ (fun _ s => c02 (hH.out.keep s id)) Try.underlying67 rfl e0m) ?_
  refine tk 4 rfl ?_
  refine tkL 5 rfl (a04 (by rfl) 3 (.tmp 44) rfl w1.heap.size 4 rfl _ (fun _ s => (hH.out.keep s id).cell 4 (.int .i64 seq) rfl) (fun w s => a0t w _ _ _ s)) ?_
  refine tk 6 rfl ?_
  refine tk 7 rfl ?_
  refine tk 8 rfl ?_
  refine b0a [49, 6] [9, 10, 11] (fun L f W =>
   (L 9 = true → L 11 = false → LsaF w2 W (f 49) ⟨mage, mtype, mid, madv, mseq, mlinks, mmask, mrouters, mcost⟩) ∧
   (L 10 = true → L 11 = false → ∃ B, f 6 = .pointer (some ⟨B, 0, none⟩) ∧ w2.heap.size ≤ B ∧ a06 W B 76 Zm) ∧
   (L 9 = true → L 10 = true → L 11 = false → ∃ B, f 6 = .pointer (some ⟨B, 0, none⟩) ∧ LsaX w2.heap.size W (f 49) ⟨mage, mtype, mid, madv, mseq, mlinks, mmask, mrouters, mcost⟩ B) ∧
   (L 11 = true → L 9 = true ∧ L 10 = true ∧ k0m W (f 6) ⟨mage, mtype, mid, madv, mseq, mlinks, mmask, mrouters, mcost⟩ w2.heap.size)) (by kernel_rfl) (by kernel_rfl) (by kernel_rfl) (by kernel_rfl) (Nat.le_of_ble_eq_true (by kernel_rfl)) hHeld
   (fun L f h => ⟨fun e => absurd (h 9 (by decide)) (by rw [e]; decide), fun e => absurd (h 10 (by decide)) (by rw [e]; decide), fun e => absurd (h 9 (by decide)) (by rw [e]; decide), fun e => absurd (h 11 (by decide)) (by rw [e]; decide)⟩) ?_ ?_
  ·refine a0v.cons (d := 49) rfl rfl (by decide) ?_ (a0v.cons (d := 6) rfl rfl (by decide) ?_ (a0v.cons0 rfl rfl ?_ a0v.nil))
   ·intro L f W hG hS hL hdep K hK
    simp only [a0r, List.foldl_cons, List.foldl_nil, Act.put, sA, sZ, sS] at hK ⊢
    rw [if_pos (by rfl)]
    go_simp
    refine (g0h age type seq lid adv _ _ _ (x.drop 20) ⟨mage, mtype, mid, madv, mseq, mlinks, mmask, mrouters, mcost⟩ (by simp; omega) (by simp; omega) _ (Hi (htl.out.keep hS)) hm).mono ?_
    rintro e W' ⟨⟨v, rfl, hV⟩, hk'⟩
    go_wp2_with fail
    refine hK.out _ _ (hS.trans hk') ⟨fun _ _ => hV.older hS.size, fun e10 e11 => ?_, fun _ e10 e11 => ?_, fun e11 => absurd ((hG.2.2.2 e11).1.symm.trans hL) (by decide)⟩
    ·obtain ⟨B, h1, h2, h3⟩ := hG.2.1 e10 e11
     exact ⟨B, h1, h2, h3.keep hk' id⟩
    ·obtain ⟨B, h1, h2, h3⟩ := hG.2.1 e10 e11
     exact ⟨B, h1, hV.away (lt_of_block h3) hS.size⟩
   ·intro L f W hG hS hL hdep K hK
    simp only [a0r, List.foldl_cons, List.foldl_nil, Act.put, sA, sZ, sS] at hK ⊢
    rw [if_pos (by rfl)]
    go_simp
    have hk' : a02 (fun _ => False) W (W.alloc (.cells Zl 76)) := (a02.refl _ _).alloc _
    refine hK.out _ _ (hS.trans hk') ⟨fun e9 e11 => (hG.1 e9 e11).keep hk', fun _ _ => ⟨W.heap.size, rfl, hS.size, a06.new W _ _⟩, fun e9 _ e11 => ⟨W.heap.size, rfl, ((hG.1 e9 e11).away2).keep hk'⟩, fun e11 => absurd ((hG.2.2.2 e11).2.1.symm.trans hL) (by decide)⟩
   ·intro L f W hG hS hL hdep K hK
    simp only [a0r, List.foldl_cons, List.foldl_nil, Act.put, sA, sZ, sS] at hK ⊢
    rw [if_pos (by rfl)]
    have d9 := hdep ⟨9, .data⟩ (by simp) rfl (by decide)
    have d10 := hdep ⟨10, .data⟩ (by simp) rfl (by decide)
    obtain ⟨B, h6, hlo, hblk⟩ := hG.2.1 d10 hL
    obtain ⟨B', h6', p5, c5, p7, c7, h49, hl5, hn7, ha5, ha7, hf5, hf7⟩ := hG.2.2.1 d9 d10 hL
    rw [h6] at h6'; injection h6' with h6'; injection h6' with h6'; injection h6' with h6'; subst h6'
    refine wp_store_mid 76 (.tmp 6) (.tmp 49) rfl B 0 (La mage mtype mid madv mseq (.slice p5 mlinks.length c5) mmask (.slice p7 mrouters.length c7) mcost) h6 h49 (hblk.there 0 9 (Nat.le_refl 9)) b04 (a0z _ _ _ _ _ _ _ _ _ (a03 _ _ _) (a03 _ _ _)) ?_
    have hs9 : a02 (fun i => i = B) W (W.setCells B 0 (La' mage mtype mid madv mseq (.slice p5 mlinks.length c5) mmask (.slice p7 mrouters.length c7) mcost)) := a02.setCells (F := fun i => i = B) (.inl rfl) _ _ _ (a02.refl _ _)
    refine hK.out _ (hS.trans' hs9 (fun i e => .inr (by omega))) ⟨fun _ e => absurd (show true = false from e) (by decide), fun _ e => absurd (show true = false from e) (by decide), fun _ _ e => absurd (show true = false from e) (by decide), fun _ => ⟨d9, d10, B, p5, c5, p7, c7, h6, hlo, World.rangeAt_setCells_same _ _ _ _ (hblk.there 0 9 (Nat.le_refl 9)), hl5.keepF hs9 (fun h0 i e => ha5 h0 i _ _ e), hn7.keepF hs9 (fun h0 i e => ha7 h0 i _ _ e), hf5, hf7⟩⟩
  ·intro f W hG hS
   obtain ⟨-, -, B, p5, c5, p7, c7, h6, hlo, hrB, hl5, hn7, hf5, hf7⟩ := hG.2.2.2 rfl
   simp only [a0r, List.foldl_cons, List.foldl_nil, Act.put, sA, sZ, sS]
   rw [h6]
   generalize f 49 = f49
   have hS' := Hi hS; have hrB' := Hi hrB; have hl5' := Hi hl5; have hn7' := Hi hn7; have hlo' := Hi hlo; have hf5' := Hi hf5; have hf7' := Hi hf7
   have hR3 := Hi (hR2.out.keep hS id); have hk3 := Hi (hk2.out.trans hS)
   clear hG h6 hS hrB hl5 hn7 hlo hf5 hf7 f
   refine NoPanic.normal ?_
   go_wp2_with ((with_reducible refine a09 51 ?_); refine wpList_load_mid rfl 76 (.tmp 6) rfl B 0 rfl (La' mage mtype mid madv mseq (.slice p5 mlinks.length c5) mmask (.slice p7 mrouters.length c7) mcost) _ hrB'.out Try.underlying76 rfl b04 ?_)
   refine (g03 mage mtype mseq mcost mid madv mmask mlinks mrouters p5 p7 c5 c7 _ hl5' hn7' hlok hrok hid hadv hmk hcan).mono ?_
   rintro e w4 ⟨pb, cb, rfl, hOb, k4⟩
   have hR4 := Hi (hR3.out.keep k4 id); have hk4 := Hi (hk3.out.trans k4)
   have hOb' := Hi hOb.bytes
   have hx4 := Hi (a0a.of rfl hc (hk4.out.rangeAt hr.out id))
   have hrB4 := Hi (k4.rangeAt hrB'.out id); have hl54 := Hi (hl5'.out.keep k4); have hn74 := Hi (hn7'.out.keep k4)
   clear k4 hOb hR3 hk3 hrB' hl5' hn7'
   go_wp2_with fail
   refine (d0c _ _ (putB ⟨mage, mtype, mid, madv, mseq, mlinks, mmask, mrouters, mcost⟩) x true _ hOb' hx4 heq).mono ?_
   rintro e w' ⟨rfl, rfl⟩
   go_wp2_with (first | ((with_reducible refine a09 64 ?_); refine wpList_load_mid rfl 76 (.tmp 6) rfl B 0 rfl (La' mage mtype mid madv mseq (.slice p5 mlinks.length c5) mmask (.slice p7 mrouters.length c7) mcost) _ hrB4.out Try.underlying76 rfl b04 ?_) | ((with_reducible refine a08 2 ?_); refine a05 rfl 76 (.tmp 2) (.tmp 64) rfl w.heap.size (La mage mtype mid madv mseq (.slice p5 mlinks.length c5) mmask (.slice p7 mrouters.length c7) mcost) rfl rfl (a06.there hR4.out 0 9 (Nat.le_refl 9)) b04 (a0z _ _ _ _ _ _ _ _ _ (a03 _ _ _) (a03 _ _ _)) ?_; intro w9 hr9 hs9))
   have e0 := a01 hr9.out 0 _ rfl
   have e1 := a01 hr9.out 1 _ rfl
   have e2 := a01 hr9.out 2 _ rfl
   have e3 := a01 hr9.out 3 _ rfl
   have e4 := a01 hr9.out 4 _ rfl
   have e5 := a01 hr9.out 5 _ rfl
   have e6 := a01 hr9.out 6 _ rfl
   have e7 := a01 hr9.out 7 _ rfl
   have e8 := a01 hr9.out 8 _ rfl
   refine bodyPost_ret (v := .tuple #[.agg (La mage mtype mid madv mseq (.slice p5 mlinks.length c5) mmask (.slice p7 mrouters.length c7) mcost), .int .i64 0]) (by simp [results, Try.results69, go_sem, e0, e1, e2, e3, e4, e5, e6, e7, e8]) rfl ⟨⟨_, by rw [hg'.out], by rw [hg'.out]; exact ⟨p5, c5, p7, c7, rfl, hl54.out.keepF hs9.out (fun _ i e => by have := hf5'.out i _ _ e; have := hsz2.out; omega), hn74.out.keepF hs9.out (fun _ i e => by have := hf7'.out i _ _ e; have := hsz2.out; omega), (fun i n c e => by have := hf5'.out i n c e; have := hsz2.out; omega), (fun i n c e => by have := hf7'.out i n c e; have := hsz2.out; omega)⟩⟩, hk4.out.trans' hs9.out (fun i e => .inr (by omega))⟩
 ·rw [if_neg hck] at htl0
  have htl := Hi htl0; clear htl0
  go_upto_region 8 with fail
  clear b6 c16 c17
  refine wp_region_noPanic ?_
  refine wp_region_held_drew (S := (fun W => a02 (fun _ => False) w2 W)) (by kernel_rfl) (((a02.refl (fun _ => False) _).drew)) (fun hHeld => ?_)
  refine tk 0 rfl ?_
  refine tkL 1 rfl (a04 (by rfl) 3 (.tmp 40) rfl w1.heap.size 0 rfl _ (fun _ s => (hH.out.keep s id).cell 0 (.int .i64 age) rfl) (fun w s => a0t w _ _ _ s)) ?_
  refine tk 2 rfl ?_
  refine tkL 3 rfl (yieldsIf_load_mid (by rfl) 67 (.tmp 42) rfl w1.heap.size 1 rfl [.int .i64 type, .int .u32 lid, .int .u32 adv] _ (fun _ s => c02 (hH.out.keep s id)) Try.underlying67 rfl e0m) ?_
  refine tk 4 rfl ?_
  refine tkL 5 rfl (a04 (by rfl) 3 (.tmp 44) rfl w1.heap.size 4 rfl _ (fun _ s => (hH.out.keep s id).cell 4 (.int .i64 seq) rfl) (fun w s => a0t w _ _ _ s)) ?_
  refine tk 6 rfl ?_
  refine tk 7 rfl ?_
  refine tk 8 rfl ?_
  refine b0a [49, 6] [9, 10, 11] (fun L f W =>
   (L 9 = true → L 11 = false → LsaF w2 W (f 49) ⟨mage, mtype, mid, madv, mseq, mlinks, mmask, mrouters, mcost⟩) ∧
   (L 10 = true → L 11 = false → ∃ B, f 6 = .pointer (some ⟨B, 0, none⟩) ∧ w2.heap.size ≤ B ∧ a06 W B 76 Zm) ∧
   (L 9 = true → L 10 = true → L 11 = false → ∃ B, f 6 = .pointer (some ⟨B, 0, none⟩) ∧ LsaX w2.heap.size W (f 49) ⟨mage, mtype, mid, madv, mseq, mlinks, mmask, mrouters, mcost⟩ B) ∧
   (L 11 = true → L 9 = true ∧ L 10 = true ∧ k0m W (f 6) ⟨mage, mtype, mid, madv, mseq, mlinks, mmask, mrouters, mcost⟩ w2.heap.size)) (by kernel_rfl) (by kernel_rfl) (by kernel_rfl) (by kernel_rfl) (Nat.le_of_ble_eq_true (by kernel_rfl)) hHeld
   (fun L f h => ⟨fun e => absurd (h 9 (by decide)) (by rw [e]; decide), fun e => absurd (h 10 (by decide)) (by rw [e]; decide), fun e => absurd (h 9 (by decide)) (by rw [e]; decide), fun e => absurd (h 11 (by decide)) (by rw [e]; decide)⟩) ?_ ?_
  ·refine a0v.cons (d := 49) rfl rfl (by decide) ?_ (a0v.cons (d := 6) rfl rfl (by decide) ?_ (a0v.cons0 rfl rfl ?_ a0v.nil))
   ·intro L f W hG hS hL hdep K hK
    simp only [a0r, List.foldl_cons, List.foldl_nil, Act.put, sA, sZ, sS] at hK ⊢
    rw [if_pos (by rfl)]
    go_simp
    refine (g0h age type seq lid adv _ _ _ (x.drop 20) ⟨mage, mtype, mid, madv, mseq, mlinks, mmask, mrouters, mcost⟩ (by simp; omega) (by simp) _ (Hi (htl.out.keep hS)) hm).mono ?_
    rintro e W' ⟨⟨v, rfl, hV⟩, hk'⟩
    go_wp2_with fail
    refine hK.out _ _ (hS.trans hk') ⟨fun _ _ => hV.older hS.size, fun e10 e11 => ?_, fun _ e10 e11 => ?_, fun e11 => absurd ((hG.2.2.2 e11).1.symm.trans hL) (by decide)⟩
    ·obtain ⟨B, h1, h2, h3⟩ := hG.2.1 e10 e11
     exact ⟨B, h1, h2, h3.keep hk' id⟩
    ·obtain ⟨B, h1, h2, h3⟩ := hG.2.1 e10 e11
     exact ⟨B, h1, hV.away (lt_of_block h3) hS.size⟩
   ·intro L f W hG hS hL hdep K hK
    simp only [a0r, List.foldl_cons, List.foldl_nil, Act.put, sA, sZ, sS] at hK ⊢
    rw [if_pos (by rfl)]
    go_simp
    have hk' : a02 (fun _ => False) W (W.alloc (.cells Zl 76)) := (a02.refl _ _).alloc _
    refine hK.out _ _ (hS.trans hk') ⟨fun e9 e11 => (hG.1 e9 e11).keep hk', fun _ _ => ⟨W.heap.size, rfl, hS.size, a06.new W _ _⟩, fun e9 _ e11 => ⟨W.heap.size, rfl, ((hG.1 e9 e11).away2).keep hk'⟩, fun e11 => absurd ((hG.2.2.2 e11).2.1.symm.trans hL) (by decide)⟩
   ·intro L f W hG hS hL hdep K hK
    simp only [a0r, List.foldl_cons, List.foldl_nil, Act.put, sA, sZ, sS] at hK ⊢
    rw [if_pos (by rfl)]
    have d9 := hdep ⟨9, .data⟩ (by simp) rfl (by decide)
    have d10 := hdep ⟨10, .data⟩ (by simp) rfl (by decide)
    obtain ⟨B, h6, hlo, hblk⟩ := hG.2.1 d10 hL
    obtain ⟨B', h6', p5, c5, p7, c7, h49, hl5, hn7, ha5, ha7, hf5, hf7⟩ := hG.2.2.1 d9 d10 hL
    rw [h6] at h6'; injection h6' with h6'; injection h6' with h6'; injection h6' with h6'; subst h6'
    refine wp_store_mid 76 (.tmp 6) (.tmp 49) rfl B 0 (La mage mtype mid madv mseq (.slice p5 mlinks.length c5) mmask (.slice p7 mrouters.length c7) mcost) h6 h49 (hblk.there 0 9 (Nat.le_refl 9)) b04 (a0z _ _ _ _ _ _ _ _ _ (a03 _ _ _) (a03 _ _ _)) ?_
    have hs9 : a02 (fun i => i = B) W (W.setCells B 0 (La' mage mtype mid madv mseq (.slice p5 mlinks.length c5) mmask (.slice p7 mrouters.length c7) mcost)) := a02.setCells (F := fun i => i = B) (.inl rfl) _ _ _ (a02.refl _ _)
    refine hK.out _ (hS.trans' hs9 (fun i e => .inr (by omega))) ⟨fun _ e => absurd (show true = false from e) (by decide), fun _ e => absurd (show true = false from e) (by decide), fun _ _ e => absurd (show true = false from e) (by decide), fun _ => ⟨d9, d10, B, p5, c5, p7, c7, h6, hlo, World.rangeAt_setCells_same _ _ _ _ (hblk.there 0 9 (Nat.le_refl 9)), hl5.keepF hs9 (fun h0 i e => ha5 h0 i _ _ e), hn7.keepF hs9 (fun h0 i e => ha7 h0 i _ _ e), hf5, hf7⟩⟩
  ·intro f W hG hS
   obtain ⟨-, -, B, p5, c5, p7, c7, h6, hlo, hrB, hl5, hn7, hf5, hf7⟩ := hG.2.2.2 rfl
   simp only [a0r, List.foldl_cons, List.foldl_nil, Act.put, sA, sZ, sS]
   rw [h6]
   generalize f 49 = f49
   have hS' := Hi hS; have hrB' := Hi hrB; have hl5' := Hi hl5; have hn7' := Hi hn7; have hlo' := Hi hlo; have hf5' := Hi hf5; have hf7' := Hi hf7
   have hR3 := Hi (hR2.out.keep hS id); have hk3 := Hi (hk2.out.trans hS)
   clear hG h6 hS hrB hl5 hn7 hlo hf5 hf7 f
   refine NoPanic.normal ?_
   go_wp2_with ((with_reducible refine a09 51 ?_); refine wpList_load_mid rfl 76 (.tmp 6) rfl B 0 rfl (La' mage mtype mid madv mseq (.slice p5 mlinks.length c5) mmask (.slice p7 mrouters.length c7) mcost) _ hrB'.out Try.underlying76 rfl b04 ?_)
   refine (g03 mage mtype mseq mcost mid madv mmask mlinks mrouters p5 p7 c5 c7 _ hl5' hn7' hlok hrok hid hadv hmk hcan).mono ?_
   rintro e w4 ⟨pb, cb, rfl, hOb, k4⟩
   have hR4 := Hi (hR3.out.keep k4 id); have hk4 := Hi (hk3.out.trans k4)
   have hOb' := Hi hOb.bytes
   have hx4 := Hi (a0a.of rfl hc (hk4.out.rangeAt hr.out id))
   have hrB4 := Hi (k4.rangeAt hrB'.out id); have hl54 := Hi (hl5'.out.keep k4); have hn74 := Hi (hn7'.out.keep k4)
   clear k4 hOb hR3 hk3 hrB' hl5' hn7'
   go_wp2_with fail
   refine (d0c _ _ (putB ⟨mage, mtype, mid, madv, mseq, mlinks, mmask, mrouters, mcost⟩) x true _ hOb' hx4 heq).mono ?_
   rintro e w' ⟨rfl, rfl⟩
   go_wp2_with (first | ((with_reducible refine a09 64 ?_); refine wpList_load_mid rfl 76 (.tmp 6) rfl B 0 rfl (La' mage mtype mid madv mseq (.slice p5 mlinks.length c5) mmask (.slice p7 mrouters.length c7) mcost) _ hrB4.out Try.underlying76 rfl b04 ?_) | ((with_reducible refine a08 2 ?_); refine a05 rfl 76 (.tmp 2) (.tmp 64) rfl w.heap.size (La mage mtype mid madv mseq (.slice p5 mlinks.length c5) mmask (.slice p7 mrouters.length c7) mcost) rfl rfl (a06.there hR4.out 0 9 (Nat.le_refl 9)) b04 (a0z _ _ _ _ _ _ _ _ _ (a03 _ _ _) (a03 _ _ _)) ?_; intro w9 hr9 hs9))
   have e0 := a01 hr9.out 0 _ rfl
   have e1 := a01 hr9.out 1 _ rfl
   have e2 := a01 hr9.out 2 _ rfl
   have e3 := a01 hr9.out 3 _ rfl
   have e4 := a01 hr9.out 4 _ rfl
   have e5 := a01 hr9.out 5 _ rfl
   have e6 := a01 hr9.out 6 _ rfl
   have e7 := a01 hr9.out 7 _ rfl
   have e8 := a01 hr9.out 8 _ rfl
   refine bodyPost_ret (v := .tuple #[.agg (La mage mtype mid madv mseq (.slice p5 mlinks.length c5) mmask (.slice p7 mrouters.length c7) mcost), .int .i64 0]) (by simp [results, Try.results69, go_sem, e0, e1, e2, e3, e4, e5, e6, e7, e8]) rfl ⟨⟨_, by rw [hg'.out], by rw [hg'.out]; exact ⟨p5, c5, p7, c7, rfl, hl54.out.keepF hs9.out (fun _ i e => by have := hf5'.out i _ _ e; have := hsz2.out; omega), hn74.out.keepF hs9.out (fun _ i e => by have := hf7'.out i _ _ e; have := hsz2.out; omega), (fun i n c e => by have := hf5'.out i n c e; have := hsz2.out; omega), (fun i n c e => by have := hf7'.out i n c e; have := hsz2.out; omega)⟩⟩, hk4.out.trans' hs9.out (fun i e => .inr (by omega))⟩
theorem k0h (age type seq : Int) (lid adv : Nat) (x : List UInt8) : (c0p age type lid adv seq x).links.length ≤ x.length ∧ (c0p age type lid adv seq x).routers.length ≤ x.length := by
 unfold c0p
 split
 ·simp
 ·split
  ·simp only [c0l, List.length_nil]; omega
  ·split
   ·simp only [c06, List.length_nil]; omega
   ·split
    ·simp
    ·simp
theorem h0p (x : List UInt8) (H : c0i) (h : a0h x = H) : H.id < 4294967296 ∧ H.adv < 4294967296 := by
 rw [← h]
 exact ⟨b0c x 4 4 (by omega), b0c x 8 4 (by omega)⟩
theorem q08 (sl : Value) (x : List UInt8) (hx : x.length ≤ 1000000) (w : World) (h : Hid (a0a w sl x)) : Calls Try.prog 69 #[sl] w (c05 x w) := by
 obtain ⟨p, c, rfl, -, hc, hb⟩ := h.out
 by_cases h20 : x.length < 20
 ·exact n09 p c x h20 w
 ·obtain ⟨g, o, rfl, hr⟩ := hb (by omega)
  cases hh : a0h x with
  | mk age type lid adv seq sum len =>
   obtain ⟨l1, l2⟩ := h0p x _ hh
   cases hri : b0h (x.drop 2) with
   | false => exact lsGet_b1 g o c x (by omega) hx hc age type seq len lid adv sum w (Hi hr) (Hi hh) (Hi hri)
   | true =>
    by_cases h16 : x[16]'(by omega) = 255
    ·exact lsGet_b2 g o c x (by omega) hx hc age type seq len lid adv sum w (Hi hr) (Hi hh) (Hi hri) h16
    ·by_cases h17 : x[17]'(by omega) = 255
     ·exact lsGet_b3 g o c x (by omega) hx hc age type seq len lid adv sum w (Hi hr) (Hi hh) (Hi hri) h16 h17
     ·by_cases hlen : len = (x.length : Int)
      ·have hl := k0h age type seq lid adv (x.drop 20)
       have hp := j0k age type seq lid adv (x.drop 20)
       have hd : (x.drop 20).length ≤ 1000000 := by simp; omega
       cases hm : c0p age type lid adv seq (x.drop 20) with
       | mk mage mtype mid madv mseq mlinks mmask mrouters mcost =>
        rw [hm] at hl hp
        obtain ⟨q1, q2, q3, q4, q5⟩ := hp
        simp only at hl q1 q2 q3 q4 q5
        cases hcan : canB ⟨mage, mtype, mid, madv, mseq, mlinks, mmask, mrouters, mcost⟩ with
        | false => exact lsGet_d g o c x (by omega) hx hc age type seq len lid adv sum w (Hi hr) (Hi hh) (Hi hri) h16 h17 (Hi hlen) mage mtype mseq mcost mid madv mmask mlinks mrouters (Hi hm) (by omega) (by omega) (Hi hcan)
        | true =>
         cases heq : (putB ⟨mage, mtype, mid, madv, mseq, mlinks, mmask, mrouters, mcost⟩ == x) with
         | false => exact lsGet_e g o c x (by omega) hx hc age type seq len lid adv sum w (Hi hr) (Hi hh) (Hi hri) h16 h17 (Hi hlen) mage mtype mseq mcost mid madv mmask mlinks mrouters (Hi hm) (by omega) (by omega) (Hi q5) (Hi q4) (by rw [q1]; exact l1) (by rw [q2]; exact l2) q3 (Hi hcan) (Hi heq)
         | true => exact lsGet_f g o c x (by omega) hx hc age type seq len lid adv sum w (Hi hr) (Hi hh) (Hi hri) h16 h17 (Hi hlen) mage mtype mseq mcost mid madv mmask mlinks mrouters (Hi hm) (by omega) (by omega) (Hi q5) (Hi q4) (by rw [q1]; exact l1) (by rw [q2]; exact l2) q3 (Hi hcan) (Hi heq)
      ·exact lsGet_c g o c x (by omega) hx hc age type seq len lid adv sum w (Hi hr) (Hi hh) (Hi hri) h16 h17 hlen
theorem lsGet_rf (sl : Value) (x : List UInt8) (m : LsaD) (e0 : Int) (hx : x.length ≤ 1000000) (w : World) (h : Hid (a0a w sl x)) (hm : Hid (getL x = (m, e0))) :
 Calls Try.prog 69 #[sl] w fun e w' => (∃ v, e = .returned (.tuple #[v, .int .i64 e0]) ∧ LsaF w w' v m) ∧ a02 (fun _ => False) w w' := by
 refine (q08 sl x hx w h).mono ?_
 rintro e w' ⟨⟨v, rfl, hV⟩, hk⟩
 rw [hm.out] at hV ⊢
 exact ⟨⟨v, rfl, hV⟩, hk⟩
def a0q {α : Type} (sz : Nat) (cv : α → List Value) (w : World) (v : Value) (xs : List α) : Prop :=
 ∃ p c, v = .slice p xs.length c ∧ (p = none → c = 0) ∧ xs.length ≤ c ∧ (0 < xs.length → ∃ g o, p = some ⟨g, o, none⟩ ∧ ∀ i x, xs[i]? = some x → w.rangeAt g (o + i * sz) (cv x))
section
variable {α : Type} {sz : Nat} {cv : α → List Value}
theorem a0q.keepF {F : Nat → Prop} {w w' : World} {v : Value} {xs : List α} (h : a0q sz cv w v xs) (k : a02 F w w') (hF : 0 < xs.length → ∀ i, v.ownBlock = some i → ¬ F i) : a0q sz cv w' v xs := by
 obtain ⟨p, c, rfl, hp, hc, h⟩ := h
 refine ⟨p, c, rfl, hp, hc, fun h0 => ?_⟩
 obtain ⟨g, o, rfl, hr⟩ := h h0
 exact ⟨g, o, rfl, fun i x hx => k.rangeAt (hr i x hx) (hF h0 g rfl)⟩
theorem a0q.keep {w w' : World} {v : Value} {xs : List α} (h : a0q sz cv w v xs) (k : a02 (fun _ => False) w w') : a0q sz cv w' v xs := h.keepF k (fun _ _ _ f => f)
theorem a0q.nil (w : World) : a0q sz cv w (.slice none 0 0) ([] : List α) := ⟨none, 0, rfl, fun _ => rfl, Nat.le_refl _, fun h => by simp at h⟩
theorem a0q.open {w : World} {p : Option Addr} {n c : Nat} {xs : List α} (h : a0q sz cv w (.slice p n c) xs) (h0 : 0 < xs.length) : ∃ g o, p = some ⟨g, o, none⟩ ∧ ∀ i x, xs[i]? = some x → w.rangeAt g (o + i * sz) (cv x) := by
 obtain ⟨p', c', e, -, -, hr⟩ := h
 injection e with e1 e2 e3
 subst e1
 exact hr h0
theorem a0q.len {w : World} {p : Option Addr} {n c : Nat} {xs : List α} (h : a0q sz cv w (.slice p n c) xs) : n = xs.length := by
 obtain ⟨p', c', e, _⟩ := h; injection e
theorem a0q.lt {w : World} {v : Value} {xs : List α} (h : a0q sz cv w v xs) (h0 : 0 < xs.length) (hcv : ∀ x, 0 < (cv x).length) : ∀ i, v.ownBlock = some i → i < w.heap.size := fun i e => by
 obtain ⟨p, c, rfl, -, -, hr⟩ := h
 obtain ⟨g, o, rfl, hra⟩ := hr h0
 simp only [Value.ownBlock, Option.some.injEq] at e
 subst e
 have := hra 0 xs[0] (List.getElem?_eq_getElem h0) 0 _ (List.getElem?_eq_getElem (hcv _))
 have := World.block_lt_of_cell? w _ this
 exact this
def d0i (cv : α → List Value) (xs : List α) : List Value := xs.flatMap cv
theorem k0t (xs : List α) (x : α) : d0i cv (xs ++ [x]) = d0i cv xs ++ cv x := by unfold d0i; simp
theorem l0n (hcv : ∀ x, (cv x).length = sz) (xs : List α) : ∀ (i : Nat) (x : α), xs[i]? = some x → ∀ j, j < sz → (d0i cv xs)[i * sz + j]? = (cv x)[j]? := by
 induction xs with
 | nil => intro i l h; simp at h
 | cons n ns ih =>
  intro i x h j hj
  have e : d0i cv (n :: ns) = cv n ++ d0i cv ns := by unfold d0i; rw [List.flatMap_cons]
  rw [e, List.getElem?_append, hcv]
  cases i with
  | zero => simp at h; subst h; rw [if_pos (by omega)]; simp
  | succ i =>
   rw [if_neg (by rw [Nat.add_mul]; omega), ← ih i x (by simpa using h) j hj]; congr 1; rw [Nat.add_mul]; omega
def OwnR (t : TypeId) (sz : Nat) (cv : α → List Value) (w0 w : World) (v : Value) (xs : List α) : Prop :=
 w.ownsRow 0 t sz v xs.length (d0i cv xs) ∧ (∀ k, v.ownBlock = some k → w0.heap.size ≤ k) ∧ w0.heap.size ≤ w.heap.size
theorem OwnR.nil {t : TypeId} (w0 w : World) (h : w0.heap.size ≤ w.heap.size) : OwnR t sz cv w0 w (.slice none 0 0) ([] : List α) := ⟨⟨by simp [d0i], .inl ⟨rfl, by simp [d0i]⟩⟩, by simp [Value.ownBlock], h⟩
theorem OwnR.slice {t : TypeId} {w0 w : World} {v : Value} {xs : List α} (h : OwnR t sz cv w0 w v xs) : ∃ p c, v = .slice p xs.length c := b0e h.1
theorem OwnR.keep {t : TypeId} {F : Nat → Prop} {w0 w w' : World} {v : Value} {xs : List α} (h : OwnR t sz cv w0 w v xs) (k : a02 F w w') (hF : ∀ i, v.ownBlock = some i → ¬ F i) : OwnR t sz cv w0 w' v xs :=
 ⟨k.ownsRow h.1 hF, h.2.1, Nat.le_trans h.2.2 k.size⟩
theorem OwnR.at {t : TypeId} {w0 w : World} {v : Value} {xs : List α} (hcv : ∀ x, (cv x).length = sz) (h : OwnR t sz cv w0 w v xs) : a0q sz cv w v xs := by
 obtain ⟨p, c, rfl⟩ := h.slice
 rcases h.1.2 with ⟨e, h2⟩ | ⟨g, cap, cur, he, _, _, hle, _⟩
 ·injection e with e1 e2 e3; subst e1; subst e3
  exact ⟨none, 0, rfl, fun _ => rfl, by omega, fun h0 => by omega⟩
 ·injection he with e1 e2 e3
  subst e1; subst e3
  refine ⟨_, _, rfl, fun h => (by cases h), hle, fun h0 => ⟨g, 0, rfl, fun i l hl j u hu => ?_⟩⟩
  have hj : j < sz := by have := (List.getElem?_eq_some_iff.1 hu).1; rw [hcv] at this; exact this
  have := h.1.cells (g := g) rfl (i * sz + j) u (by rw [l0n hcv xs i l hl j hj]; exact hu)
  rw [Addr.add_mid] at this
  rw [Nat.zero_add]; rw [Nat.zero_add] at this; exact this
theorem c0j {P : Program} {w : World} {o : Oper} {a : Act} {K : Act → World → Prop} {Q : Exit → Act → World → Prop} (s x : Operand) (t e : TypeId)
 (ho : o.op = .call { callee := .builtin .append, args := #[s, x], argTypes := #[t, t] })
 (i : TypeInfo) (z : Value) (by_ : Nat) (ht : P.underlying t = some (.slice e)) (hi : P.info? e = some i) (hz : i.zero = some z) (hsize : i.size = sz) (hby : i.bytes = by_) (hzs : z.cells.size = sz) (hsz0 : 0 < sz) (hby1 : by_ ≤ 100000)
 (hcv : ∀ x, (cv x).length = sz) (w0 : World) (v : Value) (n : Nat) (xs : List α) (hn : xs.length = n) (hs : a.eval s = v) (hown : OwnR e sz cv w0 w v xs) (ad : Addr) (hx : a.eval x = .slice (some ad) 1 1) (l : α) (hl : ∀ j u, (cv l)[j]? = some u → w.cell? (ad.add j) = some u) (h1 : ∀ u ∈ cv l, u.oneCell' = true) (hsz : n ≤ 1000000000)
 (h : ∀ p c w', OwnR e sz cv w0 w' (.slice p (n + 1) c) (xs ++ [l]) → d06 w v p (n + 1) c w' → K (a.put o.dst (.slice p (n + 1) c)) w') : Oper.wp P o a w K Q := by
 subst hn
 have hb : (xs.length + 1) * by_ ≤ 1000000001 * 100000 := Nat.mul_le_mul (by omega) hby1
 obtain ⟨v', w', hr, h2, h3, h4⟩ := c04 (P := P) w t o.type e i z sz by_ ht hi hz hsize hby hzs hsz0 v xs.length (d0i cv xs) hown.1 ad 1 1 (cv l) (by rw [hcv]; omega) hl h1 (by unfold maxLen; omega) (by omega)
 obtain ⟨p, c, rfl⟩ := b0e h2
 unfold Oper.wp execOp
 simp only [ho, resolve, invoke, builtin, Sem.run_bind, Sem.run_pure, Result.andThen_ok, List.map_toArray, List.map_cons, List.map_nil, hs, hx, hr]
 refine h p c w' ⟨by rw [k0t]; simpa using h2, fun k e => ?_, Nat.le_trans hown.2.2 h3.size⟩ ⟨(a02.refl _ _).grown h3 (fun k e => .inl e), h4⟩
 rcases h4 k e with e | e
 ·exact hown.2.1 k e
 ·exact Nat.le_trans hown.2.2 e
theorem f0o {P : Program} {w : World} {ops : Array Oper} {rest : List Oper} {o : Oper} {a : Act} {Q : Exit → Act → World → Prop} (hgd : o.guard = none) (s x : Operand) (t e : TypeId)
 (ho : o.op = .call { callee := .builtin .append, args := #[s, x], argTypes := #[t, t] })
 (i : TypeInfo) (z : Value) (by_ : Nat) (ht : P.underlying t = some (.slice e)) (hi : P.info? e = some i) (hz : i.zero = some z) (hsize : i.size = sz) (hby : i.bytes = by_) (hzs : z.cells.size = sz) (hsz0 : 0 < sz) (hby1 : by_ ≤ 100000)
 (hcv : ∀ x, (cv x).length = sz) (w0 : World) (v : Value) (n : Nat) (xs : List α) (hn : xs.length = n) (hs : a.eval s = v) (hown : OwnR e sz cv w0 w v xs) (ad : Addr) (hx : a.eval x = .slice (some ad) 1 1) (l : α) (hl : ∀ j u, (cv l)[j]? = some u → w.cell? (ad.add j) = some u) (h1 : ∀ u ∈ cv l, u.oneCell' = true) (hsz : n ≤ 1000000000)
 (h : ∀ p c w', Hid (OwnR e sz cv w0 w' (.slice p (n + 1) c) (xs ++ [l])) → Hid (d06 w v p (n + 1) c w') → wpList P ops Q rest (a.put o.dst (.slice p (n + 1) c)) w') : wpList P ops Q (o :: rest) a w :=
 wpList_plain hgd fun _ hK => c0j s x t e ho i z by_ ht hi hz hsize hby hzs hsz0 hby1 hcv w0 v n xs hn hs hown ad hx l hl h1 hsz (fun p c w' h1 h2 => hK _ _ (h p c w' (Hi h1) (Hi h2)))
end
theorem OwnR.keeps {α : Type} {t sz : Nat} {cv : α → List Value} {w0 W W' : World} {v : Value} {xs : List α} (h : OwnR t sz cv w0 W v xs) (k : a02 (fun _ => False) w0 W) {p : Option Addr} {n c : Nat} (g : d06 W v p n c W') : a02 (fun _ => False) w0 W' :=
 k.trans' g.k (fun i e => .inr (h.2.1 i e))
structure KeyD where
 type : Int
 id : Nat
 adv : Nat
structure a0x where
 type : Int
 router : Nat
 area : Nat
 auth : List UInt8
 mask : Nat
 interval : Int
 dead : Int
 priority : Int
 dr : Nat
 bdr : Nat
 nbs : List Nat
 flags : Int
 seq : Nat
 heads : List c0i
 keys : List KeyD
 lsas : List LsaD
def b0q (h : c0i) : List Value := (Ha' h.age h.type h.id h.adv h.seq h.sum h.len)
def b0u (k : KeyD) : List Value := [.int .i64 k.type, .int .u32 k.id, .int .u32 k.adv]
theorem b0r (h : c0i) : (b0q h).length = 7 := rfl
theorem c0o (k : KeyD) : (b0u k).length = 3 := rfl
theorem g07 (h : c0i) : ∀ u ∈ b0q h, u.oneCell' = true := by
 intro u hu; simp [b0q] at hu; rcases hu with rfl | rfl | rfl | rfl | rfl | rfl | rfl <;> rfl
theorem g0z (h : KeyD) : ∀ u ∈ b0u h, u.oneCell' = true := by
 intro u hu; simp [b0u] at hu; rcases hu with rfl | rfl | rfl <;> rfl
structure LsaM where
 d : LsaD
 p5 : Option Addr
 c5 : Nat
 p7 : Option Addr
 c7 : Nat
def d0k (m : LsaM) : List Value := (La' m.d.age m.d.type m.d.id m.d.adv m.d.seq (.slice m.p5 m.d.links.length m.c5) m.d.mask (.slice m.p7 m.d.routers.length m.c7) m.d.cost)
theorem d0b (m : LsaM) : (d0k m).length = 9 := rfl
theorem i06 (h : LsaM) : ∀ u ∈ d0k h, u.oneCell' = true := by
 intro u hu; simp [d0k] at hu; rcases hu with rfl | rfl | rfl | rfl | rfl | rfl | rfl | rfl | rfl <;> rfl
def f0n (w : World) (m : LsaM) : Prop := b02 w (.slice m.p5 m.d.links.length m.c5) m.d.links ∧ a0u w (.slice m.p7 m.d.routers.length m.c7) m.d.routers
theorem f0n.keep {w w' : World} {m : LsaM} (h : f0n w m) (k : a02 (fun _ => False) w w') : f0n w' m := ⟨h.1.keep k, h.2.keep k⟩
def h0y (w : World) (v : Value) (ls : List LsaD) : Prop := ∃ ms : List LsaM, ms.map (·.d) = ls ∧ a0q 9 d0k w v ms ∧ ∀ m ∈ ms, f0n w m
theorem h0y.keep {w w' : World} {v : Value} {x : List LsaD} (h : h0y w v x) (k : a02 (fun _ => False) w w') : h0y w' v x := by
 obtain ⟨ms, h1, h2, h3⟩ := h
 exact ⟨ms, h1, h2.keep k, fun m hm => (h3 m hm).keep k⟩
theorem h0y.nil (w : World) : h0y w (.slice none 0 0) [] := ⟨[], rfl, a0q.nil w, by simp⟩
def g0b (w : World) (v : Value) (hs : List c0i) : Prop := a0q 7 b0q w v hs
def h0z (w : World) (v : Value) (ks : List KeyD) : Prop := a0q 3 b0u w v ks
def b05 (p : a0x) (vn vh vk vl : Value) : List Value :=
 [.int .i64 p.type, .int .u32 p.router, .int .u32 p.area, .string ⟨p.auth.toArray⟩, .int .u32 p.mask, .int .i64 p.interval, .int .i64 p.dead, .int .i64 p.priority, .int .u32 p.dr, .int .u32 p.bdr, vn, .int .i64 p.flags, .int .u32 p.seq, vh, vk, vl]
structure e04 (w : World) (p : a0x) (vn vh vk vl : Value) : Prop where
 n : a0u w vn p.nbs
 h : g0b w vh p.heads
 k : h0z w vk p.keys
 l : h0y w vl p.lsas
theorem e04.keep {w w' : World} {p : a0x} {vn vh vk vl : Value} (h : e04 w p vn vh vk vl) (k : a02 (fun _ => False) w w') : e04 w' p vn vh vk vl := ⟨h.n.keep k, a0q.keep h.h k, a0q.keep h.k k, h.l.keep k⟩
end Go.Proofs.Ytmggbljkehclpaa
namespace Go.Proofs.Ytmggbljkehclpaa
open Go.RowKit
def c0u (hs : List c0i) : List UInt8 := hs.flatMap e09
theorem f09 (hs : List c0i) : (c0u hs).length = 20 * hs.length := by
 induction hs with
 | nil => rfl
 | cons n ns ih => unfold c0u at *; rw [List.flatMap_cons, List.length_append, ih, c0x, List.length_cons]; omega
theorem j0l (ls : List c0i) (l : c0i) : c0u (ls ++ [l]) = c0u ls ++ e09 l := by unfold c0u; simp
def keyB (k : KeyD) : List UInt8 := be 4 (lo32 k.type) ++ be 4 k.id ++ be 4 k.adv
theorem keyB_len (k : KeyD) : (keyB k).length = 12 := by unfold keyB; simp [a0b]
def f0m (ks : List KeyD) : List UInt8 := ks.flatMap keyB
theorem g06 (hs : List KeyD) : (f0m hs).length = 12 * hs.length := by
 induction hs with
 | nil => rfl
 | cons n ns ih => unfold f0m at *; rw [List.flatMap_cons, List.length_append, ih, keyB_len, List.length_cons]; omega
theorem k0f (ls : List KeyD) (l : KeyD) : f0m (ls ++ [l]) = f0m ls ++ keyB l := by unfold f0m; simp
def d0r (ls : List LsaD) : List UInt8 := ls.flatMap putB
theorem k0d (ls : List LsaD) (l : LsaD) : d0r (ls ++ [l]) = d0r ls ++ putB l := by unfold d0r; simp
theorem m0y {l : LsaD} (h : canB l = true) : (putB l).length ≤ 504 := by
 rw [f0f]
 have := f0r (e0o h).1 (e0o h).2
 omega
theorem n0z (ls : List LsaD) (h : ∀ l ∈ ls, canB l = true) : (d0r ls).length ≤ 504 * ls.length := by
 induction ls with
 | nil => simp [d0r]
 | cons n ns ih =>
  unfold d0r at *
  rw [List.flatMap_cons, List.length_append, List.length_cons]
  have h1 := m0y (h n (by simp))
  have h2 := ih (fun l hl => h l (by simp [hl]))
  omega
def m07 (p : a0x) : List UInt8 := be 4 p.mask ++ be 2 (lo16 p.interval) ++ [2, UInt8.ofNat (lo8 p.priority)] ++ be 4 (lo32 p.dead) ++ be 4 p.dr ++ be 4 p.bdr ++ bes p.nbs
theorem p08 (p : a0x) : (m07 p).length = 20 + 4 * p.nbs.length := by unfold m07; simp [a0b, d0u]; omega
def e05 (p : a0x) : List UInt8 :=
 if p.type = 1 then m07 p
 else if p.type = 2 then [5, 220, 2, UInt8.ofNat (lo8 p.flags)] ++ be 4 p.seq ++ c0u p.heads
 else if p.type = 3 then f0m p.keys
 else if p.type = 4 then be 4 p.lsas.length ++ d0r p.lsas
 else c0u p.heads
def b0o (k : KeyD) : Bool := !a0e k.type 0 255
def b0j (h : c0i) : Bool := !a0e h.age 0 65535 || (!a0e h.len 0 65535 || (!a0e h.seq (-2147483648) 2147483647 || !a0e h.type 0 255))
def g0l (p : a0x) : Bool := decide (p.mask = 0) && (decide (p.interval = 0) && (decide (p.dead = 0) && (decide (p.priority = 0) && (decide (p.dr = 0) && (decide (p.bdr = 0) && decide (p.nbs.length = 0))))))
def h02 (p : a0x) : Bool := a0e p.interval 1 65535 && (a0e p.dead 1 65535 && (a0e p.priority 0 255 && decide (p.nbs.length ≤ 20)))
def e07 (p : a0x) : Bool :=
 (!decide (p.type = 1) && !g0l p) || ((!decide (p.type = 2) && (!decide (p.flags = 0) || !decide (p.seq = 0))) ||
 ((!decide (p.type = 2) && (!decide (p.type = 5) && decide (0 < p.heads.length))) || ((!decide (p.type = 3) && decide (0 < p.keys.length)) || (!decide (p.type = 4) && decide (0 < p.lsas.length)))))
def m03 (p : a0x) : Bool := decide (p.heads.length ≤ 20) && (!p.heads.any b0j && (decide (p.keys.length ≤ 20) && (!p.keys.any b0o && decide (p.lsas.length ≤ 20))))
def m0g (a : List UInt8) : Bool := decide (a.length ≤ 8) && !a.any (· == 0)
def canP (p : a0x) : Bool := a0e p.type 1 5 && (!e07 p && ((!decide (p.type = 1) || h02 p) && (m0g p.auth && (a0e p.flags 0 7 && m03 p))))
def okP (p : a0x) : Bool := canP p && p.lsas.all canB
def key8 (a : List UInt8) : List UInt8 := h0i (d0q 8) 0 (a.take 8)
theorem d0v (a : List UInt8) : (key8 a).length = 8 := by unfold key8; rw [q03 _ _ _ (by rw [e0k, List.length_take]; omega), e0k]
def e01 (a : List UInt8) : Nat := if a = [] then 0 else 1
def i0r (p : a0x) (n s : Nat) : List UInt8 := [2, UInt8.ofNat (lo8 p.type)] ++ be 2 (24 + n) ++ be 4 p.router ++ be 4 p.area ++ be 2 s ++ be 2 (e01 p.auth)
theorem q0h (p : a0x) (n s : Nat) : (i0r p n s).length = 16 := by unfold i0r; simp [a0b]
def sumP (p : a0x) : Nat := inet (i0r p (e05 p).length 0 ++ e05 p)
def putP (p : a0x) : List UInt8 := i0r p (e05 p).length (sumP p) ++ key8 p.auth ++ e05 p
theorem h0f (p : a0x) : (putP p).length = 24 + (e05 p).length := by unfold putP; simp [q0h, d0v]; omega
theorem d0s {p : a0x} (h : canP p = true) : a0e p.type 1 5 = true ∧ e07 p = false ∧ (p.type = 1 → h02 p = true) ∧ m0g p.auth = true ∧ a0e p.flags 0 7 = true ∧ m03 p = true := by
 unfold canP at h
 simp only [Bool.and_eq_true, Bool.or_eq_true, Bool.not_eq_true', decide_eq_true_eq] at h
 obtain ⟨h1, h2, h3, h4, h5, h6⟩ := h
 refine ⟨h1, h2, fun e => ?_, h4, h5, h6⟩
 rcases h3 with h | h
 ·rw [decide_eq_false_iff_not] at h; exact absurd e h
 ·exact h
theorem e0v {p : a0x} (h : m03 p = true) : p.heads.length ≤ 20 ∧ p.heads.any b0j = false ∧ p.keys.length ≤ 20 ∧ p.keys.any b0o = false ∧ p.lsas.length ≤ 20 := by
 unfold m03 at h
 simpa only [Bool.and_eq_true, Bool.not_eq_true', decide_eq_true_eq] using h
theorem h09 {p : a0x} (h : okP p = true) : (e05 p).length ≤ 10084 := by
 unfold okP at h
 rw [Bool.and_eq_true] at h
 obtain ⟨h1, h2⟩ := h
 obtain ⟨a1, a2, a3, a4, a5, a6⟩ := d0s h1
 obtain ⟨b1, b2, b3, b4, b5⟩ := e0v a6
 have h2' : ∀ l ∈ p.lsas, canB l = true := by simpa using h2
 unfold e05
 split
 ·rename_i t
  have := a3 t
  unfold h02 at this
  simp only [Bool.and_eq_true, decide_eq_true_eq] at this
  rw [p08]; omega
 ·split
  ·simp [a0b, f09]; omega
  ·split
   ·rw [g06]; omega
   ·split
    ·have := n0z p.lsas h2'
     rw [List.length_append, a0b]; omega
    ·rw [f09]; omega
def b0y : a0x := ⟨0, 0, 0, [], 0, 0, 0, 0, 0, 0, [], 0, 0, [], [], []⟩
def d0j (x : List UInt8) (j : Nat) : List c0i := (List.range j).map fun i => a0h (x.drop (20 * i))
theorem c0v (l : List UInt8) (j : Nat) : (d0j l j).length = j := by unfold d0j; simp
theorem k07 (l : List UInt8) (j : Nat) : d0j l (j + 1) = d0j l j ++ [a0h (l.drop (20 * j))] := by unfold d0j; simp [List.range_succ]
def keyAt (x : List UInt8) (k : Nat) : KeyD := ⟨(a0d (sub x k 4) : Nat), a0d (sub x (k + 4) 4), a0d (sub x (k + 8) 4)⟩
def e08 (x : List UInt8) (j : Nat) : List KeyD := (List.range j).map fun i => keyAt x (12 * i)
theorem f05 (l : List UInt8) (j : Nat) : (e08 l j).length = j := by unfold e08; simp
theorem k06 (l : List UInt8) (j : Nat) : e08 l (j + 1) = e08 l j ++ [keyAt l (12 * j)] := by unfold e08; simp [List.range_succ]
def d0m : Nat → List UInt8 → List LsaD × Int
 | 0, _ => ([], 0)
 | n + 1, x =>
  if x.length < 20 ∨ (a0h x).len < 20 ∨ (x.length : Int) < (a0h x).len then ([], 3)
  else if (getL (x.take (a0h x).len.toNat)).2 ≠ 0 then ([], (getL (x.take (a0h x).len.toNat)).2)
  else if (d0m n (x.drop (a0h x).len.toNat)).2 ≠ 0 then ([], (d0m n (x.drop (a0h x).len.toNat)).2)
  else ((getL (x.take (a0h x).len.toNat)).1 :: (d0m n (x.drop (a0h x).len.toNat)).1, 0)
def c0t (x : List UInt8) : List LsaD × Int :=
 if x.length < 4 ∨ 20 < a0d (sub x 0 4) then ([], 3) else d0m (a0d (sub x 0 4)) (x.drop 4)
def e03 (type : Int) (router area : Nat) (auth : List UInt8) : a0x := ⟨type, router, area, auth, 0, 0, 0, 0, 0, 0, [], 0, 0, [], [], []⟩
def b0p (type : Int) (router area : Nat) (auth x : List UInt8) : a0x × Int :=
 if type = 1 ∧ 20 ≤ x.length then (⟨1, router, area, auth, a0d (sub x 0 4), (a0d (sub x 4 2) : Nat), (a0d (sub x 8 4) : Nat), ((x.getD 7 0).toNat : Int), a0d (sub x 12 4), a0d (sub x 16 4), c09 (x.drop 20) ((x.length - 20) / 4), 0, 0, [], [], []⟩, 0)
 else if type = 2 ∧ 8 ≤ x.length then (⟨2, router, area, auth, 0, 0, 0, 0, 0, 0, [], ((x.getD 3 0).toNat : Int), a0d (sub x 4 4), d0j (x.drop 8) ((x.length - 8) / 20), [], []⟩, 0)
 else if type = 3 then (⟨3, router, area, auth, 0, 0, 0, 0, 0, 0, [], 0, 0, [], e08 x (x.length / 12), []⟩, 0)
 else if type = 4 then (⟨4, router, area, auth, 0, 0, 0, 0, 0, 0, [], 0, 0, [], [], (c0t x).1⟩, (c0t x).2)
 else if type = 5 then (⟨5, router, area, auth, 0, 0, 0, 0, 0, 0, [], 0, 0, d0j x (x.length / 20), [], []⟩, 0)
 else (e03 type router area auth, 0)
def sumX (x : List UInt8) : Nat := inet (x.take 12 ++ [0, 0] ++ sub x 14 2 ++ x.drop 24)
def getP (x auth : List UInt8) : a0x × Int :=
 if x.length < 24 then (b0y, 4)
 else if x.getD 0 0 ≠ 2 ∨ a0d (sub x 2 2) ≠ x.length then (b0y, 3)
 else if a0d (sub x 12 2) ≠ sumX x then (b0y, 8)
 else if 8 < auth.length ∨ a0d (sub x 14 2) ≠ e01 auth ∨ sub x 16 8 ≠ key8 auth then (b0y, 9)
 else if (b0p ((x.getD 1 0).toNat : Int) (a0d (sub x 4 4)) (a0d (sub x 8 4)) auth (x.drop 24)).2 ≠ 0 then (b0y, (b0p ((x.getD 1 0).toNat : Int) (a0d (sub x 4 4)) (a0d (sub x 8 4)) auth (x.drop 24)).2)
 else if okP (b0p ((x.getD 1 0).toNat : Int) (a0d (sub x 4 4)) (a0d (sub x 8 4)) auth (x.drop 24)).1 = true ∧ putP (b0p ((x.getD 1 0).toNat : Int) (a0d (sub x 4 4)) (a0d (sub x 8 4)) auth (x.drop 24)).1 = x then ((b0p ((x.getD 1 0).toNat : Int) (a0d (sub x 4 4)) (a0d (sub x 8 4)) auth (x.drop 24)).1, 0)
 else (b0y, 3)
end Go.Proofs.Ytmggbljkehclpaa
