/- lsa.Get of what may be one, walked; all of Get. -/
import Derived.Test.YtdaongflpllfhaaLS07
import Derived.Laws.StructEq
set_option linter.unusedVariables false
set_option linter.unusedSimpArgs false
namespace Go.Proofs.Ytdaongflpllfhaa
open Go.RowKit

set_option maxRecDepth 100000 in
set_option maxHeartbeats 4000000 in
theorem lsGet_e (g o c : Nat) (x : List UInt8) (hx : 20 ≤ x.length) (hx2 : x.length ≤ 1000000) (hc : x.length ≤ c) (age type seq len : Int) (lid adv sum : Nat) (w : World) (hr : Hid (w.rangeAt g o (x.map bv))) (hh : Hid (headOf x = ⟨age, type, lid, adv, seq, sum, len⟩)) (hri : Hid (rightF (x.drop 2) = true)) (h16 : x[16]'(by omega) ≠ 255) (h17 : x[17]'(by omega) ≠ 255) (hlen : Hid (len = (x.length : Int))) (mage mtype mseq mcost : Int) (mid madv mmask : Nat) (mlinks : List LinkD) (mrouters : List Nat) (hm : Hid (hearD age type lid adv seq (x.drop 20) = ⟨mage, mtype, mid, madv, mseq, mlinks, mmask, mrouters, mcost⟩)) (hml : mlinks.length ≤ 1000000) (hmr : mrouters.length ≤ 1000000) (hlok : Hid (∀ l ∈ mlinks, l.ok)) (hrok : Hid (Small mrouters)) (hid : mid < 4294967296) (hadv : madv < 4294967296) (hmk : mmask < 4294967296) (hcan : Hid (canB ⟨mage, mtype, mid, madv, mseq, mlinks, mmask, mrouters, mcost⟩ = true)) (heq : Hid ((putB ⟨mage, mtype, mid, madv, mseq, mlinks, mmask, mrouters, mcost⟩ == x) = false)) :
    Calls Try.prog 105 #[.slice (some ⟨g, o, none⟩) x.length c] w (GetPost x w) := by
  have hnb : ¬ (rightF (x.drop 2) = false ∨ x.getD 16 0 = 255 ∨ x.getD 17 0 = 255) := by
    rw [List.getD_eq_getElem?_getD, List.getElem?_eq_getElem (by omega), List.getD_eq_getElem?_getD, List.getElem?_eq_getElem (by omega), hri.out]
    rintro (h | h | h)
    · cases h
    · exact h16 h
    · exact h17 h
  have hg : getL x = (zeroL, 3) := by
    unfold getL
    rw [if_neg (by omega), if_neg hnb, if_neg (by rw [hh.out]; simp [hlen.out]), if_neg]
    rintro ⟨_, h⟩
    rw [hh.out] at h
    unfold hearH at h
    rw [hm.out] at h
    have := heq.out
    rw [h] at this; simp at this
  clear hnb
  have hg' := Lib.hid hg; clear hg
  have hR : Hid (BlkAt (w.alloc (.cells #[.int .i64 0, .int .i64 0, .int .u32 0, .int .u32 0, .int .i64 0, .slice none 0 0, .int .u32 0, .slice none 0 0, .int .i64 0] 29)) w.heap.size 29 [.int .i64 0, .int .i64 0, .int .u32 0, .int .u32 0, .int .i64 0, .slice none 0 0, .int .u32 0, .slice none 0 0, .int .i64 0]) := Lib.hid (BlkAt.new w _ _)
  have hk : Hid (Keeps (fun _ => False) w (w.alloc (.cells #[.int .i64 0, .int .i64 0, .int .u32 0, .int .u32 0, .int .i64 0, .slice none 0 0, .int .u32 0, .slice none 0 0, .int .i64 0] 29))) := Lib.hid ((Keeps.refl _ _).alloc _)
  have hsz : Hid (w.heap.size < (w.alloc (.cells #[.int .i64 0, .int .i64 0, .int .u32 0, .int .u32 0, .int .i64 0, .slice none 0 0, .int .u32 0, .slice none 0 0, .int .i64 0] 29)).heap.size) := Lib.hid (by simp)
  go_enter Try.func105, Try.ntmps105
  go_upto_region 1 with fail
  generalize w.alloc (.cells #[.int .i64 0, .int .i64 0, .int .u32 0, .int .u32 0, .int .i64 0, .slice none 0 0, .int .u32 0, .slice none 0 0, .int .i64 0] 29) = w0 at hR hk hsz ⊢
  go_wp2_with fail
  refine (lsHead_r g o c x hx (by omega) hc age type seq len lid adv sum _ (Lib.hid (hk.out.rangeAt hr.out id)) hh).mono ?_
  rintro e w1 ⟨rfl, k1⟩
  have hszB : Hid (w.heap.size < w1.heap.size) := Lib.hid (Nat.lt_of_lt_of_le hsz.out k1.size)
  have hH : Hid (BlkAt (w1.alloc (.cells #[.int .i64 age, .int .i64 type, .int .u32 lid, .int .u32 adv, .int .i64 seq, .int .u16 sum, .int .i64 len] 82)) w1.heap.size 82 [.int .i64 age, .int .i64 type, .int .u32 lid, .int .u32 adv, .int .i64 seq, .int .u16 sum, .int .i64 len]) := Lib.hid (BlkAt.new w1 _ _)
  have hR2 := Lib.hid ((hR.out.keep k1 id).alloc (.cells #[.int .i64 age, .int .i64 type, .int .u32 lid, .int .u32 adv, .int .i64 seq, .int .u16 sum, .int .i64 len] 82))
  have hk2 := Lib.hid ((hk.out.trans k1).alloc (.cells #[.int .i64 age, .int .i64 type, .int .u32 lid, .int .u32 adv, .int .i64 seq, .int .u16 sum, .int .i64 len] 82))
  clear k1 hR hk hsz
  go_upto_region 4 with ((with_reducible refine at_store 4 ?_); refine wpList_store_new rfl 82 (.tmp 4) (.tmp 11) rfl _ #[.int .i64 age, .int .i64 type, .int .u32 lid, .int .u32 adv, .int .i64 seq, .int .u16 sum, .int .i64 len] rfl rfl headInfo rfl (head_one _ _ _ _ _ _ _) ?_)
  generalize w1.alloc (.cells #[.int .i64 age, .int .i64 type, .int .u32 lid, .int .u32 adv, .int .i64 seq, .int .u16 sum, .int .i64 len] 82) = w2 at hR2 hk2 hH ⊢
  have hr2 := Lib.hid (hk2.out.rangeAt hr.out id)
  have hb2 := Lib.hid (bytes_tail hr2.out hc 2 (by omega))
  rw [if_neg (by omega)] at hb2
  have c16 := drop_cell hr2.out 16 (by omega)
  have e16' : (((x[16]'(by omega)).toNat : Int) == 255) = false := by rw [beq_eq_false_iff_ne]; intro h; apply h16; apply UInt8.toNat_inj.mp; show (x[16]'(by omega)).toNat = 255; omega
  have c17 := drop_cell hr2.out 17 (by omega)
  have e17' : (((x[17]'(by omega)).toNat : Int) == 255) = false := by rw [beq_eq_false_iff_ne]; intro h; apply h17; apply UInt8.toNat_inj.mp; show (x[17]'(by omega)).toNat = 255; omega
  have hl1 : (len != (x.length : Int)) = false := by rw [hlen.out]; simp
  have b6 := hH.out.cell 6 (.int .i64 len) rfl
  clear h16 h17
  go_wp2_with fail
  refine (suRight_r _ (x.drop 2) true (by simp; omega) _ hb2 hri).mono ?_
  rintro e w' ⟨rfl, rfl⟩
  have c20 : (20 : Int) ≤ c := by omega
  have x20 : (20 : Int) ≤ x.length := by omega
  have htl0 := bytes_tail hr2.out hc 20 (by omega)
  by_cases hck : c = 20
  · subst hck
    rw [if_pos rfl, show x.length - 20 = 0 by omega] at htl0
    have htl := Lib.hid htl0; clear htl0
    go_upto_region 8 with fail
    clear b6 c16 c17
    refine wp_region_noPanic ?_
    refine wp_region_held_drew (S := (fun W => Keeps (fun _ => False) w2 W)) (by kernel_rfl) (((Keeps.refl (fun _ => False) _).drew)) (fun hHeld => ?_)
    refine tk 0 rfl ?_
    refine tkL 1 rfl (yieldsIf_load_cell (by rfl) 3 (.tmp 40) rfl w1.heap.size 0 rfl _ (fun _ s => (hH.out.keep s id).cell 0 (.int .i64 age) rfl) (fun w s => load_int w _ _ _ s)) ?_
    refine tk 2 rfl ?_
    refine tkL 3 rfl (yieldsIf_load_mid (by rfl) 25 (.tmp 42) rfl w1.heap.size 1 rfl [.int .i64 type, .int .u32 lid, .int .u32 adv] _ (fun _ s => key_range (hH.out.keep s id)) Try.underlying25 rfl keyInfo) ?_
    refine tk 4 rfl ?_
    refine tkL 5 rfl (yieldsIf_load_cell (by rfl) 3 (.tmp 44) rfl w1.heap.size 4 rfl _ (fun _ s => (hH.out.keep s id).cell 4 (.int .i64 seq) rfl) (fun w s => load_int w _ _ _ s)) ?_
    refine tk 6 rfl ?_
    refine tk 7 rfl ?_
    refine tk 8 rfl ?_
    refine wpAnyH_slots [49, 6] [9, 10, 11] (fun L f W =>
        (L 9 = true → L 11 = false → LsaF w2 W (f 49) ⟨mage, mtype, mid, madv, mseq, mlinks, mmask, mrouters, mcost⟩) ∧
        (L 10 = true → L 11 = false → ∃ B, f 6 = .pointer (some ⟨B, 0, none⟩) ∧ w2.heap.size ≤ B ∧ BlkAt W B 29 [.int .i64 0, .int .i64 0, .int .u32 0, .int .u32 0, .int .i64 0, .slice none 0 0, .int .u32 0, .slice none 0 0, .int .i64 0]) ∧
        (L 9 = true → L 10 = true → L 11 = false → ∃ B, f 6 = .pointer (some ⟨B, 0, none⟩) ∧ LsaX w2.heap.size W (f 49) ⟨mage, mtype, mid, madv, mseq, mlinks, mmask, mrouters, mcost⟩ B) ∧
        (L 11 = true → L 9 = true ∧ L 10 = true ∧ LsaBox W (f 6) ⟨mage, mtype, mid, madv, mseq, mlinks, mmask, mrouters, mcost⟩ w2.heap.size)) (by kernel_rfl) (by kernel_rfl) (by kernel_rfl) (by kernel_rfl) (Nat.le_of_ble_eq_true (by kernel_rfl)) hHeld
      (fun L f h => ⟨fun e => absurd (h 9 (by decide)) (by rw [e]; decide), fun e => absurd (h 10 (by decide)) (by rw [e]; decide), fun e => absurd (h 9 (by decide)) (by rw [e]; decide), fun e => absurd (h 11 (by decide)) (by rw [e]; decide)⟩) ?_ ?_
    · refine StepsG.cons (d := 49) rfl rfl (by decide) ?_ (StepsG.cons (d := 6) rfl rfl (by decide) ?_ (StepsG.cons0 rfl rfl ?_ StepsG.nil))
      · intro L f W hG hS hL hdep K hK
        simp only [actOf, List.foldl_cons, List.foldl_nil, Act.put, sA, sZ, sS] at hK ⊢
        rw [if_pos (by rfl)]
        go_simp
        refine (lsHear_n age type seq lid adv _ _ _ (x.drop 20) ⟨mage, mtype, mid, madv, mseq, mlinks, mmask, mrouters, mcost⟩ (by simp; omega) (by simp; omega) _ (Lib.hid (htl.out.keep hS)) hm).mono ?_
        rintro e W' ⟨⟨v, rfl, hV⟩, hk'⟩
        go_wp2_with fail
        refine hK.out _ _ (hS.trans hk') ⟨fun _ _ => hV.older hS.size, fun e10 e11 => ?_, fun _ e10 e11 => ?_, fun e11 => absurd ((hG.2.2.2 e11).1.symm.trans hL) (by decide)⟩
        · obtain ⟨B, h1, h2, h3⟩ := hG.2.1 e10 e11
          exact ⟨B, h1, h2, h3.keep hk' id⟩
        · obtain ⟨B, h1, h2, h3⟩ := hG.2.1 e10 e11
          exact ⟨B, h1, hV.away (lt_of_block h3) hS.size⟩
      · intro L f W hG hS hL hdep K hK
        simp only [actOf, List.foldl_cons, List.foldl_nil, Act.put, sA, sZ, sS] at hK ⊢
        rw [if_pos (by rfl)]
        go_simp
        have hk' : Keeps (fun _ => False) W (W.alloc (.cells #[.int .i64 0, .int .i64 0, .int .u32 0, .int .u32 0, .int .i64 0, .slice none 0 0, .int .u32 0, .slice none 0 0, .int .i64 0] 29)) := (Keeps.refl _ _).alloc _
        refine hK.out _ _ (hS.trans hk') ⟨fun e9 e11 => (hG.1 e9 e11).keep hk', fun _ _ => ⟨W.heap.size, rfl, hS.size, BlkAt.new W _ _⟩, fun e9 _ e11 => ⟨W.heap.size, rfl, ((hG.1 e9 e11).away2).keep hk'⟩, fun e11 => absurd ((hG.2.2.2 e11).2.1.symm.trans hL) (by decide)⟩
      · intro L f W hG hS hL hdep K hK
        simp only [actOf, List.foldl_cons, List.foldl_nil, Act.put, sA, sZ, sS] at hK ⊢
        rw [if_pos (by rfl)]
        have d9 := hdep ⟨9, .data⟩ (by simp) rfl (by decide)
        have d10 := hdep ⟨10, .data⟩ (by simp) rfl (by decide)
        obtain ⟨B, h6, hlo, hblk⟩ := hG.2.1 d10 hL
        obtain ⟨B', h6', p5, c5, p7, c7, h49, hl5, hn7, ha5, ha7, hf5, hf7⟩ := hG.2.2.1 d9 d10 hL
        rw [h6] at h6'; injection h6' with h6'; injection h6' with h6'; injection h6' with h6'; subst h6'
        refine wp_store_mid 29 (.tmp 6) (.tmp 49) rfl B 0 #[.int .i64 mage, .int .i64 mtype, .int .u32 mid, .int .u32 madv, .int .i64 mseq, .slice p5 mlinks.length c5, .int .u32 mmask, .slice p7 mrouters.length c7, .int .i64 mcost] h6 h49 (hblk.there 0 9 (Nat.le_refl 9)) lsaInfo (lsa_one _ _ _ _ _ _ _ _ _ (slice_one _ _ _) (slice_one _ _ _)) ?_
        have hs9 : Keeps (fun i => i = B) W (W.setCells B 0 [.int .i64 mage, .int .i64 mtype, .int .u32 mid, .int .u32 madv, .int .i64 mseq, .slice p5 mlinks.length c5, .int .u32 mmask, .slice p7 mrouters.length c7, .int .i64 mcost]) := Keeps.setCells (F := fun i => i = B) (.inl rfl) _ _ _ (Keeps.refl _ _)
        refine hK.out _ (hS.trans' hs9 (fun i e => .inr (by omega))) ⟨fun _ e => absurd (show true = false from e) (by decide), fun _ e => absurd (show true = false from e) (by decide), fun _ _ e => absurd (show true = false from e) (by decide), fun _ => ⟨d9, d10, B, p5, c5, p7, c7, h6, hlo, World.rangeAt_setCells_same _ _ _ _ (hblk.there 0 9 (Nat.le_refl 9)), hl5.keepF hs9 (fun h0 i e => ha5 h0 i _ _ e), hn7.keepF hs9 (fun h0 i e => ha7 h0 i _ _ e), hf5, hf7⟩⟩
    · intro f W hG hS
      obtain ⟨-, -, B, p5, c5, p7, c7, h6, hlo, hrB, hl5, hn7, hf5, hf7⟩ := hG.2.2.2 rfl
      simp only [actOf, List.foldl_cons, List.foldl_nil, Act.put, sA, sZ, sS]
      rw [h6]
      generalize f 49 = f49
      have hS' := Lib.hid hS; have hrB' := Lib.hid hrB; have hl5' := Lib.hid hl5; have hn7' := Lib.hid hn7; have hlo' := Lib.hid hlo; have hf5' := Lib.hid hf5; have hf7' := Lib.hid hf7
      have hR3 := Lib.hid (hR2.out.keep hS id); have hk3 := Lib.hid (hk2.out.trans hS)
      clear hG h6 hS hrB hl5 hn7 hlo hf5 hf7 f
      refine NoPanic.normal ?_
      go_wp2_with ((with_reducible refine at_slot 51 ?_); refine wpList_load_mid rfl 29 (.tmp 6) rfl B 0 rfl [.int .i64 mage, .int .i64 mtype, .int .u32 mid, .int .u32 madv, .int .i64 mseq, .slice p5 mlinks.length c5, .int .u32 mmask, .slice p7 mrouters.length c7, .int .i64 mcost] _ hrB'.out Try.underlying29 rfl lsaInfo ?_)
      refine (lsPut_yes mage mtype mseq mcost mid madv mmask mlinks mrouters p5 p7 c5 c7 _ hl5' hn7' hlok hrok hid hadv hmk hcan).mono ?_
      rintro e w4 ⟨pb, cb, rfl, hOb, k4⟩
      have hR4 := Lib.hid (hR3.out.keep k4 id); have hk4 := Lib.hid (hk3.out.trans k4)
      have hOb' := Lib.hid hOb.bytes
      have hx4 := Lib.hid (BytesAt.of rfl hc (hk4.out.rangeAt hr.out id))
      have hrB4 := Lib.hid (k4.rangeAt hrB'.out id); have hl54 := Lib.hid (hl5'.out.keep k4); have hn74 := Lib.hid (hn7'.out.keep k4)
      clear k4 hOb hR3 hk3 hrB' hl5' hn7'
      go_wp2_with fail
      refine (bytesEqual_r _ _ (putB ⟨mage, mtype, mid, madv, mseq, mlinks, mmask, mrouters, mcost⟩) x false _ hOb' hx4 heq).mono ?_
      rintro e w' ⟨rfl, rfl⟩
      go_wp2_with ((with_reducible refine at_store 2 ?_); refine wpList_store_blk rfl 29 (.tmp 2) (.tmp 63) rfl w.heap.size #[.int .i64 0, .int .i64 0, .int .u32 0, .int .u32 0, .int .i64 0, .slice none 0 0, .int .u32 0, .slice none 0 0, .int .i64 0] rfl rfl (BlkAt.there hR4.out 0 9 (Nat.le_refl 9)) lsaInfo (lsa_one _ _ _ _ _ _ _ _ _ (slice_one _ _ _) (slice_one _ _ _)) ?_; intro w9 hr9 hs9)
      have e0 := rangeAt_cell hr9.out 0 _ rfl
      have e1 := rangeAt_cell hr9.out 1 _ rfl
      have e2 := rangeAt_cell hr9.out 2 _ rfl
      have e3 := rangeAt_cell hr9.out 3 _ rfl
      have e4 := rangeAt_cell hr9.out 4 _ rfl
      have e5 := rangeAt_cell hr9.out 5 _ rfl
      have e6 := rangeAt_cell hr9.out 6 _ rfl
      have e7 := rangeAt_cell hr9.out 7 _ rfl
      have e8 := rangeAt_cell hr9.out 8 _ rfl
      refine bodyPost_ret (v := .tuple #[.agg #[.int .i64 0, .int .i64 0, .int .u32 0, .int .u32 0, .int .i64 0, .slice none 0 0, .int .u32 0, .slice none 0 0, .int .i64 0], .int .i64 3]) (by simp [results, Try.results105, go_sem, e0, e1, e2, e3, e4, e5, e6, e7, e8]) rfl ⟨⟨_, by rw [hg'.out], by rw [hg'.out]; exact LsaF.zero _ _⟩, hk4.out.trans' hs9.out (fun i e => .inr (by omega))⟩
  · rw [if_neg hck] at htl0
    have htl := Lib.hid htl0; clear htl0
    go_upto_region 8 with fail
    clear b6 c16 c17
    refine wp_region_noPanic ?_
    refine wp_region_held_drew (S := (fun W => Keeps (fun _ => False) w2 W)) (by kernel_rfl) (((Keeps.refl (fun _ => False) _).drew)) (fun hHeld => ?_)
    refine tk 0 rfl ?_
    refine tkL 1 rfl (yieldsIf_load_cell (by rfl) 3 (.tmp 40) rfl w1.heap.size 0 rfl _ (fun _ s => (hH.out.keep s id).cell 0 (.int .i64 age) rfl) (fun w s => load_int w _ _ _ s)) ?_
    refine tk 2 rfl ?_
    refine tkL 3 rfl (yieldsIf_load_mid (by rfl) 25 (.tmp 42) rfl w1.heap.size 1 rfl [.int .i64 type, .int .u32 lid, .int .u32 adv] _ (fun _ s => key_range (hH.out.keep s id)) Try.underlying25 rfl keyInfo) ?_
    refine tk 4 rfl ?_
    refine tkL 5 rfl (yieldsIf_load_cell (by rfl) 3 (.tmp 44) rfl w1.heap.size 4 rfl _ (fun _ s => (hH.out.keep s id).cell 4 (.int .i64 seq) rfl) (fun w s => load_int w _ _ _ s)) ?_
    refine tk 6 rfl ?_
    refine tk 7 rfl ?_
    refine tk 8 rfl ?_
    refine wpAnyH_slots [49, 6] [9, 10, 11] (fun L f W =>
        (L 9 = true → L 11 = false → LsaF w2 W (f 49) ⟨mage, mtype, mid, madv, mseq, mlinks, mmask, mrouters, mcost⟩) ∧
        (L 10 = true → L 11 = false → ∃ B, f 6 = .pointer (some ⟨B, 0, none⟩) ∧ w2.heap.size ≤ B ∧ BlkAt W B 29 [.int .i64 0, .int .i64 0, .int .u32 0, .int .u32 0, .int .i64 0, .slice none 0 0, .int .u32 0, .slice none 0 0, .int .i64 0]) ∧
        (L 9 = true → L 10 = true → L 11 = false → ∃ B, f 6 = .pointer (some ⟨B, 0, none⟩) ∧ LsaX w2.heap.size W (f 49) ⟨mage, mtype, mid, madv, mseq, mlinks, mmask, mrouters, mcost⟩ B) ∧
        (L 11 = true → L 9 = true ∧ L 10 = true ∧ LsaBox W (f 6) ⟨mage, mtype, mid, madv, mseq, mlinks, mmask, mrouters, mcost⟩ w2.heap.size)) (by kernel_rfl) (by kernel_rfl) (by kernel_rfl) (by kernel_rfl) (Nat.le_of_ble_eq_true (by kernel_rfl)) hHeld
      (fun L f h => ⟨fun e => absurd (h 9 (by decide)) (by rw [e]; decide), fun e => absurd (h 10 (by decide)) (by rw [e]; decide), fun e => absurd (h 9 (by decide)) (by rw [e]; decide), fun e => absurd (h 11 (by decide)) (by rw [e]; decide)⟩) ?_ ?_
    · refine StepsG.cons (d := 49) rfl rfl (by decide) ?_ (StepsG.cons (d := 6) rfl rfl (by decide) ?_ (StepsG.cons0 rfl rfl ?_ StepsG.nil))
      · intro L f W hG hS hL hdep K hK
        simp only [actOf, List.foldl_cons, List.foldl_nil, Act.put, sA, sZ, sS] at hK ⊢
        rw [if_pos (by rfl)]
        go_simp
        refine (lsHear_n age type seq lid adv _ _ _ (x.drop 20) ⟨mage, mtype, mid, madv, mseq, mlinks, mmask, mrouters, mcost⟩ (by simp; omega) (by simp) _ (Lib.hid (htl.out.keep hS)) hm).mono ?_
        rintro e W' ⟨⟨v, rfl, hV⟩, hk'⟩
        go_wp2_with fail
        refine hK.out _ _ (hS.trans hk') ⟨fun _ _ => hV.older hS.size, fun e10 e11 => ?_, fun _ e10 e11 => ?_, fun e11 => absurd ((hG.2.2.2 e11).1.symm.trans hL) (by decide)⟩
        · obtain ⟨B, h1, h2, h3⟩ := hG.2.1 e10 e11
          exact ⟨B, h1, h2, h3.keep hk' id⟩
        · obtain ⟨B, h1, h2, h3⟩ := hG.2.1 e10 e11
          exact ⟨B, h1, hV.away (lt_of_block h3) hS.size⟩
      · intro L f W hG hS hL hdep K hK
        simp only [actOf, List.foldl_cons, List.foldl_nil, Act.put, sA, sZ, sS] at hK ⊢
        rw [if_pos (by rfl)]
        go_simp
        have hk' : Keeps (fun _ => False) W (W.alloc (.cells #[.int .i64 0, .int .i64 0, .int .u32 0, .int .u32 0, .int .i64 0, .slice none 0 0, .int .u32 0, .slice none 0 0, .int .i64 0] 29)) := (Keeps.refl _ _).alloc _
        refine hK.out _ _ (hS.trans hk') ⟨fun e9 e11 => (hG.1 e9 e11).keep hk', fun _ _ => ⟨W.heap.size, rfl, hS.size, BlkAt.new W _ _⟩, fun e9 _ e11 => ⟨W.heap.size, rfl, ((hG.1 e9 e11).away2).keep hk'⟩, fun e11 => absurd ((hG.2.2.2 e11).2.1.symm.trans hL) (by decide)⟩
      · intro L f W hG hS hL hdep K hK
        simp only [actOf, List.foldl_cons, List.foldl_nil, Act.put, sA, sZ, sS] at hK ⊢
        rw [if_pos (by rfl)]
        have d9 := hdep ⟨9, .data⟩ (by simp) rfl (by decide)
        have d10 := hdep ⟨10, .data⟩ (by simp) rfl (by decide)
        obtain ⟨B, h6, hlo, hblk⟩ := hG.2.1 d10 hL
        obtain ⟨B', h6', p5, c5, p7, c7, h49, hl5, hn7, ha5, ha7, hf5, hf7⟩ := hG.2.2.1 d9 d10 hL
        rw [h6] at h6'; injection h6' with h6'; injection h6' with h6'; injection h6' with h6'; subst h6'
        refine wp_store_mid 29 (.tmp 6) (.tmp 49) rfl B 0 #[.int .i64 mage, .int .i64 mtype, .int .u32 mid, .int .u32 madv, .int .i64 mseq, .slice p5 mlinks.length c5, .int .u32 mmask, .slice p7 mrouters.length c7, .int .i64 mcost] h6 h49 (hblk.there 0 9 (Nat.le_refl 9)) lsaInfo (lsa_one _ _ _ _ _ _ _ _ _ (slice_one _ _ _) (slice_one _ _ _)) ?_
        have hs9 : Keeps (fun i => i = B) W (W.setCells B 0 [.int .i64 mage, .int .i64 mtype, .int .u32 mid, .int .u32 madv, .int .i64 mseq, .slice p5 mlinks.length c5, .int .u32 mmask, .slice p7 mrouters.length c7, .int .i64 mcost]) := Keeps.setCells (F := fun i => i = B) (.inl rfl) _ _ _ (Keeps.refl _ _)
        refine hK.out _ (hS.trans' hs9 (fun i e => .inr (by omega))) ⟨fun _ e => absurd (show true = false from e) (by decide), fun _ e => absurd (show true = false from e) (by decide), fun _ _ e => absurd (show true = false from e) (by decide), fun _ => ⟨d9, d10, B, p5, c5, p7, c7, h6, hlo, World.rangeAt_setCells_same _ _ _ _ (hblk.there 0 9 (Nat.le_refl 9)), hl5.keepF hs9 (fun h0 i e => ha5 h0 i _ _ e), hn7.keepF hs9 (fun h0 i e => ha7 h0 i _ _ e), hf5, hf7⟩⟩
    · intro f W hG hS
      obtain ⟨-, -, B, p5, c5, p7, c7, h6, hlo, hrB, hl5, hn7, hf5, hf7⟩ := hG.2.2.2 rfl
      simp only [actOf, List.foldl_cons, List.foldl_nil, Act.put, sA, sZ, sS]
      rw [h6]
      generalize f 49 = f49
      have hS' := Lib.hid hS; have hrB' := Lib.hid hrB; have hl5' := Lib.hid hl5; have hn7' := Lib.hid hn7; have hlo' := Lib.hid hlo; have hf5' := Lib.hid hf5; have hf7' := Lib.hid hf7
      have hR3 := Lib.hid (hR2.out.keep hS id); have hk3 := Lib.hid (hk2.out.trans hS)
      clear hG h6 hS hrB hl5 hn7 hlo hf5 hf7 f
      refine NoPanic.normal ?_
      go_wp2_with ((with_reducible refine at_slot 51 ?_); refine wpList_load_mid rfl 29 (.tmp 6) rfl B 0 rfl [.int .i64 mage, .int .i64 mtype, .int .u32 mid, .int .u32 madv, .int .i64 mseq, .slice p5 mlinks.length c5, .int .u32 mmask, .slice p7 mrouters.length c7, .int .i64 mcost] _ hrB'.out Try.underlying29 rfl lsaInfo ?_)
      refine (lsPut_yes mage mtype mseq mcost mid madv mmask mlinks mrouters p5 p7 c5 c7 _ hl5' hn7' hlok hrok hid hadv hmk hcan).mono ?_
      rintro e w4 ⟨pb, cb, rfl, hOb, k4⟩
      have hR4 := Lib.hid (hR3.out.keep k4 id); have hk4 := Lib.hid (hk3.out.trans k4)
      have hOb' := Lib.hid hOb.bytes
      have hx4 := Lib.hid (BytesAt.of rfl hc (hk4.out.rangeAt hr.out id))
      have hrB4 := Lib.hid (k4.rangeAt hrB'.out id); have hl54 := Lib.hid (hl5'.out.keep k4); have hn74 := Lib.hid (hn7'.out.keep k4)
      clear k4 hOb hR3 hk3 hrB' hl5' hn7'
      go_wp2_with fail
      refine (bytesEqual_r _ _ (putB ⟨mage, mtype, mid, madv, mseq, mlinks, mmask, mrouters, mcost⟩) x false _ hOb' hx4 heq).mono ?_
      rintro e w' ⟨rfl, rfl⟩
      go_wp2_with ((with_reducible refine at_store 2 ?_); refine wpList_store_blk rfl 29 (.tmp 2) (.tmp 63) rfl w.heap.size #[.int .i64 0, .int .i64 0, .int .u32 0, .int .u32 0, .int .i64 0, .slice none 0 0, .int .u32 0, .slice none 0 0, .int .i64 0] rfl rfl (BlkAt.there hR4.out 0 9 (Nat.le_refl 9)) lsaInfo (lsa_one _ _ _ _ _ _ _ _ _ (slice_one _ _ _) (slice_one _ _ _)) ?_; intro w9 hr9 hs9)
      have e0 := rangeAt_cell hr9.out 0 _ rfl
      have e1 := rangeAt_cell hr9.out 1 _ rfl
      have e2 := rangeAt_cell hr9.out 2 _ rfl
      have e3 := rangeAt_cell hr9.out 3 _ rfl
      have e4 := rangeAt_cell hr9.out 4 _ rfl
      have e5 := rangeAt_cell hr9.out 5 _ rfl
      have e6 := rangeAt_cell hr9.out 6 _ rfl
      have e7 := rangeAt_cell hr9.out 7 _ rfl
      have e8 := rangeAt_cell hr9.out 8 _ rfl
      refine bodyPost_ret (v := .tuple #[.agg #[.int .i64 0, .int .i64 0, .int .u32 0, .int .u32 0, .int .i64 0, .slice none 0 0, .int .u32 0, .slice none 0 0, .int .i64 0], .int .i64 3]) (by simp [results, Try.results105, go_sem, e0, e1, e2, e3, e4, e5, e6, e7, e8]) rfl ⟨⟨_, by rw [hg'.out], by rw [hg'.out]; exact LsaF.zero _ _⟩, hk4.out.trans' hs9.out (fun i e => .inr (by omega))⟩
set_option maxRecDepth 100000 in
set_option maxHeartbeats 4000000 in
theorem lsGet_f (g o c : Nat) (x : List UInt8) (hx : 20 ≤ x.length) (hx2 : x.length ≤ 1000000) (hc : x.length ≤ c) (age type seq len : Int) (lid adv sum : Nat) (w : World) (hr : Hid (w.rangeAt g o (x.map bv))) (hh : Hid (headOf x = ⟨age, type, lid, adv, seq, sum, len⟩)) (hri : Hid (rightF (x.drop 2) = true)) (h16 : x[16]'(by omega) ≠ 255) (h17 : x[17]'(by omega) ≠ 255) (hlen : Hid (len = (x.length : Int))) (mage mtype mseq mcost : Int) (mid madv mmask : Nat) (mlinks : List LinkD) (mrouters : List Nat) (hm : Hid (hearD age type lid adv seq (x.drop 20) = ⟨mage, mtype, mid, madv, mseq, mlinks, mmask, mrouters, mcost⟩)) (hml : mlinks.length ≤ 1000000) (hmr : mrouters.length ≤ 1000000) (hlok : Hid (∀ l ∈ mlinks, l.ok)) (hrok : Hid (Small mrouters)) (hid : mid < 4294967296) (hadv : madv < 4294967296) (hmk : mmask < 4294967296) (hcan : Hid (canB ⟨mage, mtype, mid, madv, mseq, mlinks, mmask, mrouters, mcost⟩ = true)) (heq : Hid ((putB ⟨mage, mtype, mid, madv, mseq, mlinks, mmask, mrouters, mcost⟩ == x) = true)) :
    Calls Try.prog 105 #[.slice (some ⟨g, o, none⟩) x.length c] w (GetPost x w) := by
  have hnb : ¬ (rightF (x.drop 2) = false ∨ x.getD 16 0 = 255 ∨ x.getD 17 0 = 255) := by
    rw [List.getD_eq_getElem?_getD, List.getElem?_eq_getElem (by omega), List.getD_eq_getElem?_getD, List.getElem?_eq_getElem (by omega), hri.out]
    rintro (h | h | h)
    · cases h
    · exact h16 h
    · exact h17 h
  have hg : getL x = (⟨mage, mtype, mid, madv, mseq, mlinks, mmask, mrouters, mcost⟩, 0) := by
    unfold getL
    rw [if_neg (by omega), if_neg hnb, if_neg (by rw [hh.out]; simp [hlen.out]), if_pos]
    · rw [hh.out]; unfold hearH; rw [hm.out]
    · rw [hh.out]; unfold hearH; rw [hm.out]; exact ⟨hcan.out, by simpa using heq.out⟩
  clear hnb
  have hg' := Lib.hid hg; clear hg
  have hR : Hid (BlkAt (w.alloc (.cells #[.int .i64 0, .int .i64 0, .int .u32 0, .int .u32 0, .int .i64 0, .slice none 0 0, .int .u32 0, .slice none 0 0, .int .i64 0] 29)) w.heap.size 29 [.int .i64 0, .int .i64 0, .int .u32 0, .int .u32 0, .int .i64 0, .slice none 0 0, .int .u32 0, .slice none 0 0, .int .i64 0]) := Lib.hid (BlkAt.new w _ _)
  have hk : Hid (Keeps (fun _ => False) w (w.alloc (.cells #[.int .i64 0, .int .i64 0, .int .u32 0, .int .u32 0, .int .i64 0, .slice none 0 0, .int .u32 0, .slice none 0 0, .int .i64 0] 29))) := Lib.hid ((Keeps.refl _ _).alloc _)
  have hsz : Hid (w.heap.size < (w.alloc (.cells #[.int .i64 0, .int .i64 0, .int .u32 0, .int .u32 0, .int .i64 0, .slice none 0 0, .int .u32 0, .slice none 0 0, .int .i64 0] 29)).heap.size) := Lib.hid (by simp)
  go_enter Try.func105, Try.ntmps105
  go_upto_region 1 with fail
  generalize w.alloc (.cells #[.int .i64 0, .int .i64 0, .int .u32 0, .int .u32 0, .int .i64 0, .slice none 0 0, .int .u32 0, .slice none 0 0, .int .i64 0] 29) = w0 at hR hk hsz ⊢
  go_wp2_with fail
  refine (lsHead_r g o c x hx (by omega) hc age type seq len lid adv sum _ (Lib.hid (hk.out.rangeAt hr.out id)) hh).mono ?_
  rintro e w1 ⟨rfl, k1⟩
  have hszB : Hid (w.heap.size < w1.heap.size) := Lib.hid (Nat.lt_of_lt_of_le hsz.out k1.size)
  have hH : Hid (BlkAt (w1.alloc (.cells #[.int .i64 age, .int .i64 type, .int .u32 lid, .int .u32 adv, .int .i64 seq, .int .u16 sum, .int .i64 len] 82)) w1.heap.size 82 [.int .i64 age, .int .i64 type, .int .u32 lid, .int .u32 adv, .int .i64 seq, .int .u16 sum, .int .i64 len]) := Lib.hid (BlkAt.new w1 _ _)
  have hR2 := Lib.hid ((hR.out.keep k1 id).alloc (.cells #[.int .i64 age, .int .i64 type, .int .u32 lid, .int .u32 adv, .int .i64 seq, .int .u16 sum, .int .i64 len] 82))
  have hk2 := Lib.hid ((hk.out.trans k1).alloc (.cells #[.int .i64 age, .int .i64 type, .int .u32 lid, .int .u32 adv, .int .i64 seq, .int .u16 sum, .int .i64 len] 82))
  clear k1 hR hk hsz
  go_upto_region 4 with ((with_reducible refine at_store 4 ?_); refine wpList_store_new rfl 82 (.tmp 4) (.tmp 11) rfl _ #[.int .i64 age, .int .i64 type, .int .u32 lid, .int .u32 adv, .int .i64 seq, .int .u16 sum, .int .i64 len] rfl rfl headInfo rfl (head_one _ _ _ _ _ _ _) ?_)
  generalize w1.alloc (.cells #[.int .i64 age, .int .i64 type, .int .u32 lid, .int .u32 adv, .int .i64 seq, .int .u16 sum, .int .i64 len] 82) = w2 at hR2 hk2 hH ⊢
  have hsz2 : Hid (w.heap.size < w2.heap.size) := Lib.hid (lt_of_block hR2.out)
  have hr2 := Lib.hid (hk2.out.rangeAt hr.out id)
  have hb2 := Lib.hid (bytes_tail hr2.out hc 2 (by omega))
  rw [if_neg (by omega)] at hb2
  have c16 := drop_cell hr2.out 16 (by omega)
  have e16' : (((x[16]'(by omega)).toNat : Int) == 255) = false := by rw [beq_eq_false_iff_ne]; intro h; apply h16; apply UInt8.toNat_inj.mp; show (x[16]'(by omega)).toNat = 255; omega
  have c17 := drop_cell hr2.out 17 (by omega)
  have e17' : (((x[17]'(by omega)).toNat : Int) == 255) = false := by rw [beq_eq_false_iff_ne]; intro h; apply h17; apply UInt8.toNat_inj.mp; show (x[17]'(by omega)).toNat = 255; omega
  have hl1 : (len != (x.length : Int)) = false := by rw [hlen.out]; simp
  have b6 := hH.out.cell 6 (.int .i64 len) rfl
  clear h16 h17
  go_wp2_with fail
  refine (suRight_r _ (x.drop 2) true (by simp; omega) _ hb2 hri).mono ?_
  rintro e w' ⟨rfl, rfl⟩
  have c20 : (20 : Int) ≤ c := by omega
  have x20 : (20 : Int) ≤ x.length := by omega
  have htl0 := bytes_tail hr2.out hc 20 (by omega)
  by_cases hck : c = 20
  · subst hck
    rw [if_pos rfl, show x.length - 20 = 0 by omega] at htl0
    have htl := Lib.hid htl0; clear htl0
    go_upto_region 8 with fail
    clear b6 c16 c17
    refine wp_region_noPanic ?_
    refine wp_region_held_drew (S := (fun W => Keeps (fun _ => False) w2 W)) (by kernel_rfl) (((Keeps.refl (fun _ => False) _).drew)) (fun hHeld => ?_)
    refine tk 0 rfl ?_
    refine tkL 1 rfl (yieldsIf_load_cell (by rfl) 3 (.tmp 40) rfl w1.heap.size 0 rfl _ (fun _ s => (hH.out.keep s id).cell 0 (.int .i64 age) rfl) (fun w s => load_int w _ _ _ s)) ?_
    refine tk 2 rfl ?_
    refine tkL 3 rfl (yieldsIf_load_mid (by rfl) 25 (.tmp 42) rfl w1.heap.size 1 rfl [.int .i64 type, .int .u32 lid, .int .u32 adv] _ (fun _ s => key_range (hH.out.keep s id)) Try.underlying25 rfl keyInfo) ?_
    refine tk 4 rfl ?_
    refine tkL 5 rfl (yieldsIf_load_cell (by rfl) 3 (.tmp 44) rfl w1.heap.size 4 rfl _ (fun _ s => (hH.out.keep s id).cell 4 (.int .i64 seq) rfl) (fun w s => load_int w _ _ _ s)) ?_
    refine tk 6 rfl ?_
    refine tk 7 rfl ?_
    refine tk 8 rfl ?_
    refine wpAnyH_slots [49, 6] [9, 10, 11] (fun L f W =>
        (L 9 = true → L 11 = false → LsaF w2 W (f 49) ⟨mage, mtype, mid, madv, mseq, mlinks, mmask, mrouters, mcost⟩) ∧
        (L 10 = true → L 11 = false → ∃ B, f 6 = .pointer (some ⟨B, 0, none⟩) ∧ w2.heap.size ≤ B ∧ BlkAt W B 29 [.int .i64 0, .int .i64 0, .int .u32 0, .int .u32 0, .int .i64 0, .slice none 0 0, .int .u32 0, .slice none 0 0, .int .i64 0]) ∧
        (L 9 = true → L 10 = true → L 11 = false → ∃ B, f 6 = .pointer (some ⟨B, 0, none⟩) ∧ LsaX w2.heap.size W (f 49) ⟨mage, mtype, mid, madv, mseq, mlinks, mmask, mrouters, mcost⟩ B) ∧
        (L 11 = true → L 9 = true ∧ L 10 = true ∧ LsaBox W (f 6) ⟨mage, mtype, mid, madv, mseq, mlinks, mmask, mrouters, mcost⟩ w2.heap.size)) (by kernel_rfl) (by kernel_rfl) (by kernel_rfl) (by kernel_rfl) (Nat.le_of_ble_eq_true (by kernel_rfl)) hHeld
      (fun L f h => ⟨fun e => absurd (h 9 (by decide)) (by rw [e]; decide), fun e => absurd (h 10 (by decide)) (by rw [e]; decide), fun e => absurd (h 9 (by decide)) (by rw [e]; decide), fun e => absurd (h 11 (by decide)) (by rw [e]; decide)⟩) ?_ ?_
    · refine StepsG.cons (d := 49) rfl rfl (by decide) ?_ (StepsG.cons (d := 6) rfl rfl (by decide) ?_ (StepsG.cons0 rfl rfl ?_ StepsG.nil))
      · intro L f W hG hS hL hdep K hK
        simp only [actOf, List.foldl_cons, List.foldl_nil, Act.put, sA, sZ, sS] at hK ⊢
        rw [if_pos (by rfl)]
        go_simp
        refine (lsHear_n age type seq lid adv _ _ _ (x.drop 20) ⟨mage, mtype, mid, madv, mseq, mlinks, mmask, mrouters, mcost⟩ (by simp; omega) (by simp; omega) _ (Lib.hid (htl.out.keep hS)) hm).mono ?_
        rintro e W' ⟨⟨v, rfl, hV⟩, hk'⟩
        go_wp2_with fail
        refine hK.out _ _ (hS.trans hk') ⟨fun _ _ => hV.older hS.size, fun e10 e11 => ?_, fun _ e10 e11 => ?_, fun e11 => absurd ((hG.2.2.2 e11).1.symm.trans hL) (by decide)⟩
        · obtain ⟨B, h1, h2, h3⟩ := hG.2.1 e10 e11
          exact ⟨B, h1, h2, h3.keep hk' id⟩
        · obtain ⟨B, h1, h2, h3⟩ := hG.2.1 e10 e11
          exact ⟨B, h1, hV.away (lt_of_block h3) hS.size⟩
      · intro L f W hG hS hL hdep K hK
        simp only [actOf, List.foldl_cons, List.foldl_nil, Act.put, sA, sZ, sS] at hK ⊢
        rw [if_pos (by rfl)]
        go_simp
        have hk' : Keeps (fun _ => False) W (W.alloc (.cells #[.int .i64 0, .int .i64 0, .int .u32 0, .int .u32 0, .int .i64 0, .slice none 0 0, .int .u32 0, .slice none 0 0, .int .i64 0] 29)) := (Keeps.refl _ _).alloc _
        refine hK.out _ _ (hS.trans hk') ⟨fun e9 e11 => (hG.1 e9 e11).keep hk', fun _ _ => ⟨W.heap.size, rfl, hS.size, BlkAt.new W _ _⟩, fun e9 _ e11 => ⟨W.heap.size, rfl, ((hG.1 e9 e11).away2).keep hk'⟩, fun e11 => absurd ((hG.2.2.2 e11).2.1.symm.trans hL) (by decide)⟩
      · intro L f W hG hS hL hdep K hK
        simp only [actOf, List.foldl_cons, List.foldl_nil, Act.put, sA, sZ, sS] at hK ⊢
        rw [if_pos (by rfl)]
        have d9 := hdep ⟨9, .data⟩ (by simp) rfl (by decide)
        have d10 := hdep ⟨10, .data⟩ (by simp) rfl (by decide)
        obtain ⟨B, h6, hlo, hblk⟩ := hG.2.1 d10 hL
        obtain ⟨B', h6', p5, c5, p7, c7, h49, hl5, hn7, ha5, ha7, hf5, hf7⟩ := hG.2.2.1 d9 d10 hL
        rw [h6] at h6'; injection h6' with h6'; injection h6' with h6'; injection h6' with h6'; subst h6'
        refine wp_store_mid 29 (.tmp 6) (.tmp 49) rfl B 0 #[.int .i64 mage, .int .i64 mtype, .int .u32 mid, .int .u32 madv, .int .i64 mseq, .slice p5 mlinks.length c5, .int .u32 mmask, .slice p7 mrouters.length c7, .int .i64 mcost] h6 h49 (hblk.there 0 9 (Nat.le_refl 9)) lsaInfo (lsa_one _ _ _ _ _ _ _ _ _ (slice_one _ _ _) (slice_one _ _ _)) ?_
        have hs9 : Keeps (fun i => i = B) W (W.setCells B 0 [.int .i64 mage, .int .i64 mtype, .int .u32 mid, .int .u32 madv, .int .i64 mseq, .slice p5 mlinks.length c5, .int .u32 mmask, .slice p7 mrouters.length c7, .int .i64 mcost]) := Keeps.setCells (F := fun i => i = B) (.inl rfl) _ _ _ (Keeps.refl _ _)
        refine hK.out _ (hS.trans' hs9 (fun i e => .inr (by omega))) ⟨fun _ e => absurd (show true = false from e) (by decide), fun _ e => absurd (show true = false from e) (by decide), fun _ _ e => absurd (show true = false from e) (by decide), fun _ => ⟨d9, d10, B, p5, c5, p7, c7, h6, hlo, World.rangeAt_setCells_same _ _ _ _ (hblk.there 0 9 (Nat.le_refl 9)), hl5.keepF hs9 (fun h0 i e => ha5 h0 i _ _ e), hn7.keepF hs9 (fun h0 i e => ha7 h0 i _ _ e), hf5, hf7⟩⟩
    · intro f W hG hS
      obtain ⟨-, -, B, p5, c5, p7, c7, h6, hlo, hrB, hl5, hn7, hf5, hf7⟩ := hG.2.2.2 rfl
      simp only [actOf, List.foldl_cons, List.foldl_nil, Act.put, sA, sZ, sS]
      rw [h6]
      generalize f 49 = f49
      have hS' := Lib.hid hS; have hrB' := Lib.hid hrB; have hl5' := Lib.hid hl5; have hn7' := Lib.hid hn7; have hlo' := Lib.hid hlo; have hf5' := Lib.hid hf5; have hf7' := Lib.hid hf7
      have hR3 := Lib.hid (hR2.out.keep hS id); have hk3 := Lib.hid (hk2.out.trans hS)
      clear hG h6 hS hrB hl5 hn7 hlo hf5 hf7 f
      refine NoPanic.normal ?_
      go_wp2_with ((with_reducible refine at_slot 51 ?_); refine wpList_load_mid rfl 29 (.tmp 6) rfl B 0 rfl [.int .i64 mage, .int .i64 mtype, .int .u32 mid, .int .u32 madv, .int .i64 mseq, .slice p5 mlinks.length c5, .int .u32 mmask, .slice p7 mrouters.length c7, .int .i64 mcost] _ hrB'.out Try.underlying29 rfl lsaInfo ?_)
      refine (lsPut_yes mage mtype mseq mcost mid madv mmask mlinks mrouters p5 p7 c5 c7 _ hl5' hn7' hlok hrok hid hadv hmk hcan).mono ?_
      rintro e w4 ⟨pb, cb, rfl, hOb, k4⟩
      have hR4 := Lib.hid (hR3.out.keep k4 id); have hk4 := Lib.hid (hk3.out.trans k4)
      have hOb' := Lib.hid hOb.bytes
      have hx4 := Lib.hid (BytesAt.of rfl hc (hk4.out.rangeAt hr.out id))
      have hrB4 := Lib.hid (k4.rangeAt hrB'.out id); have hl54 := Lib.hid (hl5'.out.keep k4); have hn74 := Lib.hid (hn7'.out.keep k4)
      clear k4 hOb hR3 hk3 hrB' hl5' hn7'
      go_wp2_with fail
      refine (bytesEqual_r _ _ (putB ⟨mage, mtype, mid, madv, mseq, mlinks, mmask, mrouters, mcost⟩) x true _ hOb' hx4 heq).mono ?_
      rintro e w' ⟨rfl, rfl⟩
      go_wp2_with (first | ((with_reducible refine at_slot 64 ?_); refine wpList_load_mid rfl 29 (.tmp 6) rfl B 0 rfl [.int .i64 mage, .int .i64 mtype, .int .u32 mid, .int .u32 madv, .int .i64 mseq, .slice p5 mlinks.length c5, .int .u32 mmask, .slice p7 mrouters.length c7, .int .i64 mcost] _ hrB4.out Try.underlying29 rfl lsaInfo ?_) | ((with_reducible refine at_store 2 ?_); refine wpList_store_blk rfl 29 (.tmp 2) (.tmp 64) rfl w.heap.size #[.int .i64 mage, .int .i64 mtype, .int .u32 mid, .int .u32 madv, .int .i64 mseq, .slice p5 mlinks.length c5, .int .u32 mmask, .slice p7 mrouters.length c7, .int .i64 mcost] rfl rfl (BlkAt.there hR4.out 0 9 (Nat.le_refl 9)) lsaInfo (lsa_one _ _ _ _ _ _ _ _ _ (slice_one _ _ _) (slice_one _ _ _)) ?_; intro w9 hr9 hs9))
      have e0 := rangeAt_cell hr9.out 0 _ rfl
      have e1 := rangeAt_cell hr9.out 1 _ rfl
      have e2 := rangeAt_cell hr9.out 2 _ rfl
      have e3 := rangeAt_cell hr9.out 3 _ rfl
      have e4 := rangeAt_cell hr9.out 4 _ rfl
      have e5 := rangeAt_cell hr9.out 5 _ rfl
      have e6 := rangeAt_cell hr9.out 6 _ rfl
      have e7 := rangeAt_cell hr9.out 7 _ rfl
      have e8 := rangeAt_cell hr9.out 8 _ rfl
      refine bodyPost_ret (v := .tuple #[.agg #[.int .i64 mage, .int .i64 mtype, .int .u32 mid, .int .u32 madv, .int .i64 mseq, .slice p5 mlinks.length c5, .int .u32 mmask, .slice p7 mrouters.length c7, .int .i64 mcost], .int .i64 0]) (by simp [results, Try.results105, go_sem, e0, e1, e2, e3, e4, e5, e6, e7, e8]) rfl ⟨⟨_, by rw [hg'.out], by rw [hg'.out]; exact ⟨p5, c5, p7, c7, rfl, hl54.out.keepF hs9.out (fun _ i e => by have := hf5'.out i _ _ e; have := hsz2.out; omega), hn74.out.keepF hs9.out (fun _ i e => by have := hf7'.out i _ _ e; have := hsz2.out; omega), (fun i n c e => by have := hf5'.out i n c e; have := hsz2.out; omega), (fun i n c e => by have := hf7'.out i n c e; have := hsz2.out; omega)⟩⟩, hk4.out.trans' hs9.out (fun i e => .inr (by omega))⟩
  · rw [if_neg hck] at htl0
    have htl := Lib.hid htl0; clear htl0
    go_upto_region 8 with fail
    clear b6 c16 c17
    refine wp_region_noPanic ?_
    refine wp_region_held_drew (S := (fun W => Keeps (fun _ => False) w2 W)) (by kernel_rfl) (((Keeps.refl (fun _ => False) _).drew)) (fun hHeld => ?_)
    refine tk 0 rfl ?_
    refine tkL 1 rfl (yieldsIf_load_cell (by rfl) 3 (.tmp 40) rfl w1.heap.size 0 rfl _ (fun _ s => (hH.out.keep s id).cell 0 (.int .i64 age) rfl) (fun w s => load_int w _ _ _ s)) ?_
    refine tk 2 rfl ?_
    refine tkL 3 rfl (yieldsIf_load_mid (by rfl) 25 (.tmp 42) rfl w1.heap.size 1 rfl [.int .i64 type, .int .u32 lid, .int .u32 adv] _ (fun _ s => key_range (hH.out.keep s id)) Try.underlying25 rfl keyInfo) ?_
    refine tk 4 rfl ?_
    refine tkL 5 rfl (yieldsIf_load_cell (by rfl) 3 (.tmp 44) rfl w1.heap.size 4 rfl _ (fun _ s => (hH.out.keep s id).cell 4 (.int .i64 seq) rfl) (fun w s => load_int w _ _ _ s)) ?_
    refine tk 6 rfl ?_
    refine tk 7 rfl ?_
    refine tk 8 rfl ?_
    refine wpAnyH_slots [49, 6] [9, 10, 11] (fun L f W =>
        (L 9 = true → L 11 = false → LsaF w2 W (f 49) ⟨mage, mtype, mid, madv, mseq, mlinks, mmask, mrouters, mcost⟩) ∧
        (L 10 = true → L 11 = false → ∃ B, f 6 = .pointer (some ⟨B, 0, none⟩) ∧ w2.heap.size ≤ B ∧ BlkAt W B 29 [.int .i64 0, .int .i64 0, .int .u32 0, .int .u32 0, .int .i64 0, .slice none 0 0, .int .u32 0, .slice none 0 0, .int .i64 0]) ∧
        (L 9 = true → L 10 = true → L 11 = false → ∃ B, f 6 = .pointer (some ⟨B, 0, none⟩) ∧ LsaX w2.heap.size W (f 49) ⟨mage, mtype, mid, madv, mseq, mlinks, mmask, mrouters, mcost⟩ B) ∧
        (L 11 = true → L 9 = true ∧ L 10 = true ∧ LsaBox W (f 6) ⟨mage, mtype, mid, madv, mseq, mlinks, mmask, mrouters, mcost⟩ w2.heap.size)) (by kernel_rfl) (by kernel_rfl) (by kernel_rfl) (by kernel_rfl) (Nat.le_of_ble_eq_true (by kernel_rfl)) hHeld
      (fun L f h => ⟨fun e => absurd (h 9 (by decide)) (by rw [e]; decide), fun e => absurd (h 10 (by decide)) (by rw [e]; decide), fun e => absurd (h 9 (by decide)) (by rw [e]; decide), fun e => absurd (h 11 (by decide)) (by rw [e]; decide)⟩) ?_ ?_
    · refine StepsG.cons (d := 49) rfl rfl (by decide) ?_ (StepsG.cons (d := 6) rfl rfl (by decide) ?_ (StepsG.cons0 rfl rfl ?_ StepsG.nil))
      · intro L f W hG hS hL hdep K hK
        simp only [actOf, List.foldl_cons, List.foldl_nil, Act.put, sA, sZ, sS] at hK ⊢
        rw [if_pos (by rfl)]
        go_simp
        refine (lsHear_n age type seq lid adv _ _ _ (x.drop 20) ⟨mage, mtype, mid, madv, mseq, mlinks, mmask, mrouters, mcost⟩ (by simp; omega) (by simp) _ (Lib.hid (htl.out.keep hS)) hm).mono ?_
        rintro e W' ⟨⟨v, rfl, hV⟩, hk'⟩
        go_wp2_with fail
        refine hK.out _ _ (hS.trans hk') ⟨fun _ _ => hV.older hS.size, fun e10 e11 => ?_, fun _ e10 e11 => ?_, fun e11 => absurd ((hG.2.2.2 e11).1.symm.trans hL) (by decide)⟩
        · obtain ⟨B, h1, h2, h3⟩ := hG.2.1 e10 e11
          exact ⟨B, h1, h2, h3.keep hk' id⟩
        · obtain ⟨B, h1, h2, h3⟩ := hG.2.1 e10 e11
          exact ⟨B, h1, hV.away (lt_of_block h3) hS.size⟩
      · intro L f W hG hS hL hdep K hK
        simp only [actOf, List.foldl_cons, List.foldl_nil, Act.put, sA, sZ, sS] at hK ⊢
        rw [if_pos (by rfl)]
        go_simp
        have hk' : Keeps (fun _ => False) W (W.alloc (.cells #[.int .i64 0, .int .i64 0, .int .u32 0, .int .u32 0, .int .i64 0, .slice none 0 0, .int .u32 0, .slice none 0 0, .int .i64 0] 29)) := (Keeps.refl _ _).alloc _
        refine hK.out _ _ (hS.trans hk') ⟨fun e9 e11 => (hG.1 e9 e11).keep hk', fun _ _ => ⟨W.heap.size, rfl, hS.size, BlkAt.new W _ _⟩, fun e9 _ e11 => ⟨W.heap.size, rfl, ((hG.1 e9 e11).away2).keep hk'⟩, fun e11 => absurd ((hG.2.2.2 e11).2.1.symm.trans hL) (by decide)⟩
      · intro L f W hG hS hL hdep K hK
        simp only [actOf, List.foldl_cons, List.foldl_nil, Act.put, sA, sZ, sS] at hK ⊢
        rw [if_pos (by rfl)]
        have d9 := hdep ⟨9, .data⟩ (by simp) rfl (by decide)
        have d10 := hdep ⟨10, .data⟩ (by simp) rfl (by decide)
        obtain ⟨B, h6, hlo, hblk⟩ := hG.2.1 d10 hL
        obtain ⟨B', h6', p5, c5, p7, c7, h49, hl5, hn7, ha5, ha7, hf5, hf7⟩ := hG.2.2.1 d9 d10 hL
        rw [h6] at h6'; injection h6' with h6'; injection h6' with h6'; injection h6' with h6'; subst h6'
        refine wp_store_mid 29 (.tmp 6) (.tmp 49) rfl B 0 #[.int .i64 mage, .int .i64 mtype, .int .u32 mid, .int .u32 madv, .int .i64 mseq, .slice p5 mlinks.length c5, .int .u32 mmask, .slice p7 mrouters.length c7, .int .i64 mcost] h6 h49 (hblk.there 0 9 (Nat.le_refl 9)) lsaInfo (lsa_one _ _ _ _ _ _ _ _ _ (slice_one _ _ _) (slice_one _ _ _)) ?_
        have hs9 : Keeps (fun i => i = B) W (W.setCells B 0 [.int .i64 mage, .int .i64 mtype, .int .u32 mid, .int .u32 madv, .int .i64 mseq, .slice p5 mlinks.length c5, .int .u32 mmask, .slice p7 mrouters.length c7, .int .i64 mcost]) := Keeps.setCells (F := fun i => i = B) (.inl rfl) _ _ _ (Keeps.refl _ _)
        refine hK.out _ (hS.trans' hs9 (fun i e => .inr (by omega))) ⟨fun _ e => absurd (show true = false from e) (by decide), fun _ e => absurd (show true = false from e) (by decide), fun _ _ e => absurd (show true = false from e) (by decide), fun _ => ⟨d9, d10, B, p5, c5, p7, c7, h6, hlo, World.rangeAt_setCells_same _ _ _ _ (hblk.there 0 9 (Nat.le_refl 9)), hl5.keepF hs9 (fun h0 i e => ha5 h0 i _ _ e), hn7.keepF hs9 (fun h0 i e => ha7 h0 i _ _ e), hf5, hf7⟩⟩
    · intro f W hG hS
      obtain ⟨-, -, B, p5, c5, p7, c7, h6, hlo, hrB, hl5, hn7, hf5, hf7⟩ := hG.2.2.2 rfl
      simp only [actOf, List.foldl_cons, List.foldl_nil, Act.put, sA, sZ, sS]
      rw [h6]
      generalize f 49 = f49
      have hS' := Lib.hid hS; have hrB' := Lib.hid hrB; have hl5' := Lib.hid hl5; have hn7' := Lib.hid hn7; have hlo' := Lib.hid hlo; have hf5' := Lib.hid hf5; have hf7' := Lib.hid hf7
      have hR3 := Lib.hid (hR2.out.keep hS id); have hk3 := Lib.hid (hk2.out.trans hS)
      clear hG h6 hS hrB hl5 hn7 hlo hf5 hf7 f
      refine NoPanic.normal ?_
      go_wp2_with ((with_reducible refine at_slot 51 ?_); refine wpList_load_mid rfl 29 (.tmp 6) rfl B 0 rfl [.int .i64 mage, .int .i64 mtype, .int .u32 mid, .int .u32 madv, .int .i64 mseq, .slice p5 mlinks.length c5, .int .u32 mmask, .slice p7 mrouters.length c7, .int .i64 mcost] _ hrB'.out Try.underlying29 rfl lsaInfo ?_)
      refine (lsPut_yes mage mtype mseq mcost mid madv mmask mlinks mrouters p5 p7 c5 c7 _ hl5' hn7' hlok hrok hid hadv hmk hcan).mono ?_
      rintro e w4 ⟨pb, cb, rfl, hOb, k4⟩
      have hR4 := Lib.hid (hR3.out.keep k4 id); have hk4 := Lib.hid (hk3.out.trans k4)
      have hOb' := Lib.hid hOb.bytes
      have hx4 := Lib.hid (BytesAt.of rfl hc (hk4.out.rangeAt hr.out id))
      have hrB4 := Lib.hid (k4.rangeAt hrB'.out id); have hl54 := Lib.hid (hl5'.out.keep k4); have hn74 := Lib.hid (hn7'.out.keep k4)
      clear k4 hOb hR3 hk3 hrB' hl5' hn7'
      go_wp2_with fail
      refine (bytesEqual_r _ _ (putB ⟨mage, mtype, mid, madv, mseq, mlinks, mmask, mrouters, mcost⟩) x true _ hOb' hx4 heq).mono ?_
      rintro e w' ⟨rfl, rfl⟩
      go_wp2_with (first | ((with_reducible refine at_slot 64 ?_); refine wpList_load_mid rfl 29 (.tmp 6) rfl B 0 rfl [.int .i64 mage, .int .i64 mtype, .int .u32 mid, .int .u32 madv, .int .i64 mseq, .slice p5 mlinks.length c5, .int .u32 mmask, .slice p7 mrouters.length c7, .int .i64 mcost] _ hrB4.out Try.underlying29 rfl lsaInfo ?_) | ((with_reducible refine at_store 2 ?_); refine wpList_store_blk rfl 29 (.tmp 2) (.tmp 64) rfl w.heap.size #[.int .i64 mage, .int .i64 mtype, .int .u32 mid, .int .u32 madv, .int .i64 mseq, .slice p5 mlinks.length c5, .int .u32 mmask, .slice p7 mrouters.length c7, .int .i64 mcost] rfl rfl (BlkAt.there hR4.out 0 9 (Nat.le_refl 9)) lsaInfo (lsa_one _ _ _ _ _ _ _ _ _ (slice_one _ _ _) (slice_one _ _ _)) ?_; intro w9 hr9 hs9))
      have e0 := rangeAt_cell hr9.out 0 _ rfl
      have e1 := rangeAt_cell hr9.out 1 _ rfl
      have e2 := rangeAt_cell hr9.out 2 _ rfl
      have e3 := rangeAt_cell hr9.out 3 _ rfl
      have e4 := rangeAt_cell hr9.out 4 _ rfl
      have e5 := rangeAt_cell hr9.out 5 _ rfl
      have e6 := rangeAt_cell hr9.out 6 _ rfl
      have e7 := rangeAt_cell hr9.out 7 _ rfl
      have e8 := rangeAt_cell hr9.out 8 _ rfl
      refine bodyPost_ret (v := .tuple #[.agg #[.int .i64 mage, .int .i64 mtype, .int .u32 mid, .int .u32 madv, .int .i64 mseq, .slice p5 mlinks.length c5, .int .u32 mmask, .slice p7 mrouters.length c7, .int .i64 mcost], .int .i64 0]) (by simp [results, Try.results105, go_sem, e0, e1, e2, e3, e4, e5, e6, e7, e8]) rfl ⟨⟨_, by rw [hg'.out], by rw [hg'.out]; exact ⟨p5, c5, p7, c7, rfl, hl54.out.keepF hs9.out (fun _ i e => by have := hf5'.out i _ _ e; have := hsz2.out; omega), hn74.out.keepF hs9.out (fun _ i e => by have := hf7'.out i _ _ e; have := hsz2.out; omega), (fun i n c e => by have := hf5'.out i n c e; have := hsz2.out; omega), (fun i n c e => by have := hf7'.out i n c e; have := hsz2.out; omega)⟩⟩, hk4.out.trans' hs9.out (fun i e => .inr (by omega))⟩
end Go.Proofs.Ytdaongflpllfhaa
/- All of lsa.Get; puts. -/
namespace Go.Proofs.Ytdaongflpllfhaa
open Go.RowKit

theorem hearD_lens (age type seq : Int) (lid adv : Nat) (x : List UInt8) : (hearD age type lid adv seq x).links.length ≤ x.length ∧ (hearD age type lid adv seq x).routers.length ≤ x.length := by
  unfold hearD
  split
  · simp
  · split
    · simp only [readL_len, List.length_nil]; omega
    · split
      · simp only [readN_len, List.length_nil]; omega
      · split
        · simp
        · simp
theorem headOf_ok (x : List UInt8) (H : HeadD) (h : headOf x = H) : H.id < 4294967296 ∧ H.adv < 4294967296 := by
  rw [← h]
  exact ⟨sub_lt4 x 4 4 (by omega), sub_lt4 x 8 4 (by omega)⟩
theorem lsGet_any (sl : Value) (x : List UInt8) (hx : x.length ≤ 1000000) (w : World) (h : Hid (BytesAt w sl x)) : Calls Try.prog 105 #[sl] w (GetPost x w) := by
  obtain ⟨p, c, rfl, -, hc, hb⟩ := h.out
  by_cases h20 : x.length < 20
  · exact lsGet_short p c x h20 w
  · obtain ⟨g, o, rfl, hr⟩ := hb (by omega)
    cases hh : headOf x with
    | mk age type lid adv seq sum len =>
      obtain ⟨l1, l2⟩ := headOf_ok x _ hh
      cases hri : rightF (x.drop 2) with
      | false => exact lsGet_b1 g o c x (by omega) hx hc age type seq len lid adv sum w (Lib.hid hr) (Lib.hid hh) (Lib.hid hri)
      | true =>
        by_cases h16 : x[16]'(by omega) = 255
        · exact lsGet_b2 g o c x (by omega) hx hc age type seq len lid adv sum w (Lib.hid hr) (Lib.hid hh) (Lib.hid hri) h16
        · by_cases h17 : x[17]'(by omega) = 255
          · exact lsGet_b3 g o c x (by omega) hx hc age type seq len lid adv sum w (Lib.hid hr) (Lib.hid hh) (Lib.hid hri) h16 h17
          · by_cases hlen : len = (x.length : Int)
            · have hl := hearD_lens age type seq lid adv (x.drop 20)
              have hp := hearD_parts age type seq lid adv (x.drop 20)
              have hd : (x.drop 20).length ≤ 1000000 := by simp; omega
              cases hm : hearD age type lid adv seq (x.drop 20) with
              | mk mage mtype mid madv mseq mlinks mmask mrouters mcost =>
                rw [hm] at hl hp
                obtain ⟨q1, q2, q3, q4, q5⟩ := hp
                simp only at hl q1 q2 q3 q4 q5
                cases hcan : canB ⟨mage, mtype, mid, madv, mseq, mlinks, mmask, mrouters, mcost⟩ with
                | false => exact lsGet_d g o c x (by omega) hx hc age type seq len lid adv sum w (Lib.hid hr) (Lib.hid hh) (Lib.hid hri) h16 h17 (Lib.hid hlen) mage mtype mseq mcost mid madv mmask mlinks mrouters (Lib.hid hm) (by omega) (by omega) (Lib.hid hcan)
                | true =>
                  cases heq : (putB ⟨mage, mtype, mid, madv, mseq, mlinks, mmask, mrouters, mcost⟩ == x) with
                  | false => exact lsGet_e g o c x (by omega) hx hc age type seq len lid adv sum w (Lib.hid hr) (Lib.hid hh) (Lib.hid hri) h16 h17 (Lib.hid hlen) mage mtype mseq mcost mid madv mmask mlinks mrouters (Lib.hid hm) (by omega) (by omega) (Lib.hid q5) (Lib.hid q4) (by rw [q1]; exact l1) (by rw [q2]; exact l2) q3 (Lib.hid hcan) (Lib.hid heq)
                  | true => exact lsGet_f g o c x (by omega) hx hc age type seq len lid adv sum w (Lib.hid hr) (Lib.hid hh) (Lib.hid hri) h16 h17 (Lib.hid hlen) mage mtype mseq mcost mid madv mmask mlinks mrouters (Lib.hid hm) (by omega) (by omega) (Lib.hid q5) (Lib.hid q4) (by rw [q1]; exact l1) (by rw [q2]; exact l2) q3 (Lib.hid hcan) (Lib.hid heq)
            · exact lsGet_c g o c x (by omega) hx hc age type seq len lid adv sum w (Lib.hid hr) (Lib.hid hh) (Lib.hid hri) h16 h17 hlen
/-- .. with what it answers under names -/
theorem lsGet_r (sl : Value) (x : List UInt8) (m : LsaD) (e0 : Int) (hx : x.length ≤ 1000000) (w : World) (h : Hid (BytesAt w sl x)) (hm : Hid (getL x = (m, e0))) :
    Calls Try.prog 105 #[sl] w fun e w' => (∃ p5 c5 p7 c7, e = .returned (.tuple #[.agg #[.int .i64 m.age, .int .i64 m.type, .int .u32 m.id, .int .u32 m.adv, .int .i64 m.seq, .slice p5 m.links.length c5, .int .u32 m.mask, .slice p7 m.routers.length c7, .int .i64 m.cost], .int .i64 e0]) ∧ LinksAt w' (.slice p5 m.links.length c5) m.links ∧ NumsAt w' (.slice p7 m.routers.length c7) m.routers) ∧ Keeps (fun _ => False) w w' := by
  refine (lsGet_any sl x hx w h).mono ?_
  rintro e w' ⟨⟨v, rfl, hV⟩, hk⟩
  rw [hm.out] at hV ⊢
  obtain ⟨p5, c5, p7, c7, rfl, h1, h2, -, -⟩ := hV
  exact ⟨⟨p5, c5, p7, c7, rfl, h1, h2⟩, hk⟩
/-- .. its lists in new blocks -/
theorem lsGet_rf (sl : Value) (x : List UInt8) (m : LsaD) (e0 : Int) (hx : x.length ≤ 1000000) (w : World) (h : Hid (BytesAt w sl x)) (hm : Hid (getL x = (m, e0))) :
    Calls Try.prog 105 #[sl] w fun e w' => (∃ v, e = .returned (.tuple #[v, .int .i64 e0]) ∧ LsaF w w' v m) ∧ Keeps (fun _ => False) w w' := by
  refine (lsGet_any sl x hx w h).mono ?_
  rintro e w' ⟨⟨v, rfl, hV⟩, hk⟩
  rw [hm.out] at hV ⊢
  exact ⟨⟨v, rfl, hV⟩, hk⟩

def oneL : LsaD := ⟨0, 1, 5, 5, -2147483647, [], 0, [], 0⟩
theorem one_can : canB oneL = true := by decide
theorem one_len : (putB oneL).length = 24 := by rw [putB_len]; decide
theorem one_get : getL (putB oneL) = (oneL, 0) := by kernel_rfl
end Go.Proofs.Ytdaongflpllfhaa
/- slices.Equal of links and of numbers, walked. -/
namespace Go.Proofs.Ytdaongflpllfhaa
open Go.RowKit

def linkEq (a b : LinkD) : Bool := decide (a.id = b.id) && (decide (a.data = b.data) && (decide (a.type = b.type) && decide (a.cost = b.cost)))
def linksEq : List LinkD → List LinkD → Bool
  | [], [] => true
  | a :: r, b :: s => linkEq a b && linksEq r s
  | _, _ => false
def numsEq : List Nat → List Nat → Bool
  | [], [] => true
  | a :: r, b :: s => decide (a = b) && numsEq r s
  | _, _ => false
theorem linksEq_len {a b : List LinkD} (h : a.length ≠ b.length) : linksEq a b = false := by
  induction a generalizing b with
  | nil => cases b <;> simp_all [linksEq]
  | cons x a ih =>
    cases b with
    | nil => rfl
    | cons y b => simp only [linksEq]; rw [ih (by simpa using h)]; simp
theorem numsEq_len {a b : List Nat} (h : a.length ≠ b.length) : numsEq a b = false := by
  induction a generalizing b with
  | nil => cases b <;> simp_all [numsEq]
  | cons x a ih =>
    cases b with
    | nil => rfl
    | cons y b => simp only [numsEq]; rw [ih (by simpa using h)]; simp
theorem numsEq_step {a b : List Nat} {k : Nat} (h1 : k < a.length) (h2 : k < b.length) : numsEq (a.drop k) (b.drop k) = (decide (a[k] = b[k]) && numsEq (a.drop (k + 1)) (b.drop (k + 1))) := by
  rw [List.drop_eq_getElem_cons h1, List.drop_eq_getElem_cons h2]; rfl
theorem linksEq_step {a b : List LinkD} {k : Nat} (h1 : k < a.length) (h2 : k < b.length) : linksEq (a.drop k) (b.drop k) = (linkEq a[k] b[k] && linksEq (a.drop (k + 1)) (b.drop (k + 1))) := by
  rw [List.drop_eq_getElem_cons h1, List.drop_eq_getElem_cons h2]; rfl
@[go_sem] theorem guardLink (op : BinOp) (x y : Operand) (xs ys : Array Value) (w : World) : (eqGuard op 70 x y (.agg xs) (.agg ys)).run Try.prog w = .ok () w := run_eqGuard_agg w op 70 x y xs ys (by kernel_rfl)
end Go.Proofs.Ytdaongflpllfhaa
/- lsa.Alike, walked (gen_lt.py writes this). -/
namespace Go.Proofs.Ytdaongflpllfhaa
open Go.RowKit

def keyEq (a b : LsaD) : Bool := decide (a.type = b.type) && (decide (a.id = b.id) && decide (a.adv = b.adv))
def alikeB (a b : LsaD) : Bool := keyEq a b && (decide (a.mask = b.mask) && (decide (a.cost = b.cost) && (linksEq a.links b.links && numsEq a.routers b.routers)))
@[go_sem] theorem guardKey (op : BinOp) (x y : Operand) (xs ys : Array Value) (w : World) : (eqGuard op 25 x y (.agg xs) (.agg ys)).run Try.prog w = .ok () w := run_eqGuard_agg w op 25 x y xs ys (by kernel_rfl)
theorem alike_cases (k1 k2 k3 m c l r : Prop) : ¬ k1 ∨ (k1 ∧ ¬ k2) ∨ (k1 ∧ k2 ∧ ¬ k3) ∨ (k1 ∧ k2 ∧ k3 ∧ ¬ m) ∨ (k1 ∧ k2 ∧ k3 ∧ m ∧ ¬ c) ∨ (k1 ∧ k2 ∧ k3 ∧ m ∧ c ∧ ¬ l) ∨ (k1 ∧ k2 ∧ k3 ∧ m ∧ c ∧ l) := by
  by_cases h1 : k1 <;> by_cases h2 : k2 <;> by_cases h3 : k3 <;> by_cases h4 : m <;> by_cases h5 : c <;> by_cases h6 : l <;> simp [h1, h2, h3, h4, h5, h6]
theorem links_eq_len {a b : List LinkD} (h : linksEq a b = true) : a.length = b.length := by
  by_cases e : a.length = b.length
  · exact e
  · rw [linksEq_len e] at h; simp at h
end Go.Proofs.Ytdaongflpllfhaa
