/- The document's Get, behind the sum: a body that is too short (gen_lao.py writes this). -/
import Derived.Test.YtiogeepffdpafaaLAM
namespace Go.Proofs.Ytiogeepffdpafaa
open Go.RowKit

set_option maxRecDepth 100000 in
set_option maxHeartbeats 4000000 in
theorem r10Get_s1 (g o c : Nat) (x : List UInt8) (hx : 20 ≤ x.length) (hx2 : x.length ≤ 1000000) (hc : x.length ≤ c) (age seq len : Int) (lid adv sum : Nat) (w : World) (hr : Hid (w.rangeAt g o (x.map bv))) (hh : Hid (headOf x = ⟨age, 1, lid, adv, seq, sum, len⟩)) (hri : Hid (rightF (x.drop 2) = true)) (h16 : x[16]'(by omega) ≠ 255) (h17 : x[17]'(by omega) ≠ 255) (hsh : x.length < 24) :
    Calls Try.prog 24 #[.slice (some ⟨g, o, none⟩) x.length c] w (GetPost x w) := by
  have hnb : ¬ (rightF (x.drop 2) = false ∨ x.getD 16 0 = 255 ∨ x.getD 17 0 = 255) := by
    rw [List.getD_eq_getElem?_getD, List.getElem?_eq_getElem (by omega), List.getD_eq_getElem?_getD, List.getElem?_eq_getElem (by omega), hri.out]
    rintro (h | h | h)
    · cases h
    · exact h16 h
    · exact h17 h
  have hg : getL x = (zeroL, 3) := getL_short x (by omega) hnb (.inl ⟨by rw [hh.out], by rw [List.length_drop]; omega⟩)
  clear hnb
  have hg' := Lib.hid hg; clear hg
  have hR : Hid (BlkAt (w.alloc (.cells #[.int .i64 0, .int .i64 0, .int .u32 0, .int .u32 0, .int .i64 0, .slice none 0 0, .int .u32 0, .slice none 0 0, .int .i64 0] 28)) w.heap.size 28 [.int .i64 0, .int .i64 0, .int .u32 0, .int .u32 0, .int .i64 0, .slice none 0 0, .int .u32 0, .slice none 0 0, .int .i64 0]) := Lib.hid (BlkAt.new w _ _)
  have hk : Hid (Keeps (fun _ => False) w (w.alloc (.cells #[.int .i64 0, .int .i64 0, .int .u32 0, .int .u32 0, .int .i64 0, .slice none 0 0, .int .u32 0, .slice none 0 0, .int .i64 0] 28))) := Lib.hid ((Keeps.refl _ _).alloc _)
  go_enter Try.func24, Try.ntmps24
  go_upto_region 1 with fail
  generalize w.alloc (.cells #[.int .i64 0, .int .i64 0, .int .u32 0, .int .u32 0, .int .i64 0, .slice none 0 0, .int .u32 0, .slice none 0 0, .int .i64 0] 28) = w0 at hR hk ⊢
  have hr0 := Lib.hid (hk.out.rangeAt hr.out id)
  have hb0 := Lib.hid (bytes_tail hr0.out hc 2 (by omega))
  rw [if_neg (by omega)] at hb0
  have c16 := drop_cell hr0.out 16 (by omega)
  have c17 := drop_cell hr0.out 17 (by omega)
  have e16 : (((x[16]'(by omega)).toNat : Int) == 255) = false := by rw [beq_eq_false_iff_ne]; intro e; exact h16 (UInt8.toNat_inj.1 (by have : ((x[16]'(by omega)).toNat : Int) = 255 := e; have h5 : (255 : UInt8).toNat = 255 := rfl; omega))
  have h16' := Lib.hid h16; clear h16
  have e17 : (((x[17]'(by omega)).toNat : Int) == 255) = false := by rw [beq_eq_false_iff_ne]; intro e; exact h17 (UInt8.toNat_inj.1 (by have : ((x[17]'(by omega)).toNat : Int) = 255 := e; have h5 : (255 : UInt8).toNat = 255 := rfl; omega))
  have h17' := Lib.hid h17; clear h17
  go_wp2_with fail
  refine (r9Right_r _ (x.drop 2) true (by simp; omega) _ hb0 hri).mono ?_
  rintro e w' ⟨rfl, rfl⟩
  go_wp2_with fail
  refine (r10Head_r g o c x hx (by omega) hc age 1 seq len lid adv sum _ hr0 hh).mono ?_
  rintro e w1 ⟨rfl, k1⟩
  clear c16 c17 e16 e17
  obtain ⟨W1, hW1⟩ : ∃ W1, W1 = w1.alloc (.cells #[.int .i64 age, .int .i64 1, .int .u32 lid, .int .u32 adv, .int .i64 seq, .int .u16 sum, .int .i64 len] 51) := ⟨_, rfl⟩
  have k1' : Keeps (fun _ => False) w0 W1 := by rw [hW1]; exact k1.alloc _
  have hH1 : Hid (BlkAt W1 w1.heap.size 51 [.int .i64 age, .int .i64 1, .int .u32 lid, .int .u32 adv, .int .i64 seq, .int .u16 sum, .int .i64 len]) := Lib.hid (by rw [hW1]; exact BlkAt.new w1 51 [.int .i64 age, .int .i64 1, .int .u32 lid, .int .u32 adv, .int .i64 seq, .int .u16 sum, .int .i64 len])
  have hR1 := Lib.hid (hR.out.keep k1' (fun f => f)); have hk1 := Lib.hid (hk.out.trans k1'); have hr1 := Lib.hid (k1'.rangeAt hr0.out (fun f => f))
  have hW1' := Lib.hid hW1
  clear hW1 k1 k1' hR hk hr0 hb0
  go_upto_region 6 with ((with_reducible refine at_store 4 ?_); refine wpList_store_new rfl 51 (.tmp 4) (.tmp 33) rfl _ #[.int .i64 age, .int .i64 1, .int .u32 lid, .int .u32 adv, .int .i64 seq, .int .u16 sum, .int .i64 len] rfl rfl r10HeadInfo rfl (head_one _ _ _ _ _ _ _) ?_)
  rw [← hW1'.out]
  clear hW1'
  have b0 := hH1.out.cell 0 (.int .i64 age) rfl
  have b4 := hH1.out.cell 4 (.int .i64 seq) rfl
  obtain ⟨W2, hW2⟩ : ∃ W2, W2 = W1.alloc (.cells #[.int .i64 age, .int .i64 1, .int .u32 lid, .int .u32 adv, .int .i64 seq, .slice none 0 0, .int .u32 0, .slice none 0 0, .int .i64 0] 28) := ⟨_, rfl⟩
  have k2' : Keeps (fun _ => False) W1 W2 := by rw [hW2]; exact (Keeps.refl _ _).alloc _
  have hB2 : Hid (BlkAt W2 W1.heap.size 28 [.int .i64 age, .int .i64 1, .int .u32 lid, .int .u32 adv, .int .i64 seq, .slice none 0 0, .int .u32 0, .slice none 0 0, .int .i64 0]) := Lib.hid (by rw [hW2]; exact BlkAt.new W1 28 [.int .i64 age, .int .i64 1, .int .u32 lid, .int .u32 adv, .int .i64 seq, .slice none 0 0, .int .u32 0, .slice none 0 0, .int .i64 0])
  have hH2 := Lib.hid (hH1.out.keep k2' (fun f => f)); have hR2 := Lib.hid (hR1.out.keep k2' (fun f => f)); have hk2 := Lib.hid (hk1.out.trans k2'); have hr2 := Lib.hid (k2'.rangeAt hr1.out (fun f => f))
  have hlt : Hid (w.heap.size < W1.heap.size) := Lib.hid (lt_of_block hR1.out)
  have hW2' := Lib.hid hW2
  clear hW2 k2' hR1 hk1 hr1
  go_upto_region 7 with (first | ((with_reducible refine at_slot 37 ?_); refine wpList_load_mid rfl 24 (.tmp 36) rfl w1.heap.size 1 rfl _ _ (key_range hH1.out) Try.underlying24 rfl keyInfoR ?_) | ((with_reducible refine at_store 5 ?_); refine wpList_store_new rfl 28 (.tmp 5) (.tmp 40) rfl _ _ rfl rfl lsaInfoR rfl (lsa_one _ _ _ _ _ _ _ _ _ (slice_one _ _ _) (slice_one _ _ _)) ?_))
  rw [← hW2'.out]
  clear hW2' b0 b4 hH1
  have b1 := hH2.out.cell 1 (.int .i64 1) rfl
  obtain ⟨B, hB⟩ : ∃ B, B = W1.heap.size := ⟨_, rfl⟩
  rw [← hB] at hB2 hlt ⊢
  obtain ⟨HB, hHB⟩ : ∃ HB, HB = w1.heap.size := ⟨_, rfl⟩
  rw [← hHB] at hH2 b1 ⊢
  clear hB hHB
  go_wp2_with ((with_reducible refine at_store 2 ?_); refine wpList_store_blk rfl 28 (.tmp 2) (.tmp 51) rfl w.heap.size #[.int .i64 0, .int .i64 0, .int .u32 0, .int .u32 0, .int .i64 0, .slice none 0 0, .int .u32 0, .slice none 0 0, .int .i64 0] rfl rfl (BlkAt.there hR2.out 0 9 (Nat.le_refl 9)) lsaInfoR (lsa_one _ _ _ _ _ _ _ _ _ (slice_one _ _ _) (slice_one _ _ _)) ?_; intro w9 hr9 hs9)
  all_goals (
    have e0 := rangeAt_cell hr9.out 0 _ rfl
    have e1 := rangeAt_cell hr9.out 1 _ rfl
    have e2 := rangeAt_cell hr9.out 2 _ rfl
    have e3 := rangeAt_cell hr9.out 3 _ rfl
    have e4 := rangeAt_cell hr9.out 4 _ rfl
    have e5 := rangeAt_cell hr9.out 5 _ rfl
    have e6 := rangeAt_cell hr9.out 6 _ rfl
    have e7 := rangeAt_cell hr9.out 7 _ rfl
    have e8 := rangeAt_cell hr9.out 8 _ rfl
    refine bodyPost_ret (v := .tuple #[.agg #[.int .i64 0, .int .i64 0, .int .u32 0, .int .u32 0, .int .i64 0, .slice none 0 0, .int .u32 0, .slice none 0 0, .int .i64 0], .int .i64 3]) (by simp [results, Try.results24, go_sem, e0, e1, e2, e3, e4, e5, e6, e7, e8]) rfl ⟨⟨_, by rw [hg'.out], by rw [hg'.out]; exact LsaV.zero _⟩, hk2.out.trans' hs9.out (fun i e => .inr (by omega))⟩)
set_option maxRecDepth 100000 in
set_option maxHeartbeats 4000000 in
theorem r10Get_s2 (g o c : Nat) (x : List UInt8) (hx : 20 ≤ x.length) (hx2 : x.length ≤ 1000000) (hc : x.length ≤ c) (age seq len : Int) (lid adv sum : Nat) (w : World) (hr : Hid (w.rangeAt g o (x.map bv))) (hh : Hid (headOf x = ⟨age, 2, lid, adv, seq, sum, len⟩)) (hri : Hid (rightF (x.drop 2) = true)) (h16 : x[16]'(by omega) ≠ 255) (h17 : x[17]'(by omega) ≠ 255) (hsh : x.length < 24) :
    Calls Try.prog 24 #[.slice (some ⟨g, o, none⟩) x.length c] w (GetPost x w) := by
  have hnb : ¬ (rightF (x.drop 2) = false ∨ x.getD 16 0 = 255 ∨ x.getD 17 0 = 255) := by
    rw [List.getD_eq_getElem?_getD, List.getElem?_eq_getElem (by omega), List.getD_eq_getElem?_getD, List.getElem?_eq_getElem (by omega), hri.out]
    rintro (h | h | h)
    · cases h
    · exact h16 h
    · exact h17 h
  have hg : getL x = (zeroL, 3) := getL_short x (by omega) hnb (.inr (.inl ⟨by rw [hh.out], by rw [List.length_drop]; omega⟩))
  clear hnb
  have hg' := Lib.hid hg; clear hg
  have hR : Hid (BlkAt (w.alloc (.cells #[.int .i64 0, .int .i64 0, .int .u32 0, .int .u32 0, .int .i64 0, .slice none 0 0, .int .u32 0, .slice none 0 0, .int .i64 0] 28)) w.heap.size 28 [.int .i64 0, .int .i64 0, .int .u32 0, .int .u32 0, .int .i64 0, .slice none 0 0, .int .u32 0, .slice none 0 0, .int .i64 0]) := Lib.hid (BlkAt.new w _ _)
  have hk : Hid (Keeps (fun _ => False) w (w.alloc (.cells #[.int .i64 0, .int .i64 0, .int .u32 0, .int .u32 0, .int .i64 0, .slice none 0 0, .int .u32 0, .slice none 0 0, .int .i64 0] 28))) := Lib.hid ((Keeps.refl _ _).alloc _)
  go_enter Try.func24, Try.ntmps24
  go_upto_region 1 with fail
  generalize w.alloc (.cells #[.int .i64 0, .int .i64 0, .int .u32 0, .int .u32 0, .int .i64 0, .slice none 0 0, .int .u32 0, .slice none 0 0, .int .i64 0] 28) = w0 at hR hk ⊢
  have hr0 := Lib.hid (hk.out.rangeAt hr.out id)
  have hb0 := Lib.hid (bytes_tail hr0.out hc 2 (by omega))
  rw [if_neg (by omega)] at hb0
  have c16 := drop_cell hr0.out 16 (by omega)
  have c17 := drop_cell hr0.out 17 (by omega)
  have e16 : (((x[16]'(by omega)).toNat : Int) == 255) = false := by rw [beq_eq_false_iff_ne]; intro e; exact h16 (UInt8.toNat_inj.1 (by have : ((x[16]'(by omega)).toNat : Int) = 255 := e; have h5 : (255 : UInt8).toNat = 255 := rfl; omega))
  have h16' := Lib.hid h16; clear h16
  have e17 : (((x[17]'(by omega)).toNat : Int) == 255) = false := by rw [beq_eq_false_iff_ne]; intro e; exact h17 (UInt8.toNat_inj.1 (by have : ((x[17]'(by omega)).toNat : Int) = 255 := e; have h5 : (255 : UInt8).toNat = 255 := rfl; omega))
  have h17' := Lib.hid h17; clear h17
  go_wp2_with fail
  refine (r9Right_r _ (x.drop 2) true (by simp; omega) _ hb0 hri).mono ?_
  rintro e w' ⟨rfl, rfl⟩
  go_wp2_with fail
  refine (r10Head_r g o c x hx (by omega) hc age 2 seq len lid adv sum _ hr0 hh).mono ?_
  rintro e w1 ⟨rfl, k1⟩
  clear c16 c17 e16 e17
  obtain ⟨W1, hW1⟩ : ∃ W1, W1 = w1.alloc (.cells #[.int .i64 age, .int .i64 2, .int .u32 lid, .int .u32 adv, .int .i64 seq, .int .u16 sum, .int .i64 len] 51) := ⟨_, rfl⟩
  have k1' : Keeps (fun _ => False) w0 W1 := by rw [hW1]; exact k1.alloc _
  have hH1 : Hid (BlkAt W1 w1.heap.size 51 [.int .i64 age, .int .i64 2, .int .u32 lid, .int .u32 adv, .int .i64 seq, .int .u16 sum, .int .i64 len]) := Lib.hid (by rw [hW1]; exact BlkAt.new w1 51 [.int .i64 age, .int .i64 2, .int .u32 lid, .int .u32 adv, .int .i64 seq, .int .u16 sum, .int .i64 len])
  have hR1 := Lib.hid (hR.out.keep k1' (fun f => f)); have hk1 := Lib.hid (hk.out.trans k1'); have hr1 := Lib.hid (k1'.rangeAt hr0.out (fun f => f))
  have hW1' := Lib.hid hW1
  clear hW1 k1 k1' hR hk hr0 hb0
  go_upto_region 6 with ((with_reducible refine at_store 4 ?_); refine wpList_store_new rfl 51 (.tmp 4) (.tmp 33) rfl _ #[.int .i64 age, .int .i64 2, .int .u32 lid, .int .u32 adv, .int .i64 seq, .int .u16 sum, .int .i64 len] rfl rfl r10HeadInfo rfl (head_one _ _ _ _ _ _ _) ?_)
  rw [← hW1'.out]
  clear hW1'
  have b0 := hH1.out.cell 0 (.int .i64 age) rfl
  have b4 := hH1.out.cell 4 (.int .i64 seq) rfl
  obtain ⟨W2, hW2⟩ : ∃ W2, W2 = W1.alloc (.cells #[.int .i64 age, .int .i64 2, .int .u32 lid, .int .u32 adv, .int .i64 seq, .slice none 0 0, .int .u32 0, .slice none 0 0, .int .i64 0] 28) := ⟨_, rfl⟩
  have k2' : Keeps (fun _ => False) W1 W2 := by rw [hW2]; exact (Keeps.refl _ _).alloc _
  have hB2 : Hid (BlkAt W2 W1.heap.size 28 [.int .i64 age, .int .i64 2, .int .u32 lid, .int .u32 adv, .int .i64 seq, .slice none 0 0, .int .u32 0, .slice none 0 0, .int .i64 0]) := Lib.hid (by rw [hW2]; exact BlkAt.new W1 28 [.int .i64 age, .int .i64 2, .int .u32 lid, .int .u32 adv, .int .i64 seq, .slice none 0 0, .int .u32 0, .slice none 0 0, .int .i64 0])
  have hH2 := Lib.hid (hH1.out.keep k2' (fun f => f)); have hR2 := Lib.hid (hR1.out.keep k2' (fun f => f)); have hk2 := Lib.hid (hk1.out.trans k2'); have hr2 := Lib.hid (k2'.rangeAt hr1.out (fun f => f))
  have hlt : Hid (w.heap.size < W1.heap.size) := Lib.hid (lt_of_block hR1.out)
  have hW2' := Lib.hid hW2
  clear hW2 k2' hR1 hk1 hr1
  go_upto_region 7 with (first | ((with_reducible refine at_slot 37 ?_); refine wpList_load_mid rfl 24 (.tmp 36) rfl w1.heap.size 1 rfl _ _ (key_range hH1.out) Try.underlying24 rfl keyInfoR ?_) | ((with_reducible refine at_store 5 ?_); refine wpList_store_new rfl 28 (.tmp 5) (.tmp 40) rfl _ _ rfl rfl lsaInfoR rfl (lsa_one _ _ _ _ _ _ _ _ _ (slice_one _ _ _) (slice_one _ _ _)) ?_))
  rw [← hW2'.out]
  clear hW2' b0 b4 hH1
  have b1 := hH2.out.cell 1 (.int .i64 2) rfl
  obtain ⟨B, hB⟩ : ∃ B, B = W1.heap.size := ⟨_, rfl⟩
  rw [← hB] at hB2 hlt ⊢
  obtain ⟨HB, hHB⟩ : ∃ HB, HB = w1.heap.size := ⟨_, rfl⟩
  rw [← hHB] at hH2 b1 ⊢
  clear hB hHB
  go_wp2_with ((with_reducible refine at_store 2 ?_); refine wpList_store_blk rfl 28 (.tmp 2) (.tmp 98) rfl w.heap.size #[.int .i64 0, .int .i64 0, .int .u32 0, .int .u32 0, .int .i64 0, .slice none 0 0, .int .u32 0, .slice none 0 0, .int .i64 0] rfl rfl (BlkAt.there hR2.out 0 9 (Nat.le_refl 9)) lsaInfoR (lsa_one _ _ _ _ _ _ _ _ _ (slice_one _ _ _) (slice_one _ _ _)) ?_; intro w9 hr9 hs9)
  all_goals (
    have e0 := rangeAt_cell hr9.out 0 _ rfl
    have e1 := rangeAt_cell hr9.out 1 _ rfl
    have e2 := rangeAt_cell hr9.out 2 _ rfl
    have e3 := rangeAt_cell hr9.out 3 _ rfl
    have e4 := rangeAt_cell hr9.out 4 _ rfl
    have e5 := rangeAt_cell hr9.out 5 _ rfl
    have e6 := rangeAt_cell hr9.out 6 _ rfl
    have e7 := rangeAt_cell hr9.out 7 _ rfl
    have e8 := rangeAt_cell hr9.out 8 _ rfl
    refine bodyPost_ret (v := .tuple #[.agg #[.int .i64 0, .int .i64 0, .int .u32 0, .int .u32 0, .int .i64 0, .slice none 0 0, .int .u32 0, .slice none 0 0, .int .i64 0], .int .i64 3]) (by simp [results, Try.results24, go_sem, e0, e1, e2, e3, e4, e5, e6, e7, e8]) rfl ⟨⟨_, by rw [hg'.out], by rw [hg'.out]; exact LsaV.zero _⟩, hk2.out.trans' hs9.out (fun i e => .inr (by omega))⟩)
set_option maxRecDepth 100000 in
set_option maxHeartbeats 4000000 in
theorem r10Get_s3 (g o c : Nat) (x : List UInt8) (hx : 20 ≤ x.length) (hx2 : x.length ≤ 1000000) (hc : x.length ≤ c) (age seq len : Int) (lid adv sum : Nat) (w : World) (hr : Hid (w.rangeAt g o (x.map bv))) (hh : Hid (headOf x = ⟨age, 3, lid, adv, seq, sum, len⟩)) (hri : Hid (rightF (x.drop 2) = true)) (h16 : x[16]'(by omega) ≠ 255) (h17 : x[17]'(by omega) ≠ 255) (hsh : x.length < 28) :
    Calls Try.prog 24 #[.slice (some ⟨g, o, none⟩) x.length c] w (GetPost x w) := by
  have hnb : ¬ (rightF (x.drop 2) = false ∨ x.getD 16 0 = 255 ∨ x.getD 17 0 = 255) := by
    rw [List.getD_eq_getElem?_getD, List.getElem?_eq_getElem (by omega), List.getD_eq_getElem?_getD, List.getElem?_eq_getElem (by omega), hri.out]
    rintro (h | h | h)
    · cases h
    · exact h16 h
    · exact h17 h
  have hg : getL x = (zeroL, 3) := getL_short x (by omega) hnb (.inr (.inr ⟨by rw [hh.out], by rw [List.length_drop]; omega⟩))
  clear hnb
  have hg' := Lib.hid hg; clear hg
  have hR : Hid (BlkAt (w.alloc (.cells #[.int .i64 0, .int .i64 0, .int .u32 0, .int .u32 0, .int .i64 0, .slice none 0 0, .int .u32 0, .slice none 0 0, .int .i64 0] 28)) w.heap.size 28 [.int .i64 0, .int .i64 0, .int .u32 0, .int .u32 0, .int .i64 0, .slice none 0 0, .int .u32 0, .slice none 0 0, .int .i64 0]) := Lib.hid (BlkAt.new w _ _)
  have hk : Hid (Keeps (fun _ => False) w (w.alloc (.cells #[.int .i64 0, .int .i64 0, .int .u32 0, .int .u32 0, .int .i64 0, .slice none 0 0, .int .u32 0, .slice none 0 0, .int .i64 0] 28))) := Lib.hid ((Keeps.refl _ _).alloc _)
  go_enter Try.func24, Try.ntmps24
  go_upto_region 1 with fail
  generalize w.alloc (.cells #[.int .i64 0, .int .i64 0, .int .u32 0, .int .u32 0, .int .i64 0, .slice none 0 0, .int .u32 0, .slice none 0 0, .int .i64 0] 28) = w0 at hR hk ⊢
  have hr0 := Lib.hid (hk.out.rangeAt hr.out id)
  have hb0 := Lib.hid (bytes_tail hr0.out hc 2 (by omega))
  rw [if_neg (by omega)] at hb0
  have c16 := drop_cell hr0.out 16 (by omega)
  have c17 := drop_cell hr0.out 17 (by omega)
  have e16 : (((x[16]'(by omega)).toNat : Int) == 255) = false := by rw [beq_eq_false_iff_ne]; intro e; exact h16 (UInt8.toNat_inj.1 (by have : ((x[16]'(by omega)).toNat : Int) = 255 := e; have h5 : (255 : UInt8).toNat = 255 := rfl; omega))
  have h16' := Lib.hid h16; clear h16
  have e17 : (((x[17]'(by omega)).toNat : Int) == 255) = false := by rw [beq_eq_false_iff_ne]; intro e; exact h17 (UInt8.toNat_inj.1 (by have : ((x[17]'(by omega)).toNat : Int) = 255 := e; have h5 : (255 : UInt8).toNat = 255 := rfl; omega))
  have h17' := Lib.hid h17; clear h17
  go_wp2_with fail
  refine (r9Right_r _ (x.drop 2) true (by simp; omega) _ hb0 hri).mono ?_
  rintro e w' ⟨rfl, rfl⟩
  go_wp2_with fail
  refine (r10Head_r g o c x hx (by omega) hc age 3 seq len lid adv sum _ hr0 hh).mono ?_
  rintro e w1 ⟨rfl, k1⟩
  clear c16 c17 e16 e17
  obtain ⟨W1, hW1⟩ : ∃ W1, W1 = w1.alloc (.cells #[.int .i64 age, .int .i64 3, .int .u32 lid, .int .u32 adv, .int .i64 seq, .int .u16 sum, .int .i64 len] 51) := ⟨_, rfl⟩
  have k1' : Keeps (fun _ => False) w0 W1 := by rw [hW1]; exact k1.alloc _
  have hH1 : Hid (BlkAt W1 w1.heap.size 51 [.int .i64 age, .int .i64 3, .int .u32 lid, .int .u32 adv, .int .i64 seq, .int .u16 sum, .int .i64 len]) := Lib.hid (by rw [hW1]; exact BlkAt.new w1 51 [.int .i64 age, .int .i64 3, .int .u32 lid, .int .u32 adv, .int .i64 seq, .int .u16 sum, .int .i64 len])
  have hR1 := Lib.hid (hR.out.keep k1' (fun f => f)); have hk1 := Lib.hid (hk.out.trans k1'); have hr1 := Lib.hid (k1'.rangeAt hr0.out (fun f => f))
  have hW1' := Lib.hid hW1
  clear hW1 k1 k1' hR hk hr0 hb0
  go_upto_region 6 with ((with_reducible refine at_store 4 ?_); refine wpList_store_new rfl 51 (.tmp 4) (.tmp 33) rfl _ #[.int .i64 age, .int .i64 3, .int .u32 lid, .int .u32 adv, .int .i64 seq, .int .u16 sum, .int .i64 len] rfl rfl r10HeadInfo rfl (head_one _ _ _ _ _ _ _) ?_)
  rw [← hW1'.out]
  clear hW1'
  have b0 := hH1.out.cell 0 (.int .i64 age) rfl
  have b4 := hH1.out.cell 4 (.int .i64 seq) rfl
  obtain ⟨W2, hW2⟩ : ∃ W2, W2 = W1.alloc (.cells #[.int .i64 age, .int .i64 3, .int .u32 lid, .int .u32 adv, .int .i64 seq, .slice none 0 0, .int .u32 0, .slice none 0 0, .int .i64 0] 28) := ⟨_, rfl⟩
  have k2' : Keeps (fun _ => False) W1 W2 := by rw [hW2]; exact (Keeps.refl _ _).alloc _
  have hB2 : Hid (BlkAt W2 W1.heap.size 28 [.int .i64 age, .int .i64 3, .int .u32 lid, .int .u32 adv, .int .i64 seq, .slice none 0 0, .int .u32 0, .slice none 0 0, .int .i64 0]) := Lib.hid (by rw [hW2]; exact BlkAt.new W1 28 [.int .i64 age, .int .i64 3, .int .u32 lid, .int .u32 adv, .int .i64 seq, .slice none 0 0, .int .u32 0, .slice none 0 0, .int .i64 0])
  have hH2 := Lib.hid (hH1.out.keep k2' (fun f => f)); have hR2 := Lib.hid (hR1.out.keep k2' (fun f => f)); have hk2 := Lib.hid (hk1.out.trans k2'); have hr2 := Lib.hid (k2'.rangeAt hr1.out (fun f => f))
  have hlt : Hid (w.heap.size < W1.heap.size) := Lib.hid (lt_of_block hR1.out)
  have hW2' := Lib.hid hW2
  clear hW2 k2' hR1 hk1 hr1
  go_upto_region 7 with (first | ((with_reducible refine at_slot 37 ?_); refine wpList_load_mid rfl 24 (.tmp 36) rfl w1.heap.size 1 rfl _ _ (key_range hH1.out) Try.underlying24 rfl keyInfoR ?_) | ((with_reducible refine at_store 5 ?_); refine wpList_store_new rfl 28 (.tmp 5) (.tmp 40) rfl _ _ rfl rfl lsaInfoR rfl (lsa_one _ _ _ _ _ _ _ _ _ (slice_one _ _ _) (slice_one _ _ _)) ?_))
  rw [← hW2'.out]
  clear hW2' b0 b4 hH1
  have b1 := hH2.out.cell 1 (.int .i64 3) rfl
  obtain ⟨B, hB⟩ : ∃ B, B = W1.heap.size := ⟨_, rfl⟩
  rw [← hB] at hB2 hlt ⊢
  obtain ⟨HB, hHB⟩ : ∃ HB, HB = w1.heap.size := ⟨_, rfl⟩
  rw [← hHB] at hH2 b1 ⊢
  clear hB hHB
  go_wp2_with ((with_reducible refine at_store 2 ?_); refine wpList_store_blk rfl 28 (.tmp 2) (.tmp 128) rfl w.heap.size #[.int .i64 0, .int .i64 0, .int .u32 0, .int .u32 0, .int .i64 0, .slice none 0 0, .int .u32 0, .slice none 0 0, .int .i64 0] rfl rfl (BlkAt.there hR2.out 0 9 (Nat.le_refl 9)) lsaInfoR (lsa_one _ _ _ _ _ _ _ _ _ (slice_one _ _ _) (slice_one _ _ _)) ?_; intro w9 hr9 hs9)
  all_goals (
    have e0 := rangeAt_cell hr9.out 0 _ rfl
    have e1 := rangeAt_cell hr9.out 1 _ rfl
    have e2 := rangeAt_cell hr9.out 2 _ rfl
    have e3 := rangeAt_cell hr9.out 3 _ rfl
    have e4 := rangeAt_cell hr9.out 4 _ rfl
    have e5 := rangeAt_cell hr9.out 5 _ rfl
    have e6 := rangeAt_cell hr9.out 6 _ rfl
    have e7 := rangeAt_cell hr9.out 7 _ rfl
    have e8 := rangeAt_cell hr9.out 8 _ rfl
    refine bodyPost_ret (v := .tuple #[.agg #[.int .i64 0, .int .i64 0, .int .u32 0, .int .u32 0, .int .i64 0, .slice none 0 0, .int .u32 0, .slice none 0 0, .int .i64 0], .int .i64 3]) (by simp [results, Try.results24, go_sem, e0, e1, e2, e3, e4, e5, e6, e7, e8]) rfl ⟨⟨_, by rw [hg'.out], by rw [hg'.out]; exact LsaV.zero _⟩, hk2.out.trans' hs9.out (fun i e => .inr (by omega))⟩)
end Go.Proofs.Ytiogeepffdpafaa
