/- The document's Get: too few bytes, a wrong sum, a body that is too short (gen_lam.py writes this). -/
import Derived.Test.YtiogeepffdpafaaLAL
namespace Go.Proofs.Ytiogeepffdpafaa
open Go.RowKit

theorem r9Right_r (sl : Value) (l : List UInt8) (r : Bool) (hl : l.length ≤ 9223372036854775807) (w : World) (h : Hid (BytesAt w sl l)) (hr : Hid (rightF l = r)) :
    Calls Try.prog 69 #[sl] w fun e w' => e = .returned (.bool r) ∧ w = w' := by rw [← hr.out]; exact r9Right_any sl l hl w h
theorem r10Head_r (g o c : Nat) (l : List UInt8) (hl : 20 ≤ l.length) (hl2 : l.length ≤ 9223372036854775807) (hc : l.length ≤ c) (age type seq len : Int) (lid adv sum : Nat) (w : World) (hr : Hid (w.rangeAt g o (l.map bv))) (hh : Hid (headOf l = ⟨age, type, lid, adv, seq, sum, len⟩)) :
    Calls Try.prog 22 #[.slice (some ⟨g, o, none⟩) l.length c] w fun e w' => e = .returned (.agg #[.int .i64 age, .int .i64 type, .int .u32 lid, .int .u32 adv, .int .i64 seq, .int .u16 sum, .int .i64 len]) ∧ Keeps (fun _ => False) w w' := by
  have := r10Head_yes g o c l hl hl2 hc w hr
  rw [hh.out] at this
  exact this
set_option maxRecDepth 100000 in
set_option maxHeartbeats 4000000 in
theorem r10Get_short (p : Option Addr) (c : Nat) (x : List UInt8) (hx : x.length < 20) (w : World) :
    Calls Try.prog 24 #[.slice p x.length c] w (GetPost x w) := by
  have hg : getL x = (zeroL, 4) := by unfold getL; rw [if_pos hx]
  have hg' := Lib.hid hg; clear hg
  have hR : Hid (BlkAt (w.alloc (.cells #[.int .i64 0, .int .i64 0, .int .u32 0, .int .u32 0, .int .i64 0, .slice none 0 0, .int .u32 0, .slice none 0 0, .int .i64 0] 28)) w.heap.size 28 [.int .i64 0, .int .i64 0, .int .u32 0, .int .u32 0, .int .i64 0, .slice none 0 0, .int .u32 0, .slice none 0 0, .int .i64 0]) := Lib.hid (BlkAt.new w _ _)
  have hk : Hid (Keeps (fun _ => False) w (w.alloc (.cells #[.int .i64 0, .int .i64 0, .int .u32 0, .int .u32 0, .int .i64 0, .slice none 0 0, .int .u32 0, .slice none 0 0, .int .i64 0] 28))) := Lib.hid ((Keeps.refl _ _).alloc _)
  go_enter Try.func24, Try.ntmps24
  go_upto_region 1 with fail
  generalize w.alloc (.cells #[.int .i64 0, .int .i64 0, .int .u32 0, .int .u32 0, .int .i64 0, .slice none 0 0, .int .u32 0, .slice none 0 0, .int .i64 0] 28) = w0 at hR hk ⊢
  go_wp2_with ((with_reducible refine at_store 2 ?_); refine wpList_store_blk rfl 28 (.tmp 2) (.tmp 14) rfl w.heap.size #[.int .i64 0, .int .i64 0, .int .u32 0, .int .u32 0, .int .i64 0, .slice none 0 0, .int .u32 0, .slice none 0 0, .int .i64 0] rfl rfl (BlkAt.there hR.out 0 9 (Nat.le_refl 9)) lsaInfoR (lsa_one _ _ _ _ _ _ _ _ _ (slice_one _ _ _) (slice_one _ _ _)) ?_; intro w9 hr9 hs9)
  have e0 := rangeAt_cell hr9.out 0 _ rfl
  have e1 := rangeAt_cell hr9.out 1 _ rfl
  have e2 := rangeAt_cell hr9.out 2 _ rfl
  have e3 := rangeAt_cell hr9.out 3 _ rfl
  have e4 := rangeAt_cell hr9.out 4 _ rfl
  have e5 := rangeAt_cell hr9.out 5 _ rfl
  have e6 := rangeAt_cell hr9.out 6 _ rfl
  have e7 := rangeAt_cell hr9.out 7 _ rfl
  have e8 := rangeAt_cell hr9.out 8 _ rfl
  refine bodyPost_ret (v := .tuple #[.agg #[.int .i64 0, .int .i64 0, .int .u32 0, .int .u32 0, .int .i64 0, .slice none 0 0, .int .u32 0, .slice none 0 0, .int .i64 0], .int .i64 4]) (by simp [results, Try.results24, go_sem, e0, e1, e2, e3, e4, e5, e6, e7, e8]) rfl ⟨⟨_, by rw [hg'.out], by rw [hg'.out]; exact LsaV.zero _⟩, hk.out.trans' hs9.out (fun i e => .inr (by omega))⟩
set_option maxRecDepth 100000 in
set_option maxHeartbeats 4000000 in
theorem r10Get_b1 (g o c : Nat) (x : List UInt8) (hx : 20 ≤ x.length) (hx2 : x.length ≤ 1000000) (hc : x.length ≤ c) (w : World) (hr : Hid (w.rangeAt g o (x.map bv))) (hri : Hid (rightF (x.drop 2) = false)) :
    Calls Try.prog 24 #[.slice (some ⟨g, o, none⟩) x.length c] w (GetPost x w) := by
  have hg : getL x = (zeroL, 8) := by unfold getL; rw [if_neg (by omega), if_pos (.inl hri.out)]
  have hg' := Lib.hid hg; clear hg
  have hR : Hid (BlkAt (w.alloc (.cells #[.int .i64 0, .int .i64 0, .int .u32 0, .int .u32 0, .int .i64 0, .slice none 0 0, .int .u32 0, .slice none 0 0, .int .i64 0] 28)) w.heap.size 28 [.int .i64 0, .int .i64 0, .int .u32 0, .int .u32 0, .int .i64 0, .slice none 0 0, .int .u32 0, .slice none 0 0, .int .i64 0]) := Lib.hid (BlkAt.new w _ _)
  have hk : Hid (Keeps (fun _ => False) w (w.alloc (.cells #[.int .i64 0, .int .i64 0, .int .u32 0, .int .u32 0, .int .i64 0, .slice none 0 0, .int .u32 0, .slice none 0 0, .int .i64 0] 28))) := Lib.hid ((Keeps.refl _ _).alloc _)
  go_enter Try.func24, Try.ntmps24
  go_upto_region 1 with fail
  generalize w.alloc (.cells #[.int .i64 0, .int .i64 0, .int .u32 0, .int .u32 0, .int .i64 0, .slice none 0 0, .int .u32 0, .slice none 0 0, .int .i64 0] 28) = w0 at hR hk ⊢
  have hr0 := Lib.hid (hk.out.rangeAt hr.out id)
  have hb0 := Lib.hid (bytes_tail hr0.out hc 2 (by omega))
  rw [if_neg (by omega)] at hb0
  go_wp2_with fail
  refine (r9Right_r _ (x.drop 2) false (by simp; omega) _ hb0 hri).mono ?_
  rintro e w' ⟨rfl, rfl⟩
  go_wp2_with ((with_reducible refine at_store 2 ?_); refine wpList_store_blk rfl 28 (.tmp 2) (.tmp 31) rfl w.heap.size #[.int .i64 0, .int .i64 0, .int .u32 0, .int .u32 0, .int .i64 0, .slice none 0 0, .int .u32 0, .slice none 0 0, .int .i64 0] rfl rfl (BlkAt.there hR.out 0 9 (Nat.le_refl 9)) lsaInfoR (lsa_one _ _ _ _ _ _ _ _ _ (slice_one _ _ _) (slice_one _ _ _)) ?_; intro w9 hr9 hs9)
  have e0 := rangeAt_cell hr9.out 0 _ rfl
  have e1 := rangeAt_cell hr9.out 1 _ rfl
  have e2 := rangeAt_cell hr9.out 2 _ rfl
  have e3 := rangeAt_cell hr9.out 3 _ rfl
  have e4 := rangeAt_cell hr9.out 4 _ rfl
  have e5 := rangeAt_cell hr9.out 5 _ rfl
  have e6 := rangeAt_cell hr9.out 6 _ rfl
  have e7 := rangeAt_cell hr9.out 7 _ rfl
  have e8 := rangeAt_cell hr9.out 8 _ rfl
  refine bodyPost_ret (v := .tuple #[.agg #[.int .i64 0, .int .i64 0, .int .u32 0, .int .u32 0, .int .i64 0, .slice none 0 0, .int .u32 0, .slice none 0 0, .int .i64 0], .int .i64 8]) (by simp [results, Try.results24, go_sem, e0, e1, e2, e3, e4, e5, e6, e7, e8]) rfl ⟨⟨_, by rw [hg'.out], by rw [hg'.out]; exact LsaV.zero _⟩, hk.out.trans' hs9.out (fun i e => .inr (by omega))⟩
set_option maxRecDepth 100000 in
set_option maxHeartbeats 4000000 in
theorem r10Get_b2 (g o c : Nat) (x : List UInt8) (hx : 20 ≤ x.length) (hx2 : x.length ≤ 1000000) (hc : x.length ≤ c) (w : World) (hr : Hid (w.rangeAt g o (x.map bv))) (hri : Hid (rightF (x.drop 2) = true)) (h16 : x[16]'(by omega) = 255) :
    Calls Try.prog 24 #[.slice (some ⟨g, o, none⟩) x.length c] w (GetPost x w) := by
  have hg : getL x = (zeroL, 8) := by unfold getL; rw [if_neg (by omega), if_pos (.inr (.inl (by rw [List.getD_eq_getElem?_getD, List.getElem?_eq_getElem (by omega)]; exact h16)))]
  have hg' := Lib.hid hg; clear hg
  have hR : Hid (BlkAt (w.alloc (.cells #[.int .i64 0, .int .i64 0, .int .u32 0, .int .u32 0, .int .i64 0, .slice none 0 0, .int .u32 0, .slice none 0 0, .int .i64 0] 28)) w.heap.size 28 [.int .i64 0, .int .i64 0, .int .u32 0, .int .u32 0, .int .i64 0, .slice none 0 0, .int .u32 0, .slice none 0 0, .int .i64 0]) := Lib.hid (BlkAt.new w _ _)
  have hk : Hid (Keeps (fun _ => False) w (w.alloc (.cells #[.int .i64 0, .int .i64 0, .int .u32 0, .int .u32 0, .int .i64 0, .slice none 0 0, .int .u32 0, .slice none 0 0, .int .i64 0] 28))) := Lib.hid ((Keeps.refl _ _).alloc _)
  go_enter Try.func24, Try.ntmps24
  go_upto_region 1 with fail
  generalize w.alloc (.cells #[.int .i64 0, .int .i64 0, .int .u32 0, .int .u32 0, .int .i64 0, .slice none 0 0, .int .u32 0, .slice none 0 0, .int .i64 0] 28) = w0 at hR hk ⊢
  have hr0 := Lib.hid (hk.out.rangeAt hr.out id)
  have hb0 := Lib.hid (bytes_tail hr0.out hc 2 (by omega))
  rw [if_neg (by omega)] at hb0
  have c16 := drop_cell hr0.out 16 (by omega)
  have e16 : (((x[16]'(by omega)).toNat : Int) == 255) = true := by rw [h16]; rfl
  have h16' := Lib.hid h16; clear h16
  go_wp2_with fail
  refine (r9Right_r _ (x.drop 2) true (by simp; omega) _ hb0 hri).mono ?_
  rintro e w' ⟨rfl, rfl⟩
  go_wp2_with ((with_reducible refine at_store 2 ?_); refine wpList_store_blk rfl 28 (.tmp 2) (.tmp 31) rfl w.heap.size #[.int .i64 0, .int .i64 0, .int .u32 0, .int .u32 0, .int .i64 0, .slice none 0 0, .int .u32 0, .slice none 0 0, .int .i64 0] rfl rfl (BlkAt.there hR.out 0 9 (Nat.le_refl 9)) lsaInfoR (lsa_one _ _ _ _ _ _ _ _ _ (slice_one _ _ _) (slice_one _ _ _)) ?_; intro w9 hr9 hs9)
  have e0 := rangeAt_cell hr9.out 0 _ rfl
  have e1 := rangeAt_cell hr9.out 1 _ rfl
  have e2 := rangeAt_cell hr9.out 2 _ rfl
  have e3 := rangeAt_cell hr9.out 3 _ rfl
  have e4 := rangeAt_cell hr9.out 4 _ rfl
  have e5 := rangeAt_cell hr9.out 5 _ rfl
  have e6 := rangeAt_cell hr9.out 6 _ rfl
  have e7 := rangeAt_cell hr9.out 7 _ rfl
  have e8 := rangeAt_cell hr9.out 8 _ rfl
  refine bodyPost_ret (v := .tuple #[.agg #[.int .i64 0, .int .i64 0, .int .u32 0, .int .u32 0, .int .i64 0, .slice none 0 0, .int .u32 0, .slice none 0 0, .int .i64 0], .int .i64 8]) (by simp [results, Try.results24, go_sem, e0, e1, e2, e3, e4, e5, e6, e7, e8]) rfl ⟨⟨_, by rw [hg'.out], by rw [hg'.out]; exact LsaV.zero _⟩, hk.out.trans' hs9.out (fun i e => .inr (by omega))⟩
set_option maxRecDepth 100000 in
set_option maxHeartbeats 4000000 in
theorem r10Get_b3 (g o c : Nat) (x : List UInt8) (hx : 20 ≤ x.length) (hx2 : x.length ≤ 1000000) (hc : x.length ≤ c) (w : World) (hr : Hid (w.rangeAt g o (x.map bv))) (hri : Hid (rightF (x.drop 2) = true)) (h16 : x[16]'(by omega) ≠ 255) (h17 : x[17]'(by omega) = 255) :
    Calls Try.prog 24 #[.slice (some ⟨g, o, none⟩) x.length c] w (GetPost x w) := by
  have hg : getL x = (zeroL, 8) := by unfold getL; rw [if_neg (by omega), if_pos (.inr (.inr (by rw [List.getD_eq_getElem?_getD, List.getElem?_eq_getElem (by omega)]; exact h17)))]
  have hg' := Lib.hid hg; clear hg
  have hR : Hid (BlkAt (w.alloc (.cells #[.int .i64 0, .int .i64 0, .int .u32 0, .int .u32 0, .int .i64 0, .slice none 0 0, .int .u32 0, .slice none 0 0, .int .i64 0] 28)) w.heap.size 28 [.int .i64 0, .int .i64 0, .int .u32 0, .int .u32 0, .int .i64 0, .slice none 0 0, .int .u32 0, .slice none 0 0, .int .i64 0]) := Lib.hid (BlkAt.new w _ _)
  have hk : Hid (Keeps (fun _ => False) w (w.alloc (.cells #[.int .i64 0, .int .i64 0, .int .u32 0, .int .u32 0, .int .i64 0, .slice none 0 0, .int .u32 0, .slice none 0 0, .int .i64 0] 28))) := Lib.hid ((Keeps.refl _ _).alloc _)
  go_enter Try.func24, Try.ntmps24
  go_upto_region 1 with fail
  generalize w.alloc (.cells #[.int .i64 0, .int .i64 0, .int .u32 0, .int .u32 0, .int .i64 0, .slice none 0 0, .int .u32 0, .slice none 0 0, .int .i64 0] 28) = w0 at hR hk ⊢
  have hr0 := Lib.hid (hk.out.rangeAt hr.out id)
  have hb0 := Lib.hid (bytes_tail hr0.out hc 2 (by omega))
  rw [if_neg (by omega)] at hb0
  have c16 := drop_cell hr0.out 16 (by omega)
  have c17 := drop_cell hr0.out 17 (by omega)
  have e16 : (((x[16]'(by omega)).toNat : Int) == 255) = false := by rw [beq_eq_false_iff_ne]; intro e; exact h16 (UInt8.toNat_inj.1 (by have : ((x[16]'(by omega)).toNat : Int) = 255 := e; have h5 : (255 : UInt8).toNat = 255 := rfl; omega))
  have h16' := Lib.hid h16; clear h16
  have e17 : (((x[17]'(by omega)).toNat : Int) == 255) = true := by rw [h17]; rfl
  have h17' := Lib.hid h17; clear h17
  go_wp2_with fail
  refine (r9Right_r _ (x.drop 2) true (by simp; omega) _ hb0 hri).mono ?_
  rintro e w' ⟨rfl, rfl⟩
  go_wp2_with ((with_reducible refine at_store 2 ?_); refine wpList_store_blk rfl 28 (.tmp 2) (.tmp 31) rfl w.heap.size #[.int .i64 0, .int .i64 0, .int .u32 0, .int .u32 0, .int .i64 0, .slice none 0 0, .int .u32 0, .slice none 0 0, .int .i64 0] rfl rfl (BlkAt.there hR.out 0 9 (Nat.le_refl 9)) lsaInfoR (lsa_one _ _ _ _ _ _ _ _ _ (slice_one _ _ _) (slice_one _ _ _)) ?_; intro w9 hr9 hs9)
  have e0 := rangeAt_cell hr9.out 0 _ rfl
  have e1 := rangeAt_cell hr9.out 1 _ rfl
  have e2 := rangeAt_cell hr9.out 2 _ rfl
  have e3 := rangeAt_cell hr9.out 3 _ rfl
  have e4 := rangeAt_cell hr9.out 4 _ rfl
  have e5 := rangeAt_cell hr9.out 5 _ rfl
  have e6 := rangeAt_cell hr9.out 6 _ rfl
  have e7 := rangeAt_cell hr9.out 7 _ rfl
  have e8 := rangeAt_cell hr9.out 8 _ rfl
  refine bodyPost_ret (v := .tuple #[.agg #[.int .i64 0, .int .i64 0, .int .u32 0, .int .u32 0, .int .i64 0, .slice none 0 0, .int .u32 0, .slice none 0 0, .int .i64 0], .int .i64 8]) (by simp [results, Try.results24, go_sem, e0, e1, e2, e3, e4, e5, e6, e7, e8]) rfl ⟨⟨_, by rw [hg'.out], by rw [hg'.out]; exact LsaV.zero _⟩, hk.out.trans' hs9.out (fun i e => .inr (by omega))⟩
end Go.Proofs.Ytiogeepffdpafaa
