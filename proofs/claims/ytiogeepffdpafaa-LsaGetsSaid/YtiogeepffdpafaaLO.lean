/- lsa.Get of 20 bytes or more, walked. -/
import Derived.Test.YtiogeepffdpafaaLN
namespace Go.Proofs.Ytiogeepffdpafaa
open Go.RowKit

theorem lsHead_r (g o c : Nat) (l : List UInt8) (hl : 20 ≤ l.length) (hl2 : l.length ≤ 9223372036854775807) (hc : l.length ≤ c) (age type seq len : Int) (lid adv sum : Nat) (w : World) (hr : Hid (w.rangeAt g o (l.map bv))) (hh : Hid (headOf l = ⟨age, type, lid, adv, seq, sum, len⟩)) :
    Calls Try.prog 18 #[.slice (some ⟨g, o, none⟩) l.length c] w fun e w' => e = .returned (.tuple #[.agg #[.int .i64 age, .int .i64 type, .int .u32 lid, .int .u32 adv, .int .i64 seq, .int .u16 sum, .int .i64 len], .int .i64 0]) ∧ Keeps (fun _ => False) w w' := by
  have := lsHead_yes g o c l hl hl2 hc w hr
  rw [hh.out] at this
  exact this
theorem suRight_r (sl : Value) (l : List UInt8) (r : Bool) (hl : l.length ≤ 9223372036854775807) (w : World) (h : Hid (BytesAt w sl l)) (hr : Hid (rightF l = r)) :
    Calls Try.prog 62 #[sl] w fun e w' => e = .returned (.bool r) ∧ w = w' := by rw [← hr.out]; exact suRight_any sl l hl w h

set_option maxRecDepth 100000 in
set_option maxHeartbeats 4000000 in
theorem lsGet_b1 (g o c : Nat) (x : List UInt8) (hx : 20 ≤ x.length) (hx2 : x.length ≤ 1000000) (hc : x.length ≤ c) (age type seq len : Int) (lid adv sum : Nat) (w : World) (hr : Hid (w.rangeAt g o (x.map bv))) (hh : Hid (headOf x = ⟨age, type, lid, adv, seq, sum, len⟩)) (hri : Hid (rightF (x.drop 2) = false)) :
    Calls Try.prog 17 #[.slice (some ⟨g, o, none⟩) x.length c] w (GetPost x w) := by
  have hg : getL x = (zeroL, 8) := by unfold getL; rw [if_neg (by omega), if_pos (.inl hri.out)]
  have hg' := Lib.hid hg; clear hg
  have hR : Hid (BlkAt (w.alloc (.cells #[.int .i64 0, .int .i64 0, .int .u32 0, .int .u32 0, .int .i64 0, .slice none 0 0, .int .u32 0, .slice none 0 0, .int .i64 0] 36)) w.heap.size 36 [.int .i64 0, .int .i64 0, .int .u32 0, .int .u32 0, .int .i64 0, .slice none 0 0, .int .u32 0, .slice none 0 0, .int .i64 0]) := Lib.hid (BlkAt.new w _ _)
  have hk : Hid (Keeps (fun _ => False) w (w.alloc (.cells #[.int .i64 0, .int .i64 0, .int .u32 0, .int .u32 0, .int .i64 0, .slice none 0 0, .int .u32 0, .slice none 0 0, .int .i64 0] 36))) := Lib.hid ((Keeps.refl _ _).alloc _)
  have hsz : Hid (w.heap.size < (w.alloc (.cells #[.int .i64 0, .int .i64 0, .int .u32 0, .int .u32 0, .int .i64 0, .slice none 0 0, .int .u32 0, .slice none 0 0, .int .i64 0] 36)).heap.size) := Lib.hid (by simp)
  go_enter Try.func17, Try.ntmps17
  go_upto_region 1 with fail
  generalize w.alloc (.cells #[.int .i64 0, .int .i64 0, .int .u32 0, .int .u32 0, .int .i64 0, .slice none 0 0, .int .u32 0, .slice none 0 0, .int .i64 0] 36) = w0 at hR hk hsz ⊢
  go_wp2_with fail
  refine (lsHead_r g o c x hx (by omega) hc age type seq len lid adv sum _ (Lib.hid (hk.out.rangeAt hr.out id)) hh).mono ?_
  rintro e w1 ⟨rfl, k1⟩
  have hszB : Hid (w.heap.size < w1.heap.size) := Lib.hid (Nat.lt_of_lt_of_le hsz.out k1.size)
  have hH : Hid (BlkAt (w1.alloc (.cells #[.int .i64 age, .int .i64 type, .int .u32 lid, .int .u32 adv, .int .i64 seq, .int .u16 sum, .int .i64 len] 45)) w1.heap.size 45 [.int .i64 age, .int .i64 type, .int .u32 lid, .int .u32 adv, .int .i64 seq, .int .u16 sum, .int .i64 len]) := Lib.hid (BlkAt.new w1 _ _)
  have hR2 := Lib.hid ((hR.out.keep k1 id).alloc (.cells #[.int .i64 age, .int .i64 type, .int .u32 lid, .int .u32 adv, .int .i64 seq, .int .u16 sum, .int .i64 len] 45))
  have hk2 := Lib.hid ((hk.out.trans k1).alloc (.cells #[.int .i64 age, .int .i64 type, .int .u32 lid, .int .u32 adv, .int .i64 seq, .int .u16 sum, .int .i64 len] 45))
  clear k1 hR hk hsz
  go_upto_region 4 with ((with_reducible refine at_store 4 ?_); refine wpList_store_new rfl 45 (.tmp 4) (.tmp 11) rfl _ #[.int .i64 age, .int .i64 type, .int .u32 lid, .int .u32 adv, .int .i64 seq, .int .u16 sum, .int .i64 len] rfl rfl headInfo rfl (head_one _ _ _ _ _ _ _) ?_)
  generalize w1.alloc (.cells #[.int .i64 age, .int .i64 type, .int .u32 lid, .int .u32 adv, .int .i64 seq, .int .u16 sum, .int .i64 len] 45) = w2 at hR2 hk2 hH ⊢
  have hr2 := Lib.hid (hk2.out.rangeAt hr.out id)
  have hb2 := Lib.hid (bytes_tail hr2.out hc 2 (by omega))
  rw [if_neg (by omega)] at hb2
  go_wp2_with fail
  refine (suRight_r _ (x.drop 2) false (by simp; omega) _ hb2 hri).mono ?_
  rintro e w' ⟨rfl, rfl⟩
  go_wp2_with ((with_reducible refine at_store 2 ?_); refine wpList_store_blk rfl 36 (.tmp 2) (.tmp 33) rfl w.heap.size #[.int .i64 0, .int .i64 0, .int .u32 0, .int .u32 0, .int .i64 0, .slice none 0 0, .int .u32 0, .slice none 0 0, .int .i64 0] rfl rfl (BlkAt.there hR2.out 0 9 (Nat.le_refl 9)) lsaInfo (lsa_one _ _ _ _ _ _ _ _ _ (slice_one _ _ _) (slice_one _ _ _)) ?_; intro w9 hr9 hs9)
  have e0 := rangeAt_cell hr9.out 0 _ rfl
  have e1 := rangeAt_cell hr9.out 1 _ rfl
  have e2 := rangeAt_cell hr9.out 2 _ rfl
  have e3 := rangeAt_cell hr9.out 3 _ rfl
  have e4 := rangeAt_cell hr9.out 4 _ rfl
  have e5 := rangeAt_cell hr9.out 5 _ rfl
  have e6 := rangeAt_cell hr9.out 6 _ rfl
  have e7 := rangeAt_cell hr9.out 7 _ rfl
  have e8 := rangeAt_cell hr9.out 8 _ rfl
  refine bodyPost_ret (v := .tuple #[.agg #[.int .i64 0, .int .i64 0, .int .u32 0, .int .u32 0, .int .i64 0, .slice none 0 0, .int .u32 0, .slice none 0 0, .int .i64 0], .int .i64 8]) (by simp [results, Try.results17, go_sem, e0, e1, e2, e3, e4, e5, e6, e7, e8]) rfl ⟨⟨_, by rw [hg'.out], by rw [hg'.out]; exact LsaV.zero _⟩, hk2.out.trans' hs9.out (fun i e => .inr (by omega))⟩
set_option maxRecDepth 100000 in
set_option maxHeartbeats 4000000 in
theorem lsGet_b2 (g o c : Nat) (x : List UInt8) (hx : 20 ≤ x.length) (hx2 : x.length ≤ 1000000) (hc : x.length ≤ c) (age type seq len : Int) (lid adv sum : Nat) (w : World) (hr : Hid (w.rangeAt g o (x.map bv))) (hh : Hid (headOf x = ⟨age, type, lid, adv, seq, sum, len⟩)) (hri : Hid (rightF (x.drop 2) = true)) (h16 : x[16]'(by omega) = 255) :
    Calls Try.prog 17 #[.slice (some ⟨g, o, none⟩) x.length c] w (GetPost x w) := by
  have hg : getL x = (zeroL, 8) := by unfold getL; rw [if_neg (by omega), if_pos (.inr (.inl (by rw [List.getD_eq_getElem?_getD, List.getElem?_eq_getElem (by omega)]; exact h16)))]
  have hg' := Lib.hid hg; clear hg
  have hR : Hid (BlkAt (w.alloc (.cells #[.int .i64 0, .int .i64 0, .int .u32 0, .int .u32 0, .int .i64 0, .slice none 0 0, .int .u32 0, .slice none 0 0, .int .i64 0] 36)) w.heap.size 36 [.int .i64 0, .int .i64 0, .int .u32 0, .int .u32 0, .int .i64 0, .slice none 0 0, .int .u32 0, .slice none 0 0, .int .i64 0]) := Lib.hid (BlkAt.new w _ _)
  have hk : Hid (Keeps (fun _ => False) w (w.alloc (.cells #[.int .i64 0, .int .i64 0, .int .u32 0, .int .u32 0, .int .i64 0, .slice none 0 0, .int .u32 0, .slice none 0 0, .int .i64 0] 36))) := Lib.hid ((Keeps.refl _ _).alloc _)
  have hsz : Hid (w.heap.size < (w.alloc (.cells #[.int .i64 0, .int .i64 0, .int .u32 0, .int .u32 0, .int .i64 0, .slice none 0 0, .int .u32 0, .slice none 0 0, .int .i64 0] 36)).heap.size) := Lib.hid (by simp)
  go_enter Try.func17, Try.ntmps17
  go_upto_region 1 with fail
  generalize w.alloc (.cells #[.int .i64 0, .int .i64 0, .int .u32 0, .int .u32 0, .int .i64 0, .slice none 0 0, .int .u32 0, .slice none 0 0, .int .i64 0] 36) = w0 at hR hk hsz ⊢
  go_wp2_with fail
  refine (lsHead_r g o c x hx (by omega) hc age type seq len lid adv sum _ (Lib.hid (hk.out.rangeAt hr.out id)) hh).mono ?_
  rintro e w1 ⟨rfl, k1⟩
  have hszB : Hid (w.heap.size < w1.heap.size) := Lib.hid (Nat.lt_of_lt_of_le hsz.out k1.size)
  have hH : Hid (BlkAt (w1.alloc (.cells #[.int .i64 age, .int .i64 type, .int .u32 lid, .int .u32 adv, .int .i64 seq, .int .u16 sum, .int .i64 len] 45)) w1.heap.size 45 [.int .i64 age, .int .i64 type, .int .u32 lid, .int .u32 adv, .int .i64 seq, .int .u16 sum, .int .i64 len]) := Lib.hid (BlkAt.new w1 _ _)
  have hR2 := Lib.hid ((hR.out.keep k1 id).alloc (.cells #[.int .i64 age, .int .i64 type, .int .u32 lid, .int .u32 adv, .int .i64 seq, .int .u16 sum, .int .i64 len] 45))
  have hk2 := Lib.hid ((hk.out.trans k1).alloc (.cells #[.int .i64 age, .int .i64 type, .int .u32 lid, .int .u32 adv, .int .i64 seq, .int .u16 sum, .int .i64 len] 45))
  clear k1 hR hk hsz
  go_upto_region 4 with ((with_reducible refine at_store 4 ?_); refine wpList_store_new rfl 45 (.tmp 4) (.tmp 11) rfl _ #[.int .i64 age, .int .i64 type, .int .u32 lid, .int .u32 adv, .int .i64 seq, .int .u16 sum, .int .i64 len] rfl rfl headInfo rfl (head_one _ _ _ _ _ _ _) ?_)
  generalize w1.alloc (.cells #[.int .i64 age, .int .i64 type, .int .u32 lid, .int .u32 adv, .int .i64 seq, .int .u16 sum, .int .i64 len] 45) = w2 at hR2 hk2 hH ⊢
  have hr2 := Lib.hid (hk2.out.rangeAt hr.out id)
  have hb2 := Lib.hid (bytes_tail hr2.out hc 2 (by omega))
  rw [if_neg (by omega)] at hb2
  have c16 := drop_cell hr2.out 16 (by omega)
  have e16' : (((x[16]'(by omega)).toNat : Int) == 255) = true := by rw [h16]; rfl
  have h16' := Lib.hid h16; clear h16
  go_wp2_with fail
  refine (suRight_r _ (x.drop 2) true (by simp; omega) _ hb2 hri).mono ?_
  rintro e w' ⟨rfl, rfl⟩
  go_wp2_with ((with_reducible refine at_store 2 ?_); refine wpList_store_blk rfl 36 (.tmp 2) (.tmp 33) rfl w.heap.size #[.int .i64 0, .int .i64 0, .int .u32 0, .int .u32 0, .int .i64 0, .slice none 0 0, .int .u32 0, .slice none 0 0, .int .i64 0] rfl rfl (BlkAt.there hR2.out 0 9 (Nat.le_refl 9)) lsaInfo (lsa_one _ _ _ _ _ _ _ _ _ (slice_one _ _ _) (slice_one _ _ _)) ?_; intro w9 hr9 hs9)
  have e0 := rangeAt_cell hr9.out 0 _ rfl
  have e1 := rangeAt_cell hr9.out 1 _ rfl
  have e2 := rangeAt_cell hr9.out 2 _ rfl
  have e3 := rangeAt_cell hr9.out 3 _ rfl
  have e4 := rangeAt_cell hr9.out 4 _ rfl
  have e5 := rangeAt_cell hr9.out 5 _ rfl
  have e6 := rangeAt_cell hr9.out 6 _ rfl
  have e7 := rangeAt_cell hr9.out 7 _ rfl
  have e8 := rangeAt_cell hr9.out 8 _ rfl
  refine bodyPost_ret (v := .tuple #[.agg #[.int .i64 0, .int .i64 0, .int .u32 0, .int .u32 0, .int .i64 0, .slice none 0 0, .int .u32 0, .slice none 0 0, .int .i64 0], .int .i64 8]) (by simp [results, Try.results17, go_sem, e0, e1, e2, e3, e4, e5, e6, e7, e8]) rfl ⟨⟨_, by rw [hg'.out], by rw [hg'.out]; exact LsaV.zero _⟩, hk2.out.trans' hs9.out (fun i e => .inr (by omega))⟩
set_option maxRecDepth 100000 in
set_option maxHeartbeats 4000000 in
theorem lsGet_b3 (g o c : Nat) (x : List UInt8) (hx : 20 ≤ x.length) (hx2 : x.length ≤ 1000000) (hc : x.length ≤ c) (age type seq len : Int) (lid adv sum : Nat) (w : World) (hr : Hid (w.rangeAt g o (x.map bv))) (hh : Hid (headOf x = ⟨age, type, lid, adv, seq, sum, len⟩)) (hri : Hid (rightF (x.drop 2) = true)) (h16 : x[16]'(by omega) ≠ 255) (h17 : x[17]'(by omega) = 255) :
    Calls Try.prog 17 #[.slice (some ⟨g, o, none⟩) x.length c] w (GetPost x w) := by
  have hg : getL x = (zeroL, 8) := by unfold getL; rw [if_neg (by omega), if_pos (.inr (.inr (by rw [List.getD_eq_getElem?_getD, List.getElem?_eq_getElem (by omega)]; exact h17)))]
  have hg' := Lib.hid hg; clear hg
  have hR : Hid (BlkAt (w.alloc (.cells #[.int .i64 0, .int .i64 0, .int .u32 0, .int .u32 0, .int .i64 0, .slice none 0 0, .int .u32 0, .slice none 0 0, .int .i64 0] 36)) w.heap.size 36 [.int .i64 0, .int .i64 0, .int .u32 0, .int .u32 0, .int .i64 0, .slice none 0 0, .int .u32 0, .slice none 0 0, .int .i64 0]) := Lib.hid (BlkAt.new w _ _)
  have hk : Hid (Keeps (fun _ => False) w (w.alloc (.cells #[.int .i64 0, .int .i64 0, .int .u32 0, .int .u32 0, .int .i64 0, .slice none 0 0, .int .u32 0, .slice none 0 0, .int .i64 0] 36))) := Lib.hid ((Keeps.refl _ _).alloc _)
  have hsz : Hid (w.heap.size < (w.alloc (.cells #[.int .i64 0, .int .i64 0, .int .u32 0, .int .u32 0, .int .i64 0, .slice none 0 0, .int .u32 0, .slice none 0 0, .int .i64 0] 36)).heap.size) := Lib.hid (by simp)
  go_enter Try.func17, Try.ntmps17
  go_upto_region 1 with fail
  generalize w.alloc (.cells #[.int .i64 0, .int .i64 0, .int .u32 0, .int .u32 0, .int .i64 0, .slice none 0 0, .int .u32 0, .slice none 0 0, .int .i64 0] 36) = w0 at hR hk hsz ⊢
  go_wp2_with fail
  refine (lsHead_r g o c x hx (by omega) hc age type seq len lid adv sum _ (Lib.hid (hk.out.rangeAt hr.out id)) hh).mono ?_
  rintro e w1 ⟨rfl, k1⟩
  have hszB : Hid (w.heap.size < w1.heap.size) := Lib.hid (Nat.lt_of_lt_of_le hsz.out k1.size)
  have hH : Hid (BlkAt (w1.alloc (.cells #[.int .i64 age, .int .i64 type, .int .u32 lid, .int .u32 adv, .int .i64 seq, .int .u16 sum, .int .i64 len] 45)) w1.heap.size 45 [.int .i64 age, .int .i64 type, .int .u32 lid, .int .u32 adv, .int .i64 seq, .int .u16 sum, .int .i64 len]) := Lib.hid (BlkAt.new w1 _ _)
  have hR2 := Lib.hid ((hR.out.keep k1 id).alloc (.cells #[.int .i64 age, .int .i64 type, .int .u32 lid, .int .u32 adv, .int .i64 seq, .int .u16 sum, .int .i64 len] 45))
  have hk2 := Lib.hid ((hk.out.trans k1).alloc (.cells #[.int .i64 age, .int .i64 type, .int .u32 lid, .int .u32 adv, .int .i64 seq, .int .u16 sum, .int .i64 len] 45))
  clear k1 hR hk hsz
  go_upto_region 4 with ((with_reducible refine at_store 4 ?_); refine wpList_store_new rfl 45 (.tmp 4) (.tmp 11) rfl _ #[.int .i64 age, .int .i64 type, .int .u32 lid, .int .u32 adv, .int .i64 seq, .int .u16 sum, .int .i64 len] rfl rfl headInfo rfl (head_one _ _ _ _ _ _ _) ?_)
  generalize w1.alloc (.cells #[.int .i64 age, .int .i64 type, .int .u32 lid, .int .u32 adv, .int .i64 seq, .int .u16 sum, .int .i64 len] 45) = w2 at hR2 hk2 hH ⊢
  have hr2 := Lib.hid (hk2.out.rangeAt hr.out id)
  have hb2 := Lib.hid (bytes_tail hr2.out hc 2 (by omega))
  rw [if_neg (by omega)] at hb2
  have c16 := drop_cell hr2.out 16 (by omega)
  have e16' : (((x[16]'(by omega)).toNat : Int) == 255) = false := by rw [beq_eq_false_iff_ne]; intro h; apply h16; apply UInt8.toNat_inj.mp; show (x[16]'(by omega)).toNat = 255; omega
  have c17 := drop_cell hr2.out 17 (by omega)
  have e17' : (((x[17]'(by omega)).toNat : Int) == 255) = true := by rw [h17]; rfl
  have h17' := Lib.hid h17; clear h16 h17
  go_wp2_with fail
  refine (suRight_r _ (x.drop 2) true (by simp; omega) _ hb2 hri).mono ?_
  rintro e w' ⟨rfl, rfl⟩
  go_wp2_with ((with_reducible refine at_store 2 ?_); refine wpList_store_blk rfl 36 (.tmp 2) (.tmp 33) rfl w.heap.size #[.int .i64 0, .int .i64 0, .int .u32 0, .int .u32 0, .int .i64 0, .slice none 0 0, .int .u32 0, .slice none 0 0, .int .i64 0] rfl rfl (BlkAt.there hR2.out 0 9 (Nat.le_refl 9)) lsaInfo (lsa_one _ _ _ _ _ _ _ _ _ (slice_one _ _ _) (slice_one _ _ _)) ?_; intro w9 hr9 hs9)
  have e0 := rangeAt_cell hr9.out 0 _ rfl
  have e1 := rangeAt_cell hr9.out 1 _ rfl
  have e2 := rangeAt_cell hr9.out 2 _ rfl
  have e3 := rangeAt_cell hr9.out 3 _ rfl
  have e4 := rangeAt_cell hr9.out 4 _ rfl
  have e5 := rangeAt_cell hr9.out 5 _ rfl
  have e6 := rangeAt_cell hr9.out 6 _ rfl
  have e7 := rangeAt_cell hr9.out 7 _ rfl
  have e8 := rangeAt_cell hr9.out 8 _ rfl
  refine bodyPost_ret (v := .tuple #[.agg #[.int .i64 0, .int .i64 0, .int .u32 0, .int .u32 0, .int .i64 0, .slice none 0 0, .int .u32 0, .slice none 0 0, .int .i64 0], .int .i64 8]) (by simp [results, Try.results17, go_sem, e0, e1, e2, e3, e4, e5, e6, e7, e8]) rfl ⟨⟨_, by rw [hg'.out], by rw [hg'.out]; exact LsaV.zero _⟩, hk2.out.trans' hs9.out (fun i e => .inr (by omega))⟩
set_option maxRecDepth 100000 in
set_option maxHeartbeats 4000000 in
theorem lsGet_c (g o c : Nat) (x : List UInt8) (hx : 20 ≤ x.length) (hx2 : x.length ≤ 1000000) (hc : x.length ≤ c) (age type seq len : Int) (lid adv sum : Nat) (w : World) (hr : Hid (w.rangeAt g o (x.map bv))) (hh : Hid (headOf x = ⟨age, type, lid, adv, seq, sum, len⟩)) (hri : Hid (rightF (x.drop 2) = true)) (h16 : x[16]'(by omega) ≠ 255) (h17 : x[17]'(by omega) ≠ 255) (hlen : len ≠ (x.length : Int)) :
    Calls Try.prog 17 #[.slice (some ⟨g, o, none⟩) x.length c] w (GetPost x w) := by
  have hnb : ¬ (rightF (x.drop 2) = false ∨ x.getD 16 0 = 255 ∨ x.getD 17 0 = 255) := by
    rw [List.getD_eq_getElem?_getD, List.getElem?_eq_getElem (by omega), List.getD_eq_getElem?_getD, List.getElem?_eq_getElem (by omega), hri.out]
    rintro (h | h | h)
    · cases h
    · exact h16 h
    · exact h17 h
  have hg : getL x = (zeroL, 3) := by unfold getL; rw [if_neg (by omega), if_neg hnb, if_pos (by rw [hh.out]; exact hlen)]
  clear hnb
  have hg' := Lib.hid hg; clear hg
  have hR : Hid (BlkAt (w.alloc (.cells #[.int .i64 0, .int .i64 0, .int .u32 0, .int .u32 0, .int .i64 0, .slice none 0 0, .int .u32 0, .slice none 0 0, .int .i64 0] 36)) w.heap.size 36 [.int .i64 0, .int .i64 0, .int .u32 0, .int .u32 0, .int .i64 0, .slice none 0 0, .int .u32 0, .slice none 0 0, .int .i64 0]) := Lib.hid (BlkAt.new w _ _)
  have hk : Hid (Keeps (fun _ => False) w (w.alloc (.cells #[.int .i64 0, .int .i64 0, .int .u32 0, .int .u32 0, .int .i64 0, .slice none 0 0, .int .u32 0, .slice none 0 0, .int .i64 0] 36))) := Lib.hid ((Keeps.refl _ _).alloc _)
  have hsz : Hid (w.heap.size < (w.alloc (.cells #[.int .i64 0, .int .i64 0, .int .u32 0, .int .u32 0, .int .i64 0, .slice none 0 0, .int .u32 0, .slice none 0 0, .int .i64 0] 36)).heap.size) := Lib.hid (by simp)
  go_enter Try.func17, Try.ntmps17
  go_upto_region 1 with fail
  generalize w.alloc (.cells #[.int .i64 0, .int .i64 0, .int .u32 0, .int .u32 0, .int .i64 0, .slice none 0 0, .int .u32 0, .slice none 0 0, .int .i64 0] 36) = w0 at hR hk hsz ⊢
  go_wp2_with fail
  refine (lsHead_r g o c x hx (by omega) hc age type seq len lid adv sum _ (Lib.hid (hk.out.rangeAt hr.out id)) hh).mono ?_
  rintro e w1 ⟨rfl, k1⟩
  have hszB : Hid (w.heap.size < w1.heap.size) := Lib.hid (Nat.lt_of_lt_of_le hsz.out k1.size)
  have hH : Hid (BlkAt (w1.alloc (.cells #[.int .i64 age, .int .i64 type, .int .u32 lid, .int .u32 adv, .int .i64 seq, .int .u16 sum, .int .i64 len] 45)) w1.heap.size 45 [.int .i64 age, .int .i64 type, .int .u32 lid, .int .u32 adv, .int .i64 seq, .int .u16 sum, .int .i64 len]) := Lib.hid (BlkAt.new w1 _ _)
  have hR2 := Lib.hid ((hR.out.keep k1 id).alloc (.cells #[.int .i64 age, .int .i64 type, .int .u32 lid, .int .u32 adv, .int .i64 seq, .int .u16 sum, .int .i64 len] 45))
  have hk2 := Lib.hid ((hk.out.trans k1).alloc (.cells #[.int .i64 age, .int .i64 type, .int .u32 lid, .int .u32 adv, .int .i64 seq, .int .u16 sum, .int .i64 len] 45))
  clear k1 hR hk hsz
  go_upto_region 4 with ((with_reducible refine at_store 4 ?_); refine wpList_store_new rfl 45 (.tmp 4) (.tmp 11) rfl _ #[.int .i64 age, .int .i64 type, .int .u32 lid, .int .u32 adv, .int .i64 seq, .int .u16 sum, .int .i64 len] rfl rfl headInfo rfl (head_one _ _ _ _ _ _ _) ?_)
  generalize w1.alloc (.cells #[.int .i64 age, .int .i64 type, .int .u32 lid, .int .u32 adv, .int .i64 seq, .int .u16 sum, .int .i64 len] 45) = w2 at hR2 hk2 hH ⊢
  have hr2 := Lib.hid (hk2.out.rangeAt hr.out id)
  have hb2 := Lib.hid (bytes_tail hr2.out hc 2 (by omega))
  rw [if_neg (by omega)] at hb2
  have c16 := drop_cell hr2.out 16 (by omega)
  have e16' : (((x[16]'(by omega)).toNat : Int) == 255) = false := by rw [beq_eq_false_iff_ne]; intro h; apply h16; apply UInt8.toNat_inj.mp; show (x[16]'(by omega)).toNat = 255; omega
  have c17 := drop_cell hr2.out 17 (by omega)
  have e17' : (((x[17]'(by omega)).toNat : Int) == 255) = false := by rw [beq_eq_false_iff_ne]; intro h; apply h17; apply UInt8.toNat_inj.mp; show (x[17]'(by omega)).toNat = 255; omega
  have hl1 : (len != (x.length : Int)) = true := by rw [bne_iff_ne]; exact hlen
  have b6 := hH.out.cell 6 (.int .i64 len) rfl
  clear h16 h17 hlen
  go_wp2_with fail
  refine (suRight_r _ (x.drop 2) true (by simp; omega) _ hb2 hri).mono ?_
  rintro e w' ⟨rfl, rfl⟩
  go_wp2_with ((with_reducible refine at_store 2 ?_); refine wpList_store_blk rfl 36 (.tmp 2) (.tmp 39) rfl w.heap.size #[.int .i64 0, .int .i64 0, .int .u32 0, .int .u32 0, .int .i64 0, .slice none 0 0, .int .u32 0, .slice none 0 0, .int .i64 0] rfl rfl (BlkAt.there hR2.out 0 9 (Nat.le_refl 9)) lsaInfo (lsa_one _ _ _ _ _ _ _ _ _ (slice_one _ _ _) (slice_one _ _ _)) ?_; intro w9 hr9 hs9)
  have e0 := rangeAt_cell hr9.out 0 _ rfl
  have e1 := rangeAt_cell hr9.out 1 _ rfl
  have e2 := rangeAt_cell hr9.out 2 _ rfl
  have e3 := rangeAt_cell hr9.out 3 _ rfl
  have e4 := rangeAt_cell hr9.out 4 _ rfl
  have e5 := rangeAt_cell hr9.out 5 _ rfl
  have e6 := rangeAt_cell hr9.out 6 _ rfl
  have e7 := rangeAt_cell hr9.out 7 _ rfl
  have e8 := rangeAt_cell hr9.out 8 _ rfl
  refine bodyPost_ret (v := .tuple #[.agg #[.int .i64 0, .int .i64 0, .int .u32 0, .int .u32 0, .int .i64 0, .slice none 0 0, .int .u32 0, .slice none 0 0, .int .i64 0], .int .i64 3]) (by simp [results, Try.results17, go_sem, e0, e1, e2, e3, e4, e5, e6, e7, e8]) rfl ⟨⟨_, by rw [hg'.out], by rw [hg'.out]; exact LsaV.zero _⟩, hk2.out.trans' hs9.out (fun i e => .inr (by omega))⟩
end Go.Proofs.Ytiogeepffdpafaa
