/- keeps, walked. -/
import Derived.Test.YtiogeepffdpafaaLDE
namespace Go.Proofs.Ytiogeepffdpafaa
open Go.RowKit

def kL : LsaD := ⟨0, 1, 5, 5, 1, [], 0, [], 0⟩
theorem kBare : Bare kL := ⟨rfl, rfl, by decide, by decide, by decide, by decide⟩
theorem kAge : hA kL = 0 := by kernel_rfl
theorem cmpH_self (a : Nat) (s : Int) (c : Nat) : decide (cmpH a a s s c c = 1) = false := by
  unfold cmpH cmpI
  simp
theorem kPut0 : putD [] kL = (true, 0, [kL]) := rfl
theorem kPos : posK [kL] kL.type kL.id kL.adv = some 0 := by decide
theorem kPut1 : putD [kL] kL = (false, 0, [kL]) := by
  unfold putD
  rw [kPos]
  have : newerD kL kL = false := cmpH_self _ _ _
  simp [this]
theorem kFind : findD [kL] 1 5 5 = (kL, true) := by
  unfold findD
  rw [show posK [kL] 1 5 5 = some 0 from by decide]; rfl
set_option maxRecDepth 100000 in
set_option maxHeartbeats 2000000 in
theorem lwKeeps_any (w : World) : Calls Try.prog 41 #[] w fun e w' => e = .returned (.bool true) ∧ Keeps (fun _ => False) w w' := by
  go_enter Try.func41, Try.ntmps41
  go_wp2_with fail
  refine (ldNew_any w).mono ?_
  rintro e w1 ⟨⟨b, r, rfl, hD, hb0, hr0⟩, k1⟩
  obtain ⟨W2, hW2⟩ : ∃ W2, W2 = w1.alloc (.cells #[.int .i64 0, .int .i64 1, .int .u32 5, .int .u32 5, .int .i64 1, .slice none 0 0, .int .u32 0, .slice none 0 0, .int .i64 0] 36) := ⟨_, rfl⟩
  have k2 : Keeps (fun _ => False) w1 W2 := by rw [hW2]; exact (Keeps.refl _ _).alloc _
  have hD2 := Lib.hid (hD.keep k2 id id)
  have hX2 : Hid (BlkAt W2 w1.heap.size 36 [.int .i64 0, .int .i64 1, .int .u32 5, .int .u32 5, .int .i64 1, .slice none 0 0, .int .u32 0, .slice none 0 0, .int .i64 0]) := Lib.hid (by rw [hW2]; exact BlkAt.new w1 36 (bareL kL))
  have hXr : Hid (¬ w1.heap.size = r) := Lib.hid (by have := hD.lt.2; omega)
  have hK2 := Lib.hid (k1.trans k2)
  have hr0' := Lib.hid hr0
  have hW2' := Lib.hid hW2
  clear hD k1 k2 hW2 hb0 hr0
  go_upto_region 3 with ((with_reducible refine at_store 2 ?_); refine wpList_store_new rfl 36 (.tmp 2) (.tmp 11) rfl _ _ rfl rfl lsaInfo rfl (lsa_one _ _ _ _ _ _ _ _ _ (slice_one _ _ _) (slice_one _ _ _)) ?_)
  rw [← hW2'.out]
  clear hW2'
  go_wp2_with ((with_reducible refine at_slot 14 ?_); refine wpList_load_mid rfl 36 (.tmp 2) rfl w1.heap.size 0 rfl _ _ hX2.out.range Try.underlying36 rfl lsaInfo ?_)
  refine (ldPut_bare b r [] [kL] kL kBare (by simp) (by rw [kAge]; omega) true 0 _ hD2 (Lib.hid kPut0)).mono ?_
  rintro e w3 ⟨rfl, hD3, k3⟩
  have hD3' := Lib.hid hD3
  have hX3 := Lib.hid (hX2.out.keep k3 hXr.out)
  have hK3 := Lib.hid (hK2.out.trans' k3 (fun i e => .inr (by rw [e]; exact hr0'.out)))
  clear hD3 k3 hD2 hX2 hK2
  go_wp2_with ((with_reducible refine at_slot 20 ?_); refine wpList_load_mid rfl 36 (.tmp 2) rfl w1.heap.size 0 rfl _ _ hX3.out.range Try.underlying36 rfl lsaInfo ?_)
  refine (ldPut_bare b r [kL] [kL] kL kBare (by intro o ho; rw [List.mem_singleton] at ho; subst ho; exact ⟨kBare, by rw [kAge]; omega⟩) (by rw [kAge]; omega) false 0 _ hD3' (Lib.hid kPut1)).mono ?_
  rintro e w4 ⟨rfl, hD4, k4⟩
  have hD4' := Lib.hid hD4
  have hX4 := Lib.hid (hX3.out.keep k4 hXr.out)
  have hK4 := Lib.hid (hK3.out.trans' k4 (fun i e => .inr (by rw [e]; exact hr0'.out)))
  clear hD4 k4 hD3' hX3 hK3
  go_wp2_with ((with_reducible refine at_slot 27 ?_); refine wpList_load_mid rfl 33 (.tmp 26) rfl w1.heap.size 1 rfl _ _ (range_key hX4.out) Try.underlying33 rfl keyInfo ?_)
  refine (ldFind_bare b r [kL] 1 5 5 kL true _ hD4' (Lib.hid kFind)).mono ?_
  rintro e w5 ⟨rfl, k5⟩
  have hD5 := Lib.hid ((hD4'.out.keep k5 id id).keep ((Keeps.refl (fun _ => False) w5).alloc (.cells #[.int .i64 0, .int .i64 1, .int .u32 5, .int .u32 5, .int .i64 1, .slice none 0 0, .int .u32 0, .slice none 0 0, .int .i64 0] 36)) id id)
  have hK5 := Lib.hid ((hK4.out.trans k5).alloc (.cells #[.int .i64 0, .int .i64 1, .int .u32 5, .int .u32 5, .int .i64 1, .slice none 0 0, .int .u32 0, .slice none 0 0, .int .i64 0] 36))
  clear k5 hD4' hX4 hK4
  unfold bareV
  simp only [kL]
  go_wp2_with ((with_reducible refine at_store 7 ?_); refine wpList_store_new rfl 36 (.tmp 7) (.tmp 29) rfl _ _ rfl rfl lsaInfo rfl (lsa_one _ _ _ _ _ _ _ _ _ (slice_one _ _ _) (slice_one _ _ _)) ?_)
  refine (ldCount_any b r [kL] _ hD5).mono ?_
  rintro e w6 ⟨rfl, rfl⟩
  go_wp2_with fail
  go_ret
  exact ⟨rfl, hK5.out⟩
end Go.Proofs.Ytiogeepffdpafaa
