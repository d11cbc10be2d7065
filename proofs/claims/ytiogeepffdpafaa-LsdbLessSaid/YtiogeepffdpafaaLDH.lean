/- LsdbLess, walked. -/
import Derived.Test.YtiogeepffdpafaaLDG
namespace Go.Proofs.Ytiogeepffdpafaa
open Go.RowKit

def lessB (a b : KeyD) : Bool := if a.type ≠ b.type then decide (a.type < b.type) else if a.adv ≠ b.adv then decide (a.adv < b.adv) else decide (a.id < b.id)
theorem less_same (a b : KeyD) : decide (ordD a b < 0) = lessB a b := by
  unfold ordD orI lessB cmpI
  by_cases h1 : a.type = b.type
  · by_cases h2 : a.adv = b.adv
    · rw [h1, h2]; simp
      by_cases h3 : a.id < b.id
      · simp [h3]
      · by_cases h4 : b.id < a.id <;> simp [h3, h4]
    · rw [h1]
      by_cases h3 : a.adv < b.adv
      · simp [h2, h3]
      · have h4 : b.adv < a.adv := by omega
        simp [h2, h3, h4]
  · by_cases h3 : a.type < b.type
    · simp [h1, h3]
    · have h4 : b.type < a.type := by omega
      simp [h1, h3, h4]
theorem r10KeyInfo : (Try.prog.info? 24).map (·.size) = some 3 := by kernel_rfl
theorem ldLess_any (a b : KeyD) (z : Bool) (w : World) (hz : Hid (lessB a b = z)) :
    Calls Try.prog 54 #[.agg #[.int .i64 a.type, .int .u32 a.id, .int .u32 a.adv], .agg #[.int .i64 b.type, .int .u32 b.id, .int .u32 b.adv]] w (fun e w' => e = .returned (.bool z) ∧ Keeps (fun _ => False) w w') := by
  have hk : Hid (Keeps (fun _ => False) w ((w.alloc (.cells #[.int .i64 a.type, .int .u32 a.id, .int .u32 a.adv] 33)).alloc (.cells #[.int .i64 b.type, .int .u32 b.id, .int .u32 b.adv] 33))) := Lib.hid (((Keeps.refl _ _).alloc _).alloc _)
  obtain ⟨x, hx⟩ : ∃ x, ordD a b = x := ⟨_, rfl⟩
  have hx' := Lib.hid hx
  have hz' : Hid (decide (x < 0) = z) := Lib.hid (by rw [← hz.out, ← less_same, hx])
  clear hx hz
  go_enter Try.func54, Try.ntmps54
  go_wp2_with fail
  refine (ldOrder_any a b x _ hx').mono ?_
  rintro e w2 ⟨rfl, k2⟩
  have hk2 := Lib.hid (hk.out.trans k2)
  clear k2
  go_wp2_with fail
  go_ret
  exact ⟨by rw [← hz'.out]; rfl, hk2.out⟩
set_option maxHeartbeats 1000000 in
theorem r12Less_any (a b : KeyD) (z : Bool) (w : World) (hz : Hid (lessB a b = z)) :
    Calls Try.prog 55 #[.agg #[.int .i64 a.type, .int .u32 a.id, .int .u32 a.adv], .agg #[.int .i64 b.type, .int .u32 b.id, .int .u32 b.adv]] w (fun e w' => e = .returned (.bool z) ∧ Keeps (fun _ => False) w w') := by
  have hk : Hid (Keeps (fun _ => False) w ((w.alloc (.cells #[.int .i64 a.type, .int .u32 a.id, .int .u32 a.adv] 24)).alloc (.cells #[.int .i64 b.type, .int .u32 b.id, .int .u32 b.adv] 24))) := Lib.hid (((Keeps.refl _ _).alloc _).alloc _)
  have hz0 := hz.out
  clear hz
  unfold lessB at hz0
  by_cases h1 : a.type = b.type
  · rw [if_neg (fun h => h h1)] at hz0
    have e1 : (a.type != b.type) = false := by rw [h1]; simp
    clear h1
    by_cases h2 : a.adv = b.adv
    · rw [if_neg (fun h => h h2)] at hz0
      have e2 : ((a.adv : Int) != (b.adv : Int)) = false := by rw [h2]; simp
      have hz1 := Lib.hid hz0
      clear h2 hz0
      go_enter Try.func55, Try.ntmps55
      go_wp2_with fail
      go_ret
      refine ⟨?_, hk.out⟩
      rw [← hz1.out]
      rfl
    · rw [if_pos h2] at hz0
      have e2 : ((a.adv : Int) != (b.adv : Int)) = true := by rw [bne_iff_ne]; omega
      have hz1 := Lib.hid hz0
      clear h2 hz0
      go_enter Try.func55, Try.ntmps55
      go_wp2_with fail
      go_ret
      refine ⟨?_, hk.out⟩
      rw [← hz1.out]
      rfl
  · rw [if_pos h1] at hz0
    have e1 : (a.type != b.type) = true := by rw [bne_iff_ne]; exact h1
    have hz1 := Lib.hid hz0
    clear h1 hz0
    go_enter Try.func55, Try.ntmps55
    go_wp2_with fail
    go_ret
    refine ⟨?_, hk.out⟩
    rw [← hz1.out]
    rfl
theorem lwKey_any (a : KeyD) (w : World) : Calls Try.prog 50 #[.agg #[.int .i64 a.type, .int .u32 a.id, .int .u32 a.adv]] w (fun e w' => e = .returned (.agg #[.int .i64 a.type, .int .u32 a.id, .int .u32 a.adv]) ∧ Keeps (fun _ => False) w w') := by
  obtain ⟨W0, hW0⟩ : ∃ W0, W0 = (w.alloc (.cells #[.int .i64 a.type, .int .u32 a.id, .int .u32 a.adv] 24)).alloc (.cells #[.int .i64 0, .int .u32 0, .int .u32 0] 33) := ⟨_, rfl⟩
  have hR : Hid (BlkAt W0 (w.heap.size + 1) 33 [.int .i64 0, .int .u32 0, .int .u32 0]) := Lib.hid (by
    have := BlkAt.new (w.alloc (.cells #[.int .i64 a.type, .int .u32 a.id, .int .u32 a.adv] 24)) 33 [.int .i64 0, .int .u32 0, .int .u32 0]
    rw [hW0]; simpa using this)
  have hB := (BlkAt.new w 24 [.int .i64 a.type, .int .u32 a.id, .int .u32 a.adv]).alloc (.cells #[.int .i64 0, .int .u32 0, .int .u32 0] 33)
  have hK : Hid (Keeps (fun _ => False) w W0) := Lib.hid (by rw [hW0]; exact ((Keeps.refl _ _).alloc _).alloc _)
  have b0 : W0.cell? ⟨w.heap.size, 0, none⟩ = some (.int .i64 a.type) := by rw [hW0]; exact hB.cell 0 _ rfl
  have b1 : W0.cell? ⟨w.heap.size, 1, none⟩ = some (.int .u32 a.id) := by rw [hW0]; exact hB.cell 1 _ rfl
  have b2 : W0.cell? ⟨w.heap.size, 2, none⟩ = some (.int .u32 a.adv) := by rw [hW0]; exact hB.cell 2 _ rfl
  have hW0' := Lib.hid hW0
  clear hW0 hB
  go_enter Try.func50, Try.ntmps50
  go_upto_region 1 with fail
  rw [← hW0'.out]
  clear hW0'
  go_wp2_with ((with_reducible refine at_store 2 ?_); refine wpList_store_blk rfl 33 (.tmp 2) (.tmp 9) rfl (w.heap.size + 1) #[.int .i64 a.type, .int .u32 a.id, .int .u32 a.adv] rfl rfl (BlkAt.there hR.out 0 3 (Nat.le_refl 3)) keyInfo (by simp; exact ⟨rfl, rfl, rfl⟩) ?_; intro w9 hr9 hs9)
  have c0 := rangeAt_cell hr9.out 0 (.int .i64 a.type) rfl
  have c1 := rangeAt_cell hr9.out 1 (.int .u32 a.id) rfl
  have c2 := rangeAt_cell hr9.out 2 (.int .u32 a.adv) rfl
  refine bodyPost_ret (v := .agg #[.int .i64 a.type, .int .u32 a.id, .int .u32 a.adv]) (by simp [results, Try.results50, go_sem, c0, c1, c2]) rfl ⟨rfl, ?_⟩
  exact hK.out.trans' hs9.out (fun i e => .inr (by rw [e]; omega))
set_option maxRecDepth 100000 in
set_option maxHeartbeats 2000000 in
theorem lLsdbLess_walk (a b : KeyD) (w : World) : Calls Try.prog 12 #[.agg #[.int .i64 a.type, .int .u32 a.id, .int .u32 a.adv], .agg #[.int .i64 b.type, .int .u32 b.id, .int .u32 b.adv]] w (fun e w' => e = .returned (.bool true) ∧ Keeps (fun _ => False) w w') := by
  have hA : Hid (Boxed w.heap.size [.int .i64 a.type, .int .u32 a.id, .int .u32 a.adv] w ((w.alloc (.cells #[.int .i64 a.type, .int .u32 a.id, .int .u32 a.adv] 24)).alloc (.cells #[.int .i64 b.type, .int .u32 b.id, .int .u32 b.adv] 24))) := Lib.hid ((boxed_new w _ _).next ((Keeps.refl _ _).alloc _))
  have hB : Hid (Boxed (w.heap.size + 1) [.int .i64 b.type, .int .u32 b.id, .int .u32 b.adv] (w.alloc (.cells #[.int .i64 a.type, .int .u32 a.id, .int .u32 a.adv] 24)) ((w.alloc (.cells #[.int .i64 a.type, .int .u32 a.id, .int .u32 a.adv] 24)).alloc (.cells #[.int .i64 b.type, .int .u32 b.id, .int .u32 b.adv] 24))) := Lib.hid (by
    have := boxed_new (w.alloc (.cells #[.int .i64 a.type, .int .u32 a.id, .int .u32 a.adv] 24)) [.int .i64 b.type, .int .u32 b.id, .int .u32 b.adv] 24
    simpa using this)
  obtain ⟨wB, hwB⟩ : ∃ wB, wB = (w.alloc (.cells #[.int .i64 a.type, .int .u32 a.id, .int .u32 a.adv] 24)).alloc (.cells #[.int .i64 b.type, .int .u32 b.id, .int .u32 b.adv] 24) := ⟨_, rfl⟩
  have hwB' := Lib.hid hwB
  rw [← hwB] at hA hB
  clear hwB
  obtain ⟨z, hz⟩ : ∃ z, lessB a b = z := ⟨_, rfl⟩
  have hz' := Lib.hid hz
  clear hz
  go_enter Try.func12, Try.ntmps12
  go_upto_region 1 with fail
  rw [← hwB'.out]
  refine wp_region_noPanic ?_
  refine wp_region_held_drew (S := (fun W => Keeps (fun _ => False) wB W)) (by kernel_rfl) (((Keeps.refl (fun _ => False) _).drew)) (fun hHeld => ?_)
  refine stepL 0 rfl (by kernel_rfl) (fun K hK => ?_)
  go_simp
  (refine (lwKeeps_any _).mono ?_; rintro e w1 ⟨rfl, k1⟩)
  go_wp2_with fail
  refine hK.out _ _ ((hHeld.trans k1)) (fun hHeld => ?_)
  clear hK K
  try simp only [Act.put, List.setIfInBounds_toArray, List.set_cons_zero, List.set_cons_succ]
  refine takeL 1 (v := ?_) rfl (by kernel_rfl) (by kernel_rfl) (by kernel_rfl) (fun _ _ _ h => h) (Or.inl ⟨by rfl, ?_⟩) (by assumption) ?_
  rotate_left
  · (intro wS hSw; go_simp; try with_reducible rfl)
  try simp only [Act.put, List.setIfInBounds_toArray, List.set_cons_zero, List.set_cons_succ]
  refine takeL 2 rfl (by kernel_rfl) (by kernel_rfl) (by kernel_rfl) (fun _ _ _ h => h) (yieldsIf_load_mid (by rfl) 24 (.tmp 2) rfl w.heap.size 0 rfl [.int .i64 a.type, .int .u32 a.id, .int .u32 a.adv] _ (fun _ s => (hA.out.next s).r) Try.underlying24 rfl r10KeyInfo) (by assumption) ?_
  try simp only [Act.put, List.setIfInBounds_toArray, List.set_cons_zero, List.set_cons_succ]
  refine takeL 4 rfl (by kernel_rfl) (by kernel_rfl) (by kernel_rfl) (fun _ _ _ h => h) (yieldsIf_load_mid (by rfl) 24 (.tmp 3) rfl (w.heap.size + 1) 0 rfl [.int .i64 b.type, .int .u32 b.id, .int .u32 b.adv] _ (fun _ s => (hB.out.next s).r) Try.underlying24 rfl r10KeyInfo) (by assumption) ?_
  try simp only [Act.put, List.setIfInBounds_toArray, List.set_cons_zero, List.set_cons_succ]
  refine takeL 7 rfl (by kernel_rfl) (by kernel_rfl) (by kernel_rfl) (fun _ _ _ h => h) (yieldsIf_load_mid (by rfl) 24 (.tmp 2) rfl w.heap.size 0 rfl [.int .i64 a.type, .int .u32 a.id, .int .u32 a.adv] _ (fun _ s => (hA.out.next s).r) Try.underlying24 rfl r10KeyInfo) (by assumption) ?_
  try simp only [Act.put, List.setIfInBounds_toArray, List.set_cons_zero, List.set_cons_succ]
  refine takeL 8 rfl (by kernel_rfl) (by kernel_rfl) (by kernel_rfl) (fun _ _ _ h => h) (yieldsIf_load_mid (by rfl) 24 (.tmp 3) rfl (w.heap.size + 1) 0 rfl [.int .i64 b.type, .int .u32 b.id, .int .u32 b.adv] _ (fun _ s => (hB.out.next s).r) Try.underlying24 rfl r10KeyInfo) (by assumption) ?_
  try simp only [Act.put, List.setIfInBounds_toArray, List.set_cons_zero, List.set_cons_succ]
  refine stepL 3 rfl (by kernel_rfl) (fun K hK => ?_)
  go_simp
  (refine (lwKey_any a _).mono ?_; rintro e w2 ⟨rfl, k2⟩)
  go_wp2_with fail
  refine hK.out _ _ ((hHeld.trans k2)) (fun hHeld => ?_)
  clear hK K
  try simp only [Act.put, List.setIfInBounds_toArray, List.set_cons_zero, List.set_cons_succ]
  refine stepL 5 rfl (by kernel_rfl) (fun K hK => ?_)
  go_simp
  (refine (lwKey_any b _).mono ?_; rintro e w3 ⟨rfl, k3⟩)
  go_wp2_with fail
  refine hK.out _ _ ((hHeld.trans k3)) (fun hHeld => ?_)
  clear hK K
  try simp only [Act.put, List.setIfInBounds_toArray, List.set_cons_zero, List.set_cons_succ]
  refine stepL 6 rfl (by kernel_rfl) (fun K hK => ?_)
  go_simp
  (refine (ldLess_any a b z _ hz').mono ?_; rintro e w4 ⟨rfl, k4⟩)
  go_wp2_with fail
  refine hK.out _ _ ((hHeld.trans k4)) (fun hHeld => ?_)
  clear hK K
  try simp only [Act.put, List.setIfInBounds_toArray, List.set_cons_zero, List.set_cons_succ]
  refine stepL 9 rfl (by kernel_rfl) (fun K hK => ?_)
  go_simp
  (refine (r12Less_any a b z _ hz').mono ?_; rintro e w5 ⟨rfl, k5⟩)
  go_wp2_with fail
  refine hK.out _ _ ((hHeld.trans k5)) (fun hHeld => ?_)
  clear hK K
  try simp only [Act.put, List.setIfInBounds_toArray, List.set_cons_zero, List.set_cons_succ]
  refine takeL 10 (v := ?_) rfl (by kernel_rfl) (by kernel_rfl) (by kernel_rfl) (fun _ _ _ h => h) (Or.inl ⟨by rfl, ?_⟩) (by assumption) ?_
  rotate_left
  · (intro wS hSw; go_simp; try with_reducible rfl)
  try simp only [Act.put, List.setIfInBounds_toArray, List.set_cons_zero, List.set_cons_succ]
  refine takeL 11 (v := ?_) rfl (by kernel_rfl) (by kernel_rfl) (by kernel_rfl) (fun _ _ _ h => h) (Or.inl ⟨by rfl, ?_⟩) (by assumption) ?_
  rotate_left
  · (intro wS hSw; go_simp; try with_reducible rfl)
  try simp only [Act.put, List.setIfInBounds_toArray, List.set_cons_zero, List.set_cons_succ]
  refine takeL 12 (v := ?_) rfl (by kernel_rfl) (by kernel_rfl) (by kernel_rfl) (fun _ _ _ h => h) (Or.inl ⟨by rfl, ?_⟩) (by assumption) ?_
  rotate_left
  · (intro wS hSw; go_simp; try with_reducible rfl)
  try simp only [Act.put, List.setIfInBounds_toArray, List.set_cons_zero, List.set_cons_succ]
  refine wpAnyH_done (by kernel_rfl) (NoPanic.normal ?_) _
  go_wp2_with fail
  go_ret
  exact ⟨rfl, (hwB'.out ▸ (((Keeps.refl (fun _ => False) w).alloc _).alloc _)).trans hHeld⟩
end Go.Proofs.Ytiogeepffdpafaa
