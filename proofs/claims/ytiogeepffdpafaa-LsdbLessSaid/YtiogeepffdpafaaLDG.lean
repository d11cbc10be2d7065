/- lsdb.Less, the document's Less, the key: walked. -/
import Derived.Test.YtiogeepffdpafaaLDF
namespace Go.Proofs.Ytiogeepffdpafaa
open Go.RowKit

def orI (a b : Int) : Int := if a ≠ 0 then a else b
set_option maxHeartbeats 1000000 in
theorem nanU32_any (a : Nat) (w : World) : Calls Try.prog 136 #[.int .u32 a] w fun e w' => e = .returned (.bool false) ∧ w = w' := by
  have h : ((a : Int) != (a : Int)) = false := by simp
  go_enter Try.func136, Try.ntmps136
  go_wp2_with fail
  go_ret
  exact ⟨rfl, rfl⟩
set_option maxHeartbeats 1000000 in
theorem cmpU32_any (a b : Nat) (w : World) : Calls Try.prog 127 #[.int .u32 a, .int .u32 b] w fun e w' => e = .returned (.int .i64 (cmpI a b)) ∧ w = w' := by
  unfold cmpI
  by_cases h1 : (a : Int) < b
  · rw [if_pos h1]
    go_enter Try.func127, Try.ntmps127
    go_wp2_with fail
    refine (nanU32_any _ _).mono ?_
    rintro e w' ⟨rfl, rfl⟩
    go_wp2_with fail
    refine (nanU32_any _ _).mono ?_
    rintro e w' ⟨rfl, rfl⟩
    go_wp2_with fail
    go_ret
    exact ⟨rfl, rfl⟩
  · rw [if_neg h1]
    by_cases h2 : (a : Int) > b
    · rw [if_pos h2]
      go_enter Try.func127, Try.ntmps127
      go_wp2_with fail
      refine (nanU32_any _ _).mono ?_
      rintro e w' ⟨rfl, rfl⟩
      go_wp2_with fail
      refine (nanU32_any _ _).mono ?_
      rintro e w' ⟨rfl, rfl⟩
      go_wp2_with fail
      go_ret
      exact ⟨rfl, rfl⟩
    · rw [if_neg h2]
      go_enter Try.func127, Try.ntmps127
      go_wp2_with fail
      refine (nanU32_any _ _).mono ?_
      rintro e w' ⟨rfl, rfl⟩
      go_wp2_with fail
      refine (nanU32_any _ _).mono ?_
      rintro e w' ⟨rfl, rfl⟩
      go_wp2_with fail
      go_ret
      exact ⟨rfl, rfl⟩

set_option maxHeartbeats 1000000 in
theorem orInt3_any (g c0 : Nat) (a b c : Int) (z : Int) (w : World) (hz : Hid (orI a (orI b c) = z)) (h : Hid (w.rangeAt g 0 [.int .i64 a, .int .i64 b, .int .i64 c])) :
    Calls Try.prog 126 #[.slice (some ⟨g, 0, none⟩) 3 c0] w fun e w' => e = .returned (.int .i64 z) ∧ w = w' := by
  have h0 : w.cell? ⟨g, 0, none⟩ = some (.int .i64 a) := h.out 0 _ rfl
  have h1 : w.cell? ⟨g, 1, none⟩ = some (.int .i64 b) := h.out 1 _ rfl
  have h2 : w.cell? ⟨g, 2, none⟩ = some (.int .i64 c) := h.out 2 _ rfl
  have hzA : Hid (a ≠ 0 → a = z) := Lib.hid (fun e => by rw [← hz.out]; unfold orI; rw [if_pos e])
  have hzB : Hid (a = 0 → b ≠ 0 → b = z) := Lib.hid (fun e f => by rw [← hz.out]; unfold orI; rw [if_neg (fun h => h e), if_pos f])
  have hzC : Hid (a = 0 → b = 0 → c = z) := Lib.hid (fun e f => by rw [← hz.out]; unfold orI; rw [if_neg (fun h => h e), if_neg (fun h => h f)])
  clear h hz
  go_enter Try.func126, Try.ntmps126
  go_wp2_with fail
  go_loop [8] (fun iv => ∃ k : Nat, k ≤ 3 ∧ iv = .int .i64 k ∧ (1 ≤ k → a = 0) ∧ (2 ≤ k → b = 0) ∧ (3 ≤ k → c = 0)) (fun iv => 3 - (intOf iv).toNat)
  case atStart => exact ⟨0, by omega, rfl, by omega, by omega, by omega⟩
  case round =>
    obtain ⟨k, hk, rfl, ha, hb, hc⟩ := hrel
    have ha' := Lib.hid ha; have hb' := Lib.hid hb; have hc' := Lib.hid hc
    clear ha hb hc
    have hk3 : k = 0 ∨ k = 1 ∨ k = 2 ∨ k = 3 := by omega
    rcases hk3 with rfl | rfl | rfl | rfl
    · by_cases e : a = 0
      · have e1 : (a != 0) = false := by rw [e]; rfl
        have e' := Lib.hid e
        clear e
        go_wp2_with fail
        exact ⟨⟨1, by omega, rfl, fun _ => e'.out, by omega, by omega⟩, by simp [intOf]⟩
      · have e1 : (a != 0) = true := by rw [bne_iff_ne]; exact e
        have ez := Lib.hid (hzA.out e)
        clear e
        go_wp2_with fail
        go_ret
        exact ⟨by rw [ez.out]; rfl, rfl⟩
    · by_cases e : b = 0
      · have e1 : (b != 0) = false := by rw [e]; rfl
        have e' := Lib.hid e
        clear e
        go_wp2_with fail
        exact ⟨⟨2, by omega, rfl, fun _ => ha'.out (by omega), fun _ => e'.out, by omega⟩, by simp [intOf]⟩
      · have e1 : (b != 0) = true := by rw [bne_iff_ne]; exact e
        have ez := Lib.hid (hzB.out (ha'.out (by omega)) e)
        clear e
        go_wp2_with fail
        go_ret
        exact ⟨by rw [ez.out]; rfl, rfl⟩
    · by_cases e : c = 0
      · have e1 : (c != 0) = false := by rw [e]; rfl
        have e' := Lib.hid e
        clear e
        go_wp2_with fail
        exact ⟨⟨3, by omega, rfl, fun _ => ha'.out (by omega), fun _ => hb'.out (by omega), fun _ => e'.out⟩, by simp [intOf]⟩
      · have e1 : (c != 0) = true := by rw [bne_iff_ne]; exact e
        have ez := Lib.hid (hzC.out (ha'.out (by omega)) (hb'.out (by omega)))
        clear e
        go_wp2_with fail
        go_ret
        exact ⟨by rw [ez.out]; rfl, rfl⟩
    · have ez : Hid (0 = z) := Lib.hid ((hc'.out (by omega)).symm.trans (hzC.out (ha'.out (by omega)) (hb'.out (by omega))))
      go_wp2_with fail
      go_ret
      exact ⟨by rw [← ez.out]; rfl, rfl⟩
/-- a key, plain -/
structure KeyD where
  type : Int
  id : Nat
  adv : Nat
def ordD (a b : KeyD) : Int := orI (cmpI a.type b.type) (orI (cmpI a.adv b.adv) (cmpI a.id b.id))
set_option maxRecDepth 100000 in
theorem ldOrder_any (a b : KeyD) (z : Int) (w : World) (hz : Hid (ordD a b = z)) :
    Calls Try.prog 92 #[.agg #[.int .i64 a.type, .int .u32 a.id, .int .u32 a.adv], .agg #[.int .i64 b.type, .int .u32 b.id, .int .u32 b.adv]] w (fun e w' => e = .returned (.int .i64 z) ∧ Keeps (fun _ => False) w w') := by
  have hA : Hid (Boxed w.heap.size [.int .i64 a.type, .int .u32 a.id, .int .u32 a.adv] w ((w.alloc (.cells #[.int .i64 a.type, .int .u32 a.id, .int .u32 a.adv] 33)).alloc (.cells #[.int .i64 b.type, .int .u32 b.id, .int .u32 b.adv] 33))) := Lib.hid ((boxed_new w _ _).next ((Keeps.refl _ _).alloc _))
  have hB : Hid (Boxed (w.heap.size + 1) [.int .i64 b.type, .int .u32 b.id, .int .u32 b.adv] (w.alloc (.cells #[.int .i64 a.type, .int .u32 a.id, .int .u32 a.adv] 33)) ((w.alloc (.cells #[.int .i64 a.type, .int .u32 a.id, .int .u32 a.adv] 33)).alloc (.cells #[.int .i64 b.type, .int .u32 b.id, .int .u32 b.adv] 33))) := Lib.hid (by
    have := boxed_new (w.alloc (.cells #[.int .i64 a.type, .int .u32 a.id, .int .u32 a.adv] 33)) [.int .i64 b.type, .int .u32 b.id, .int .u32 b.adv] 33
    simpa using this)
  obtain ⟨wB, hwB⟩ : ∃ wB, wB = (w.alloc (.cells #[.int .i64 a.type, .int .u32 a.id, .int .u32 a.adv] 33)).alloc (.cells #[.int .i64 b.type, .int .u32 b.id, .int .u32 b.adv] 33) := ⟨_, rfl⟩
  have hwB' := Lib.hid hwB
  rw [← hwB] at hA hB
  clear hwB
  go_enter Try.func92, Try.ntmps92
  go_upto_region 1 with fail
  rw [← hwB'.out]
  refine wp_region_noPanic ?_
  refine wp_region_held_drew (S := (fun W => Keeps (fun _ => False) wB W)) (by kernel_rfl) (((Keeps.refl (fun _ => False) _).drew)) (fun hHeld => ?_)
  refine takeL 0 (v := ?_) rfl (by kernel_rfl) (by kernel_rfl) (by kernel_rfl) (fun _ _ _ h => h) (Or.inl ⟨by rfl, ?_⟩) (by assumption) ?_
  rotate_left
  · (intro wS hSw; go_simp; try with_reducible rfl)
  try simp only [Act.put, List.setIfInBounds_toArray, List.set_cons_zero, List.set_cons_succ]
  refine takeL 1 rfl (by kernel_rfl) (by kernel_rfl) (by kernel_rfl) (fun _ _ _ h => h) (yieldsIf_load_cell (by rfl) 3 (.tmp 5) rfl w.heap.size 0 rfl _ (fun _ s => (hA.out.next s).cell 0 (.int .i64 a.type) rfl) (fun w s => load_int w _ _ _ s)) (by assumption) ?_
  try simp only [Act.put, List.setIfInBounds_toArray, List.set_cons_zero, List.set_cons_succ]
  refine takeL 2 (v := ?_) rfl (by kernel_rfl) (by kernel_rfl) (by kernel_rfl) (fun _ _ _ h => h) (Or.inl ⟨by rfl, ?_⟩) (by assumption) ?_
  rotate_left
  · (intro wS hSw; go_simp; try with_reducible rfl)
  try simp only [Act.put, List.setIfInBounds_toArray, List.set_cons_zero, List.set_cons_succ]
  refine takeL 3 rfl (by kernel_rfl) (by kernel_rfl) (by kernel_rfl) (fun _ _ _ h => h) (yieldsIf_load_cell (by rfl) 3 (.tmp 7) rfl (w.heap.size + 1) 0 rfl _ (fun _ s => (hB.out.next s).cell 0 (.int .i64 b.type) rfl) (fun w s => load_int w _ _ _ s)) (by assumption) ?_
  try simp only [Act.put, List.setIfInBounds_toArray, List.set_cons_zero, List.set_cons_succ]
  refine takeL 5 (v := ?_) rfl (by kernel_rfl) (by kernel_rfl) (by kernel_rfl) (fun _ _ _ h => h) (Or.inl ⟨by rfl, ?_⟩) (by assumption) ?_
  rotate_left
  · (intro wS hSw; go_simp; try with_reducible rfl)
  try simp only [Act.put, List.setIfInBounds_toArray, List.set_cons_zero, List.set_cons_succ]
  refine takeL 6 rfl (by kernel_rfl) (by kernel_rfl) (by kernel_rfl) (fun _ _ _ h => h) (yieldsIf_load_cell (by rfl) 22 (.tmp 10) rfl w.heap.size 2 rfl _ (fun _ s => (hA.out.next s).cell 2 (.int .u32 a.adv) rfl) (fun w s => load_u32 w _ _ _ s)) (by assumption) ?_
  try simp only [Act.put, List.setIfInBounds_toArray, List.set_cons_zero, List.set_cons_succ]
  refine takeL 7 (v := ?_) rfl (by kernel_rfl) (by kernel_rfl) (by kernel_rfl) (fun _ _ _ h => h) (Or.inl ⟨by rfl, ?_⟩) (by assumption) ?_
  rotate_left
  · (intro wS hSw; go_simp; try with_reducible rfl)
  try simp only [Act.put, List.setIfInBounds_toArray, List.set_cons_zero, List.set_cons_succ]
  refine takeL 8 rfl (by kernel_rfl) (by kernel_rfl) (by kernel_rfl) (fun _ _ _ h => h) (yieldsIf_load_cell (by rfl) 22 (.tmp 12) rfl (w.heap.size + 1) 2 rfl _ (fun _ s => (hB.out.next s).cell 2 (.int .u32 b.adv) rfl) (fun w s => load_u32 w _ _ _ s)) (by assumption) ?_
  try simp only [Act.put, List.setIfInBounds_toArray, List.set_cons_zero, List.set_cons_succ]
  refine takeL 10 (v := ?_) rfl (by kernel_rfl) (by kernel_rfl) (by kernel_rfl) (fun _ _ _ h => h) (Or.inl ⟨by rfl, ?_⟩) (by assumption) ?_
  rotate_left
  · (intro wS hSw; go_simp; try with_reducible rfl)
  try simp only [Act.put, List.setIfInBounds_toArray, List.set_cons_zero, List.set_cons_succ]
  refine takeL 11 rfl (by kernel_rfl) (by kernel_rfl) (by kernel_rfl) (fun _ _ _ h => h) (yieldsIf_load_cell (by rfl) 22 (.tmp 15) rfl w.heap.size 1 rfl _ (fun _ s => (hA.out.next s).cell 1 (.int .u32 a.id) rfl) (fun w s => load_u32 w _ _ _ s)) (by assumption) ?_
  try simp only [Act.put, List.setIfInBounds_toArray, List.set_cons_zero, List.set_cons_succ]
  refine takeL 12 (v := ?_) rfl (by kernel_rfl) (by kernel_rfl) (by kernel_rfl) (fun _ _ _ h => h) (Or.inl ⟨by rfl, ?_⟩) (by assumption) ?_
  rotate_left
  · (intro wS hSw; go_simp; try with_reducible rfl)
  try simp only [Act.put, List.setIfInBounds_toArray, List.set_cons_zero, List.set_cons_succ]
  refine takeL 13 rfl (by kernel_rfl) (by kernel_rfl) (by kernel_rfl) (fun _ _ _ h => h) (yieldsIf_load_cell (by rfl) 22 (.tmp 17) rfl (w.heap.size + 1) 1 rfl _ (fun _ s => (hB.out.next s).cell 1 (.int .u32 b.id) rfl) (fun w s => load_u32 w _ _ _ s)) (by assumption) ?_
  try simp only [Act.put, List.setIfInBounds_toArray, List.set_cons_zero, List.set_cons_succ]
  refine stepL 4 rfl (by kernel_rfl) (fun K hK => ?_)
  go_simp
  (refine (cmpInt_any _ _ _).mono ?_; rintro e w' ⟨rfl, rfl⟩)
  go_wp2_with fail
  refine hK.out _ _ (hHeld) (fun hHeld => ?_)
  clear hK K
  try simp only [Act.put, List.setIfInBounds_toArray, List.set_cons_zero, List.set_cons_succ]
  refine stepL 9 rfl (by kernel_rfl) (fun K hK => ?_)
  go_simp
  (refine (cmpU32_any _ _ _).mono ?_; rintro e w' ⟨rfl, rfl⟩)
  go_wp2_with fail
  refine hK.out _ _ (hHeld) (fun hHeld => ?_)
  clear hK K
  try simp only [Act.put, List.setIfInBounds_toArray, List.set_cons_zero, List.set_cons_succ]
  refine stepL 14 rfl (by kernel_rfl) (fun K hK => ?_)
  go_simp
  (refine (cmpU32_any _ _ _).mono ?_; rintro e w' ⟨rfl, rfl⟩)
  go_wp2_with fail
  refine hK.out _ _ (hHeld) (fun hHeld => ?_)
  clear hK K
  try simp only [Act.put, List.setIfInBounds_toArray, List.set_cons_zero, List.set_cons_succ]
  refine stepL 15 rfl (by kernel_rfl) (fun K hK => ?_)
  go_simp
  refine hK.out _ _ ((hHeld.alloc _)) (fun hHeld => ?_)
  clear hK K
  try simp only [Act.put, List.setIfInBounds_toArray, List.set_cons_zero, List.set_cons_succ]
  refine stepL 16 rfl (by kernel_rfl) (fun K hK => ?_)
  go_simp
  (refine (orInt3_any _ _ _ _ _ z _ hz (Lib.hid (Keeps.rangeAt ((Keeps.refl (fun _ => False) _).drew) (new_rangeb wB _ _) id))).mono ?_; rintro e w' ⟨rfl, rfl⟩)
  go_wp2_with fail
  refine hK.out _ _ (hHeld) (fun hHeld => ?_)
  clear hK K
  try simp only [Act.put, List.setIfInBounds_toArray, List.set_cons_zero, List.set_cons_succ]
  refine takeL 17 (v := ?_) rfl (by kernel_rfl) (by kernel_rfl) (by kernel_rfl) (fun _ _ _ h => h) (Or.inl ⟨by rfl, ?_⟩) (by assumption) ?_
  rotate_left
  · (intro wS hSw; go_simp; try with_reducible rfl)
  try simp only [Act.put, List.setIfInBounds_toArray, List.set_cons_zero, List.set_cons_succ]
  refine wpAnyH_done (by kernel_rfl) (NoPanic.normal ?_) _
  go_wp2_with fail
  go_ret
  exact ⟨rfl, (hwB'.out ▸ (((Keeps.refl (fun _ => False) w).alloc _).alloc _)).trans hHeld⟩
end Go.Proofs.Ytiogeepffdpafaa
