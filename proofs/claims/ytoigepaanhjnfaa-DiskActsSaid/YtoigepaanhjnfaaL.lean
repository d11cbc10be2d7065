/- waits. -/
import Derived.Test.YtoigepaanhjnfaaK
namespace Go.Proofs.Ytoigepaanhjnfaa
open Go.RowKit

def dW0 (b bs : Nat) : Dk := fresh b bs 2
def dW1 (b bs : Nat) : Dk := (dW0 b bs).put 0 (rep64 1)
def dW2 (b bs : Nat) : Dk := (dW1 b bs).put 0 (rep64 2)
def dW3 (b bs : Nat) : Dk := (dW2 b bs).crash [true]
theorem dW1_eq (b bs : Nat) : (dW0 b bs).write 0 (rep64 1) = (0, dW1 b bs) := Dk.write_on (dW0 b bs) 0 _ rfl (show (-1 : Int) < 0 by decide) (show 0 < 2 by decide) (rep64_len _)
theorem dW2_eq (b bs : Nat) : (dW1 b bs).write 0 (rep64 2) = (0, dW2 b bs) := Dk.write_on (dW1 b bs) 0 _ rfl (show (-1 : Int) < 0 by decide) (show 0 < 2 by decide) (rep64_len _)
theorem dW2_order (b bs : Nat) : (dW2 b bs).order = [0] := rfl
theorem dW3_la (b bs : Nat) : (dW3 b bs).la 0 = rep64 2 := by
  show (dW2 b bs).settled (fun k => [true].getD k false) 0 = _
  unfold Dk.settled
  rw [if_pos ⟨by rw [dW2_order]; simp, by rfl⟩]; exact upd_same (dW1 b bs).la 0 _

set_option maxRecDepth 100000 in
set_option maxHeartbeats 1000000 in
theorem waits_ok (w : World) : Calls Try.prog 13 #[] w fun e w' => e = .returned (.bool true) ∧ Keeps (fun _ => False) w w' := by
  go_enter Try.func13, Try.ntmps13
  go_wp2_with fail
  refine (own_new 2 _ (by omega) (by omega)).mono ?_
  rintro e w1 ⟨b, bs, rfl, hD1, hk1⟩
  have hD := Lib.hid (hD1 : OwnDisk (fun k => w.heap.size ≤ k) (dW0 b bs) w1); clear hD1
  go_wp2_with fail
  refine (full_any 1 _).mono ?_
  rintro e w2 ⟨rfl, hk2, hr2, hl2⟩
  have hD2 := Lib.hid (hD.out.keepF hk2)
  go_wp2_with fail
  refine (own_write (fun k => w.heap.size ≤ k) (dW0 b bs) w2 0 _ (rep64 1) (fun k hk => by have := hk1.size; have := hk2.size; omega) hD2.out ⟨_, 64, by rw [rep64_len], fun _ => ⟨_, 0, rfl, hr2⟩⟩ (by intro k hk; simp only [Value.ownBlock, Option.some.injEq] at hk; have := hD.out.lt.1; show k ≠ (dW0 b bs).b; change (fresh b bs 2).b < _ at this; change _ ≠ (fresh b bs 2).b; omega)).mono ?_
  rintro e w3 ⟨rfl, hD3', hk3⟩
  rw [dW1_eq] at hD3' ⊢
  have hD3 := Lib.hid hD3'; clear hD3' hD hr2
  go_wp2_with fail
  refine (full_any 2 _).mono ?_
  rintro e w4 ⟨rfl, hk4, hr4, hl4⟩
  have hD4 := Lib.hid (hD3.out.keepF hk4)
  go_wp2_with fail
  refine (own_write (fun k => w.heap.size ≤ k) (dW1 b bs) w4 0 _ (rep64 2) (fun k hk => by have := hk1.size; have := hk2.size; have := hk3.size; have := hk4.size; omega) hD4.out ⟨_, 64, by rw [rep64_len], fun _ => ⟨_, 0, rfl, hr4⟩⟩ (by intro k hk; simp only [Value.ownBlock, Option.some.injEq] at hk; have := hD3.out.lt.1; show k ≠ (dW1 b bs).b; omega)).mono ?_
  rintro e w5 ⟨rfl, hD5', hk5⟩
  rw [dW2_eq] at hD5' ⊢
  have hD5 := Lib.hid hD5'; clear hD5' hD3 hr4
  go_wp2_with fail
  refine (own_waits _ (dW2 b bs) w5 hD5.out).mono ?_
  rintro e w5' ⟨rfl, rfl⟩
  rw [dW2_order]
  go_wp2_with fail
  refine (own_crash (fun k => w.heap.size ≤ k) (dW2 b bs) _ _ [true] (fun k hk => by have := hk1.size; have := hk2.size; have := hk3.size; have := hk4.size; have := hk5.size; simp at hk; omega) (hD5.out.keepF ((Keeps.refl _ _).alloc _))
    ⟨some ⟨w5.heap.size, 0, none⟩, 1, rfl, by simp, fun _ => ⟨w5.heap.size, 0, rfl, fun j u hu => by rw [← Addr.add_mid]; exact cells_one rfl _ _ j u hu⟩⟩ (fun _ => by intro k hk; simp only [Value.ownBlock, Option.some.injEq] at hk; have := hD5.out.lt.2; show k ≠ (dW2 b bs).bs; omega)).mono ?_
  rintro e w6 ⟨rfl, hD6', hk6⟩
  have hD6 := Lib.hid (hD6' : OwnDisk (fun k => w.heap.size ≤ k) (dW3 b bs) w6); clear hD6' hD5
  go_wp2_with fail
  refine (own_read_yes _ (dW3 b bs) w6 0 hD6.out rfl (show 0 < 2 by decide)).mono ?_
  rintro e w7 ⟨rfl, hw7⟩
  rw [dW3_la] at hw7
  have hr7 : w7.rangeAt w6.heap.size 0 ((rep64 2).map bv) := by
    rw [hw7]; intro j u hu; rw [← Addr.add_mid]; exact cells_new rfl _ _ j u hu
  have hk7 : Keeps (fun _ => False) w6 w7 := by rw [hw7]; exact (Keeps.refl _ _).alloc _
  have hD7 := Lib.hid (hD6.out.keepF hk7)
  clear hw7 hD6
  have hcv := conv64S (F := fun k => w.heap.size ≤ k) (D := dW3 b bs) (W0 := w) w6.heap.size 64 (rep64 2) (rep64_len _)
  have hK7 : Keeps (fun _ => False) w w7 := ((((((hk1.trans hk2).trans' hk3 (fun k e => .inr e)).trans hk4).trans' hk5 (fun k e => .inr e)).alloc _).trans' hk6 (fun k e => .inr e)).trans hk7
  have hS7 := Lib.hid (⟨hD7.out.drew, by simpa using hr7, hK7.drew⟩ : WS (fun k => w.heap.size ≤ k) (dW3 b bs) w w6.heap.size (rep64 2) w7.drew)
  clear hr7
  go_wp2_with fail
  refine wp_region_noPanic ?_
  refine wp_region_held_drew (S := (fun W => WS (fun k => w.heap.size ≤ k) (dW3 b bs) w w6.heap.size (rep64 2) W)) (by kernel_rfl) (hS7.out) (fun hHeld => ?_)
  refine takeL 0 (v := ?_) rfl (by kernel_rfl) (by kernel_rfl) (by kernel_rfl) (fun _ _ _ h => h) (Or.inl ⟨by rfl, ?_⟩) (by assumption) ?_
  rotate_left
  · (intro wS hSw; go_simp; try with_reducible rfl)
  try simp only [Act.put, List.setIfInBounds_toArray, List.set_cons_zero, List.set_cons_succ]
  refine takeL 1 (v := ?_) rfl (by kernel_rfl) (by kernel_rfl) (by kernel_rfl) (fun _ _ _ h => h) (Or.inl ⟨by rfl, ?_⟩) (by assumption) ?_
  rotate_left
  · (intro wS hSw; go_simp; try with_reducible rfl)
  try simp only [Act.put, List.setIfInBounds_toArray, List.set_cons_zero, List.set_cons_succ]
  refine takeL 2 (v := ?_) rfl (by kernel_rfl) (by kernel_rfl) (by kernel_rfl) (fun _ _ _ h => h) (Or.inl ⟨by rfl, ?_⟩) (by assumption) ?_
  rotate_left
  · (intro wS hSw; go_simp; try with_reducible rfl)
  try simp only [Act.put, List.setIfInBounds_toArray, List.set_cons_zero, List.set_cons_succ]
  refine takeL 3 (v := ?_) rfl (by kernel_rfl) (by kernel_rfl) (by kernel_rfl) (fun _ _ _ h => h) (Or.inl ⟨by rfl, ?_⟩) (by assumption) ?_
  rotate_left
  · (intro wS hSw; go_simp; try with_reducible rfl)
  try simp only [Act.put, List.setIfInBounds_toArray, List.set_cons_zero, List.set_cons_succ]
  refine takeL 4 (v := ?_) rfl (by kernel_rfl) (by kernel_rfl) (by kernel_rfl) (fun _ _ _ h => h) (Or.inl ⟨by rfl, ?_⟩) (by assumption) ?_
  rotate_left
  · (intro wS hSw; go_simp; try with_reducible rfl)
  try simp only [Act.put, List.setIfInBounds_toArray, List.set_cons_zero, List.set_cons_succ]
  refine takeL 5 (v := ?_) rfl (by kernel_rfl) (by kernel_rfl) (by kernel_rfl) (fun _ _ _ h => h) (Or.inl ⟨by rfl, ?_⟩) (by assumption) ?_
  rotate_left
  · (intro wS hSw; go_simp; try with_reducible rfl)
  try simp only [Act.put, List.setIfInBounds_toArray, List.set_cons_zero, List.set_cons_succ]
  refine takeL 6 (v := ?_) rfl (by kernel_rfl) (by kernel_rfl) (by kernel_rfl) (fun _ _ _ h => h) (Or.inl ⟨by rfl, ?_⟩) (by assumption) ?_
  rotate_left
  · (intro wS hSw; go_simp; try with_reducible rfl)
  try simp only [Act.put, List.setIfInBounds_toArray, List.set_cons_zero, List.set_cons_succ]
  refine takeL 7 (v := ?_) rfl (by kernel_rfl) (by kernel_rfl) (by kernel_rfl) (fun _ _ _ h => h) (Or.inl ⟨by rfl, ?_⟩) (by assumption) ?_
  rotate_left
  · (intro wS hSw; go_simp; try with_reducible rfl)
  try simp only [Act.put, List.setIfInBounds_toArray, List.set_cons_zero, List.set_cons_succ]
  refine takeL 8 (v := ?_) rfl (by kernel_rfl) (by kernel_rfl) (by kernel_rfl) (fun _ _ _ h => h) (Or.inl ⟨by rfl, ?_⟩) (by assumption) ?_
  rotate_left
  · (intro wS hSw; go_simp; try with_reducible rfl)
  try simp only [Act.put, List.setIfInBounds_toArray, List.set_cons_zero, List.set_cons_succ]
  refine takeL 9 (v := ?_) rfl (by kernel_rfl) (by kernel_rfl) (by kernel_rfl) (fun _ _ _ h => h) (Or.inl ⟨by rfl, ?_⟩) (by assumption) ?_
  rotate_left
  · (intro wS hSw; go_simp; try with_reducible rfl)
  try simp only [Act.put, List.setIfInBounds_toArray, List.set_cons_zero, List.set_cons_succ]
  refine takeL 10 (v := ?_) rfl (by kernel_rfl) (by kernel_rfl) (by kernel_rfl) (fun _ _ _ h => h) (Or.inl ⟨by rfl, ?_⟩) (by assumption) ?_
  rotate_left
  · (intro wS hSw; go_simp; try with_reducible rfl)
  try simp only [Act.put, List.setIfInBounds_toArray, List.set_cons_zero, List.set_cons_succ]
  refine takeL 11 (v := ?_) rfl (by kernel_rfl) (by kernel_rfl) (by kernel_rfl) (fun _ _ _ h => h) (Or.inl ⟨by rfl, ?_⟩) (by assumption) ?_
  rotate_left
  · (intro wS hSw; go_simp; try with_reducible rfl)
  try simp only [Act.put, List.setIfInBounds_toArray, List.set_cons_zero, List.set_cons_succ]
  refine takeL 12 (v := ?_) rfl (by kernel_rfl) (by kernel_rfl) (by kernel_rfl) (fun _ _ _ h => h) (Or.inl ⟨by rfl, ?_⟩) (by assumption) ?_
  rotate_left
  · (intro wS hSw; go_simp; try with_reducible rfl)
  try simp only [Act.put, List.setIfInBounds_toArray, List.set_cons_zero, List.set_cons_succ]
  refine takeL 13 (v := ?_) rfl (by kernel_rfl) (by kernel_rfl) (by kernel_rfl) (fun _ _ _ h => h) (Or.inl ⟨by rfl, ?_⟩) (by assumption) ?_
  rotate_left
  · (intro wS hSw; go_simp; try with_reducible rfl)
  try simp only [Act.put, List.setIfInBounds_toArray, List.set_cons_zero, List.set_cons_succ]
  refine takeL 14 (v := ?_) rfl (by kernel_rfl) (by kernel_rfl) (by kernel_rfl) (fun _ _ _ h => h) (Or.inl ⟨by rfl, ?_⟩) (by assumption) ?_
  rotate_left
  · (intro wS hSw; go_simp; try with_reducible rfl)
  try simp only [Act.put, List.setIfInBounds_toArray, List.set_cons_zero, List.set_cons_succ]
  refine takeL 15 (v := ?_) rfl (by kernel_rfl) (by kernel_rfl) (by kernel_rfl) (fun _ _ _ h => h) (Or.inl ⟨by rfl, ?_⟩) (by assumption) ?_
  rotate_left
  · (intro wS hSw; go_simp; try with_reducible rfl)
  try simp only [Act.put, List.setIfInBounds_toArray, List.set_cons_zero, List.set_cons_succ]
  refine takeL 16 (v := ?_) rfl (by kernel_rfl) (by kernel_rfl) (by kernel_rfl) (fun _ _ _ h => h) (Or.inl ⟨by rfl, ?_⟩) (by assumption) ?_
  rotate_left
  · (intro wS hSw; go_simp; try with_reducible rfl)
  try simp only [Act.put, List.setIfInBounds_toArray, List.set_cons_zero, List.set_cons_succ]
  refine takeL 17 (v := ?_) rfl (by kernel_rfl) (by kernel_rfl) (by kernel_rfl) (fun _ _ _ h => h) (Or.inl ⟨by rfl, ?_⟩) (by assumption) ?_
  rotate_left
  · (intro wS hSw; go_simp; try with_reducible rfl)
  try simp only [Act.put, List.setIfInBounds_toArray, List.set_cons_zero, List.set_cons_succ]
  refine takeL 18 (v := ?_) rfl (by kernel_rfl) (by kernel_rfl) (by kernel_rfl) (fun _ _ _ h => h) (Or.inl ⟨by rfl, ?_⟩) (by assumption) ?_
  rotate_left
  · (intro wS hSw; go_simp; try with_reducible rfl)
  try simp only [Act.put, List.setIfInBounds_toArray, List.set_cons_zero, List.set_cons_succ]
  refine takeL 19 (v := ?_) rfl (by kernel_rfl) (by kernel_rfl) (by kernel_rfl) (fun _ _ _ h => h) (Or.inl ⟨by rfl, ?_⟩) (by assumption) ?_
  rotate_left
  · (intro wS hSw; go_simp; try with_reducible rfl)
  try simp only [Act.put, List.setIfInBounds_toArray, List.set_cons_zero, List.set_cons_succ]
  refine stepL 20 rfl (by kernel_rfl) (fun K hK => ?_)
  go_simp
  (refine (own_waits _ (dW3 b bs) _ (And.left hHeld)).mono ?_; rintro e w' ⟨rfl, rfl⟩)
  go_wp2_with fail
  refine hK.out _ _ (hHeld) (fun hHeld => ?_)
  clear hK K
  try simp only [Act.put, List.setIfInBounds_toArray, List.set_cons_zero, List.set_cons_succ]
  refine takeL 21 (v := ?_) rfl (by kernel_rfl) (by kernel_rfl) (by kernel_rfl) (fun _ _ _ h => h) (Or.inl ⟨by rfl, ?_⟩) (by assumption) ?_
  rotate_left
  · (intro wS hSw; go_simp; try with_reducible rfl)
  try simp only [Act.put, List.setIfInBounds_toArray, List.set_cons_zero, List.set_cons_succ]
  refine takeL 22 (v := ?_) rfl (by kernel_rfl) (by kernel_rfl) (by kernel_rfl) (fun _ _ _ h => h) (Or.inl ⟨by rfl, ?_⟩) (by assumption) ?_
  rotate_left
  · (intro wS hSw; go_simp; try with_reducible rfl)
  try simp only [Act.put, List.setIfInBounds_toArray, List.set_cons_zero, List.set_cons_succ]
  refine takeL 23 (v := ?_) rfl (by kernel_rfl) (by kernel_rfl) (by kernel_rfl) (fun _ _ _ h => h) (Or.inl ⟨by rfl, ?_⟩) (by assumption) ?_
  rotate_left
  · (intro wS hSw; go_simp; try with_reducible rfl)
  try simp only [Act.put, List.setIfInBounds_toArray, List.set_cons_zero, List.set_cons_succ]
  refine takeL 24 (v := ?_) rfl (by kernel_rfl) (by kernel_rfl) (by kernel_rfl) (fun _ _ _ h => h) (Or.inl ⟨by rfl, ?_⟩) (by assumption) ?_
  rotate_left
  · (intro wS hSw; go_simp; try with_reducible rfl)
  try simp only [Act.put, List.setIfInBounds_toArray, List.set_cons_zero, List.set_cons_succ]
  refine takeL 25 (v := ?_) rfl (by kernel_rfl) (by kernel_rfl) (by kernel_rfl) (fun _ _ _ h => h) (Or.inl ⟨by rfl, ?_⟩) (by assumption) ?_
  rotate_left
  · (intro wS hSw; go_simp; try with_reducible rfl)
  try simp only [Act.put, List.setIfInBounds_toArray, List.set_cons_zero, List.set_cons_succ]
  refine stepL 26 rfl (by kernel_rfl) (fun K hK => ?_)
  go_simp
  (refine (full_any 2 _).mono ?_; rintro e w8 ⟨rfl, hk8, hr8, hl8⟩; have hcv2 := conv64 w7.heap.size 64 (rep64 2) (rep64_len _) w8 hr8)
  go_wp2_with fail
  refine hK.out _ _ (WS.next hHeld hk8) (fun hHeld => ?_)
  clear hK K
  try simp only [Act.put, List.setIfInBounds_toArray, List.set_cons_zero, List.set_cons_succ]
  refine stepL 27 rfl (by kernel_rfl) (fun K hK => ?_)
  go_simp
  refine hK.out _ _ (hHeld) (fun hHeld => ?_)
  clear hK K
  try simp only [Act.put, List.setIfInBounds_toArray, List.set_cons_zero, List.set_cons_succ]
  refine takeL 28 (v := ?_) rfl (by kernel_rfl) (by kernel_rfl) (by kernel_rfl) (fun _ _ _ h => h) (Or.inl ⟨by rfl, ?_⟩) (by assumption) ?_
  rotate_left
  · (intro wS hSw; go_simp; try with_reducible rfl)
  try simp only [Act.put, List.setIfInBounds_toArray, List.set_cons_zero, List.set_cons_succ]
  refine takeL 29 (v := ?_) rfl (by kernel_rfl) (by kernel_rfl) (by kernel_rfl) (fun _ _ _ h => h) (Or.inl ⟨by rfl, ?_⟩) (by assumption) ?_
  rotate_left
  · (intro wS hSw; go_simp; try with_reducible rfl)
  try simp only [Act.put, List.setIfInBounds_toArray, List.set_cons_zero, List.set_cons_succ]
  refine takeL 30 (v := ?_) rfl (by kernel_rfl) (by kernel_rfl) (by kernel_rfl) (fun _ _ _ h => h) (Or.inl ⟨by rfl, ?_⟩) (by assumption) ?_
  rotate_left
  · (intro wS hSw; go_simp; try with_reducible rfl)
  try simp only [Act.put, List.setIfInBounds_toArray, List.set_cons_zero, List.set_cons_succ]
  refine wpAnyH_done (by kernel_rfl) (NoPanic.normal ?_) _
  go_wp2
  go_ret
  exact ⟨rfl, hHeld.2.2⟩
end Go.Proofs.Ytoigepaanhjnfaa
