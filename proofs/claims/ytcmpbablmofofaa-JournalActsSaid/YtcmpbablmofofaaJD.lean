/- A slot, a frame. -/
import Derived.Test.YtcmpbablmofofaaJC
namespace Go.Proofs.Ytcmpbablmofofaa
open Go.RowKit

theorem slotAt_any (gen : Nat) (half : Value) (hg : gen < 18446744073709551616) (w : World) : Calls Try.prog 52 #[.agg #[.int .u64 gen, half]] w fun e w' => e = .returned (.int .i64 ((gen % 2 : Nat) : Int)) ∧ Keeps (fun _ => False) w w' := by
  go_enter Try.func52, Try.ntmps52
  go_wp2
  go_ret
  exact ⟨rfl, (Keeps.refl _ _).alloc _⟩

def ways : List UInt8 := [87, 65, 89, 83]
def slotHead (gen half : Nat) : List UInt8 := patch (patch (patch (noughts 64) 0 ways) 4 (be 8 gen)) 12 [UInt8.ofNat half]
def slotB (gen half : Nat) : List UInt8 := patch (slotHead gen half) 60 (be 4 (crc ((slotHead gen half).take 60)))

theorem slot1_len : (patch (noughts 64) 0 ways).length = 64 := by rw [patch_len]; exact noughts_len 64; rw [noughts_len]; decide
theorem slot2_len (gen : Nat) : (patch (patch (noughts 64) 0 ways) 4 (be 8 gen)).length = 64 := by rw [patch_len]; exact slot1_len; rw [slot1_len, be_len]; omega
theorem slotHead_len (gen half : Nat) : (slotHead gen half).length = 64 := by unfold slotHead; rw [patch_len]; exact slot2_len gen; rw [slot2_len]; simp
theorem slotB_len (gen half : Nat) : (slotB gen half).length = 64 := by unfold slotB; rw [patch_len]; exact slotHead_len gen half; rw [slotHead_len, be_len]; omega
set_option maxRecDepth 100000 in
theorem sector_any (gen half : Nat) (hg : gen < 18446744073709551616) (hh : half ≤ 1) (w : World) : Calls Try.prog 54 #[.agg #[.int .u64 gen, .int .i64 half]] w (NewBuf (slotB gen half) w) := by
  obtain ⟨i0, hi0, hz0, hz1, hz2⟩ := info_parts u8InfoAll
  have hz2' := Lib.hid hz2; clear hz2
  have len1 := slot1_len
  have len2 := slot2_len gen
  have len3 := slotHead_len gen half
  have l1 := Lib.hid len1
  have l2 := Lib.hid len2
  have l3 := Lib.hid len3
  clear len1 len2 len3
  go_enter Try.func54, Try.ntmps54
  go_wp2_with (first | (at_make; refine wpList_make_full _ rfl (.const (.int .i64 64)) (.const (.int .i64 64)) 27 rfl 0 5 i0 (.int .u8 0) 1 Try.underlying27 hi0 hz0 hz1 .i64 .i64 64 64 64 rfl rfl rfl rfl ?c1 ?c2 ?c3 ?_; rotate_right; intro w1 ho1 hg1; have hB1 : Hid (BufAt w1 (w.heap.size + 1) (noughts 64)) := Lib.hid (made_noughts1 ho1); clear ho1; have hK1 := Lib.hid (Keeps.grown (Keeps.refl (fun _ => False) _) hg1 (fun k e => by cases e)); clear hg1; obtain ⟨p0, p1⟩ := param2 hK1.out) | ((with_reducible refine at_slot 6 ?_); refine wpList_copy_str rfl (.tmp 5) (.const _) 27 9 rfl 5 Try.underlying27 u8Info (w.heap.size + 1) 0 64 64 _ rfl rfl (noughts 64) ways rfl (by decide) hB1.out (by rw [noughts_len]; decide) ?_; intro w2 hL2; have q0 := hL2.out.other p0 (ne_succ _); have q1 := hL2.out.other p1 (ne_succ _); clear p0 p1))
  case c1 => rw [hz2'.out]; decide
  case c2 => unfold maxLen; omega
  case c3 => exact Nat.zero_le _
  have hcell := PC.cell (b := w.heap.size) (v := .int .u64 gen)
  refine wp_region_noPanic ?_
  refine wp_region_held_drew (S := (PC w.heap.size (.int .u64 gen))) (by kernel_rfl) (q0) (fun hHeld => ?_)
  refine tk 0 rfl ?_
  refine tk 2 rfl ?_
  refine tk 1 rfl ?_
  refine tk 3 rfl ?_
  refine stepL 4 rfl (by kernel_rfl) (fun K hK => ?_)
  go_simp
  (refine (lay64_any (w.heap.size + 1) 4 60 _ gen hg w2.drew (by rw [l1.out]; omega) (Lib.hid hL2.out.1)).mono ?_; rintro e w3 ⟨rfl, hL3⟩; have r0 := hL3.other q0 (ne_succ _); have r1 := hL3.other q1 (ne_succ _); clear q0 q1; have hL3' := Lib.hid hL3; clear hL3)
  go_wp2_with fail
  refine hK.out _ _ (r0) (fun hHeld => ?_)
  clear hK K
  try simp only [Act.put, sA, sZ, sS]
  refine wpAnyH_done (by kernel_rfl) (NoPanic.normal ?_) _
  have hc := hL3'.out.1.cell 12 (by rw [l2.out]; omega)
  have hf := hL3'.out.1.frozen 12
  generalize (patch (patch (noughts 64) 0 ways) 4 (be 8 gen))[12]'(by rw [l2.out]; omega) = y at hc
  clear hcell hHeld
  go_wp2_with fail
  obtain ⟨W4, hW4⟩ : ∃ W4, W4 = w3.setCell ⟨w.heap.size + 1, 12, none⟩ (.int .u8 half) := ⟨_, rfl⟩
  rw [← hW4]
  have hB4 : BufAt W4 (w.heap.size + 1) (slotHead gen half) := by
    have h1 := hL3'.out.1.set 12 (UInt8.ofNat half)
    rw [← patch_one _ _ _ (by rw [l2.out]; omega)] at h1
    rw [hW4]
    have e : Value.int .u8 half = bv (UInt8.ofNat half) := by unfold bv; congr 1; simp; omega
    rw [e]; exact h1
  have hK4 : Keeps (fun _ => False) w W4 := by
    have k1 := ((Keeps.refl (fun _ => False) w).alloc _).trans hK1.out
    have k2 := (k1.trans' hL2.out.2 (fun i e => .inr (by rw [e]; omega))).drew.trans' hL3'.out.2 (fun i e => .inr (by rw [e]; omega))
    rw [hW4]
    exact k2.setCell (p := ⟨w.heap.size + 1, 12, none⟩) (.inr (Nat.le_succ _)) _
  clear hW4 hc hf r0 r1
  have hcr : crc ((slotHead gen half).take 60) < 4294967296 := xor_lt32 (by unfold ones; omega) (crcGrow_lt _ (by unfold ones; omega))
  have hcr' := Lib.hid hcr; clear hcr
  have hbt := hB4.bytes 0 60 64 (by simp [l3.out]) (by omega)
  have hbt' := Lib.hid hbt; clear hbt
  refine wp_region_noPanic ?_
  refine wp_region_held_drew (S := (fun _ => True)) (by kernel_rfl) (trivial) (fun hHeld => ?_)
  refine tk 0 rfl ?_
  refine tk 1 rfl ?_
  refine tk 2 rfl ?_
  refine tk 3 rfl ?_
  refine stepL 4 rfl (by kernel_rfl) (fun K hK => ?_)
  go_simp
  (refine (crc_any _ ((slotHead gen half).take 60) (by simp; omega) W4.drew (Lib.hid hbt'.out)).mono ?_; rintro e w' ⟨rfl, rfl⟩)
  go_wp2_with fail
  refine hK.out _ _ (trivial) (fun hHeld => ?_)
  clear hK K
  try simp only [Act.put, sA, sZ, sS]
  refine stepL 5 rfl (by kernel_rfl) (fun K hK => ?_)
  go_simp
  (refine (lay32_any (w.heap.size + 1) 60 4 _ _ hcr'.out W4.drew (by rw [l3.out]; omega) (Lib.hid hB4)).mono ?_; rintro e w5 ⟨rfl, hL5⟩; have hL5' := Lib.hid hL5; clear hL5)
  go_wp2_with fail
  refine hK.out _ _ (trivial) (fun hHeld => ?_)
  clear hK K
  try simp only [Act.put, sA, sZ, sS]
  refine wpAnyH_done (by kernel_rfl) (NoPanic.normal ?_) _
  go_wp2_with fail
  go_ret
  have hn : (slotB gen half).length = 64 := slotB_len gen half
  refine ⟨w.heap.size + 1, by rw [hn]; rfl, by omega, hL5'.out.1, hK4.drew.trans' hL5'.out.2 (fun i e => .inr (by rw [e]; omega))⟩
end Go.Proofs.Ytcmpbablmofofaa
