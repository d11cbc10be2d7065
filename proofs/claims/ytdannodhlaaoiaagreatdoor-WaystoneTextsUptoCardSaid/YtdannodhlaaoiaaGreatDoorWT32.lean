/- Bytes in a block of their own; numbers laid and read. -/
import Derived.Test.YtdannodhlaaoiaaGreatDoorWT31
import Derived.Laws.Cover3
set_option linter.unusedVariables false
set_option linter.unusedSimpArgs false
namespace Go.Proofs.YtdannodhlaaoiaaGreatDoor
open Go.RowKit

set_option maxHeartbeats 1000000 in
theorem lay64_any (g o c : Nat) (x : List UInt8) (n : Nat) (hn : n < 18446744073709551616) (w : World) (ho : o + 8 ≤ x.length) (h : Hid (BufAt w g x)) :
    Calls Tryz.prog 81 #[.slice (some ⟨g, o, none⟩) 8 c, .int .u64 n] w fun e w' => e = .returned (.tuple #[]) ∧ Laid g o x (be 8 n) w w' := by
  go_enter Tryz.func81, Tryz.ntmps81
  go_wp2
  go_loopw [1, 4] (fun nv iv wr => ∃ j k : Nat, j + k = 8 ∧ nv = .int .u64 (n / 256 ^ k : Nat) ∧ iv = .int .i64 ((j : Int) - 1) ∧ Hid (Laid g (o + j) x (be k n) w wr)) (fun _ iv _ => (intOf iv + 1).toNat)
  case atStart => exact ⟨8, 0, rfl, by simp, by rfl, Lib.hid (Laid.start (o := o + 8) h.out n)⟩
  case round =>
    obtain ⟨j, k, hjk, rfl, rfl, hL⟩ := hrel
    cases j with
    | zero =>
      obtain rfl : k = 8 := by omega
      have hL' : Laid g o x (be 8 n) w wr := hL.out
      have hL2 := Lib.hid hL'; clear hL' hL
      go_wp2
      first | go_end0 | refine bodyPost_ret (results_none rfl _ _ _) rfl ?_
      exact ⟨rfl, hL2.out⟩
    | succ i =>
      have e1 : ((i + 1 : Nat) : Int) - 1 = i := by omega
      rw [e1]
      have hl : (patch x (o + (i + 1)) (be k n)).length = x.length := patch_len _ _ _ (by rw [be_len]; omega)
      have hc := hL.out.1.cell (o + i) (by rw [hl]; omega)
      have hf := hL.out.1.frozen (o + i)
      obtain ⟨y, hy⟩ : ∃ y, y = (patch x (o + (i + 1)) (be k n))[o + i]'(by rw [hl]; omega) := ⟨_, rfl⟩
      rw [← hy] at hc
      clear hy hl e1
      have hN := Lib.hid (hL.out.next (by omega)); clear hL
      have hd : n / 256 ^ (k + 1) = n / 256 ^ k / 256 := by rw [Nat.pow_succ, Nat.div_div_eq_div_mul]
      have hd' := Lib.hid hd; clear hd
      have hm : n / 256 ^ k < 18446744073709551616 := Nat.lt_of_le_of_lt (Nat.div_le_self ..) hn
      obtain ⟨m, hme⟩ : ∃ m, m = n / 256 ^ k := ⟨_, rfl⟩
      rw [← hme] at hm hN hd' ⊢
      clear hme
      go_wp2
      exact ⟨⟨i, k + 1, by omega, by rw [hd'.out]; go_num, by go_num, hN⟩, by simp [intOf]⟩

set_option maxHeartbeats 1000000 in
theorem lay32_any (g o c : Nat) (x : List UInt8) (n : Nat) (hn : n < 4294967296) (w : World) (ho : o + 4 ≤ x.length) (h : Hid (BufAt w g x)) :
    Calls Tryz.prog 82 #[.slice (some ⟨g, o, none⟩) 4 c, .int .u32 n] w fun e w' => e = .returned (.tuple #[]) ∧ Laid g o x (be 4 n) w w' := by
  go_enter Tryz.func82, Tryz.ntmps82
  go_wp2
  go_loopw [1, 4] (fun nv iv wr => ∃ j k : Nat, j + k = 4 ∧ nv = .int .u32 (n / 256 ^ k : Nat) ∧ iv = .int .i64 ((j : Int) - 1) ∧ Hid (Laid g (o + j) x (be k n) w wr)) (fun _ iv _ => (intOf iv + 1).toNat)
  case atStart => exact ⟨4, 0, rfl, by simp, by rfl, Lib.hid (Laid.start (o := o + 4) h.out n)⟩
  case round =>
    obtain ⟨j, k, hjk, rfl, rfl, hL⟩ := hrel
    cases j with
    | zero =>
      obtain rfl : k = 4 := by omega
      have hL' : Laid g o x (be 4 n) w wr := hL.out
      have hL2 := Lib.hid hL'; clear hL' hL
      go_wp2
      first | go_end0 | refine bodyPost_ret (results_none rfl _ _ _) rfl ?_
      exact ⟨rfl, hL2.out⟩
    | succ i =>
      have e1 : ((i + 1 : Nat) : Int) - 1 = i := by omega
      rw [e1]
      have hl : (patch x (o + (i + 1)) (be k n)).length = x.length := patch_len _ _ _ (by rw [be_len]; omega)
      have hc := hL.out.1.cell (o + i) (by rw [hl]; omega)
      have hf := hL.out.1.frozen (o + i)
      obtain ⟨y, hy⟩ : ∃ y, y = (patch x (o + (i + 1)) (be k n))[o + i]'(by rw [hl]; omega) := ⟨_, rfl⟩
      rw [← hy] at hc
      clear hy hl e1
      have hN := Lib.hid (hL.out.next (by omega)); clear hL
      have hd : n / 256 ^ (k + 1) = n / 256 ^ k / 256 := by rw [Nat.pow_succ, Nat.div_div_eq_div_mul]
      have hd' := Lib.hid hd; clear hd
      have hm : n / 256 ^ k < 4294967296 := Nat.lt_of_le_of_lt (Nat.div_le_self ..) hn
      obtain ⟨m, hme⟩ : ∃ m, m = n / 256 ^ k := ⟨_, rfl⟩
      rw [← hme] at hm hN hd' ⊢
      clear hme
      go_wp2
      exact ⟨⟨i, k + 1, by omega, by rw [hd'.out]; go_num, by go_num, hN⟩, by simp [intOf]⟩

set_option maxHeartbeats 1000000 in
theorem lay16_any (g o c : Nat) (x : List UInt8) (n : Nat) (hn : n < 65536) (w : World) (ho : o + 2 ≤ x.length) (h : Hid (BufAt w g x)) :
    Calls Tryz.prog 109 #[.slice (some ⟨g, o, none⟩) 2 c, .int .u16 n] w fun e w' => e = .returned (.tuple #[]) ∧ Laid g o x (be 2 n) w w' := by
  go_enter Tryz.func109, Tryz.ntmps109
  go_wp2
  go_loopw [1, 4] (fun nv iv wr => ∃ j k : Nat, j + k = 2 ∧ nv = .int .u16 (n / 256 ^ k : Nat) ∧ iv = .int .i64 ((j : Int) - 1) ∧ Hid (Laid g (o + j) x (be k n) w wr)) (fun _ iv _ => (intOf iv + 1).toNat)
  case atStart => exact ⟨2, 0, rfl, by simp, by rfl, Lib.hid (Laid.start (o := o + 2) h.out n)⟩
  case round =>
    obtain ⟨j, k, hjk, rfl, rfl, hL⟩ := hrel
    cases j with
    | zero =>
      obtain rfl : k = 2 := by omega
      have hL' : Laid g o x (be 2 n) w wr := hL.out
      have hL2 := Lib.hid hL'; clear hL' hL
      go_wp2
      first | go_end0 | refine bodyPost_ret (results_none rfl _ _ _) rfl ?_
      exact ⟨rfl, hL2.out⟩
    | succ i =>
      have e1 : ((i + 1 : Nat) : Int) - 1 = i := by omega
      rw [e1]
      have hl : (patch x (o + (i + 1)) (be k n)).length = x.length := patch_len _ _ _ (by rw [be_len]; omega)
      have hc := hL.out.1.cell (o + i) (by rw [hl]; omega)
      have hf := hL.out.1.frozen (o + i)
      obtain ⟨y, hy⟩ : ∃ y, y = (patch x (o + (i + 1)) (be k n))[o + i]'(by rw [hl]; omega) := ⟨_, rfl⟩
      rw [← hy] at hc
      clear hy hl e1
      have hN := Lib.hid (hL.out.next (by omega)); clear hL
      have hd : n / 256 ^ (k + 1) = n / 256 ^ k / 256 := by rw [Nat.pow_succ, Nat.div_div_eq_div_mul]
      have hd' := Lib.hid hd; clear hd
      have hm : n / 256 ^ k < 65536 := Nat.lt_of_le_of_lt (Nat.div_le_self ..) hn
      obtain ⟨m, hme⟩ : ∃ m, m = n / 256 ^ k := ⟨_, rfl⟩
      rw [← hme] at hm hN hd' ⊢
      clear hme
      go_wp2
      exact ⟨⟨i, k + 1, by omega, by rw [hd'.out]; go_num, by go_num, hN⟩, by simp [intOf]⟩

set_option maxHeartbeats 1000000 in
theorem read64_any (g o c : Nat) (l : List UInt8) (hl : l.length = 8) (w : World) (h : Hid (w.rangeAt g o (l.map bv))) :
    Calls Tryz.prog 104 #[.slice (some ⟨g, o, none⟩) 8 c] w fun e w' => e = .returned (.int .u64 (beVal l)) ∧ w = w' := by
  go_enter Tryz.func104, Tryz.ntmps104
  go_wp2
  go_loop [3, 8] (fun nv iv => ∃ k : Nat, k ≤ 8 ∧ nv = .int .u64 (beVal (l.take k) : Nat) ∧ iv = .int .i64 k) (fun _ iv => 8 - (intOf iv).toNat)
  case atStart => exact ⟨0, by omega, by simp [beVal], rfl⟩
  case round =>
    obtain ⟨k, hk, rfl, rfl⟩ := hrel
    by_cases hlk : k < 8
    · have hc : w.cell? ⟨g, o + k, none⟩ = some (.int .u8 (l[k]'(by omega)).toNat) := h.out k _ (by simp [show k < l.length by omega, bv])
      have hs : beVal (l.take (k + 1)) = beVal (l.take k) * 256 + (l[k]'(by omega)).toNat := by
        rw [List.take_succ_eq_append_getElem (by omega), beVal_snoc]
      have hs' := Lib.hid hs; clear hs
      have hm : beVal (l.take k) < 72057594037927936 := by
        have h1 := beVal_lt (l.take k)
        have h2 : (l.take k).length ≤ 7 := by simp; omega
        have h3 : 256 ^ (l.take k).length ≤ 256 ^ 7 := Nat.pow_le_pow_right (by omega) h2
        omega
      have hx := (l[k]'(by omega)).toNat_lt
      obtain ⟨m, hmm⟩ : ∃ m, m = beVal (l.take k) := ⟨_, rfl⟩
      rw [← hmm] at hm hs' ⊢
      clear hmm
      obtain ⟨x, hxe⟩ : ∃ x, x = (l[k]'(by omega)).toNat := ⟨_, rfl⟩
      rw [← hxe] at hc hs' hx
      have ho := or_low m l[k]
      rw [← hxe] at ho
      clear hxe
      have ho' := Lib.hid ho; clear ho
      go_wp2
      have hor := u64_or_nat (m * 256) x (by omega) (by omega)
      rw [ho'.out, show ((m * 256 : Nat) : Int) = (m : Int) * 256 by omega] at hor
      exact ⟨⟨k + 1, by omega, by rw [hor, hs'.out], by go_num⟩, by simp [intOf]; omega⟩
    · obtain rfl : k = 8 := by omega
      have e : l.take 8 = l := by rw [List.take_of_length_le (by omega)]
      rw [e]
      go_wp2
      go_ret
      exact ⟨rfl, rfl⟩
set_option maxHeartbeats 1000000 in
theorem read16_any (g o c : Nat) (l : List UInt8) (hl : l.length = 2) (w : World) (h : Hid (w.rangeAt g o (l.map bv))) :
    Calls Tryz.prog 110 #[.slice (some ⟨g, o, none⟩) 2 c] w fun e w' => e = .returned (.int .u16 (beVal l)) ∧ w = w' := by
  go_enter Tryz.func110, Tryz.ntmps110
  go_wp2
  go_loop [3, 8] (fun nv iv => ∃ k : Nat, k ≤ 2 ∧ nv = .int .u16 (beVal (l.take k) : Nat) ∧ iv = .int .i64 k) (fun _ iv => 2 - (intOf iv).toNat)
  case atStart => exact ⟨0, by omega, by simp [beVal], rfl⟩
  case round =>
    obtain ⟨k, hk, rfl, rfl⟩ := hrel
    by_cases hlk : k < 2
    · have hc : w.cell? ⟨g, o + k, none⟩ = some (.int .u8 (l[k]'(by omega)).toNat) := h.out k _ (by simp [show k < l.length by omega, bv])
      have hs : beVal (l.take (k + 1)) = beVal (l.take k) * 256 + (l[k]'(by omega)).toNat := by
        rw [List.take_succ_eq_append_getElem (by omega), beVal_snoc]
      have hs' := Lib.hid hs; clear hs
      have hm : beVal (l.take k) < 256 := by
        have h1 := beVal_lt (l.take k)
        have h2 : (l.take k).length ≤ 1 := by simp; omega
        have h3 : 256 ^ (l.take k).length ≤ 256 ^ 1 := Nat.pow_le_pow_right (by omega) h2
        omega
      have hx := (l[k]'(by omega)).toNat_lt
      obtain ⟨m, hmm⟩ : ∃ m, m = beVal (l.take k) := ⟨_, rfl⟩
      rw [← hmm] at hm hs' ⊢
      clear hmm
      obtain ⟨x, hxe⟩ : ∃ x, x = (l[k]'(by omega)).toNat := ⟨_, rfl⟩
      rw [← hxe] at hc hs' hx
      have ho := or_low m l[k]
      rw [← hxe] at ho
      clear hxe
      have ho' := Lib.hid ho; clear ho
      go_wp2
      have hor := u16_or_nat (m * 256) x (by omega) (by omega)
      rw [ho'.out, show ((m * 256 : Nat) : Int) = (m : Int) * 256 by omega] at hor
      exact ⟨⟨k + 1, by omega, by rw [hor, hs'.out], by go_num⟩, by simp [intOf]; omega⟩
    · obtain rfl : k = 2 := by omega
      have e : l.take 2 = l := by rw [List.take_of_length_le (by omega)]
      rw [e]
      go_wp2
      go_ret
      exact ⟨rfl, rfl⟩
end Go.Proofs.YtdannodhlaaoiaaGreatDoor
/- A slot, a frame. -/
namespace Go.Proofs.YtdannodhlaaoiaaGreatDoor
open Go.RowKit

theorem slotAt_any (gen : Nat) (half : Value) (hg : gen < 18446744073709551616) (w : World) : Calls Tryz.prog 35 #[.agg #[.int .u64 gen, half]] w fun e w' => e = .returned (.int .i64 ((gen % 2 : Nat) : Int)) ∧ Keeps (fun _ => False) w w' := by
  go_enter Tryz.func35, Tryz.ntmps35
  go_wp2
  go_ret
  exact ⟨rfl, (Keeps.refl _ _).alloc _⟩

def ways : List UInt8 := [87, 65, 89, 83]
def slotHead (gen half : Nat) : List UInt8 := patch (patch (patch (noughts 64) 0 ways) 4 (be 8 gen)) 12 [UInt8.ofNat half]
def slotB (gen half : Nat) : List UInt8 := patch (slotHead gen half) 60 (be 4 (crc ((slotHead gen half).take 60)))

theorem slot1_len : (patch (noughts 64) 0 ways).length = 64 := by rw [patch_len]; exact noughts_len 64; rw [noughts_len]; decide
theorem slot2_len (gen : Nat) : (patch (patch (noughts 64) 0 ways) 4 (be 8 gen)).length = 64 := by rw [patch_len]; exact slot1_len; rw [slot1_len, be_len]; omega
theorem slotHead_len (gen half : Nat) : (slotHead gen half).length = 64 := by unfold slotHead; rw [patch_len]; exact slot2_len gen; rw [slot2_len]; simp
theorem slotB_len (gen half : Nat) : (slotB gen half).length = 64 := by unfold slotB; rw [patch_len]; exact slotHead_len gen half; rw [slotHead_len, be_len]; omega
set_option maxRecDepth 100000 in
theorem sector_any (gen half : Nat) (hg : gen < 18446744073709551616) (hh : half ≤ 1) (w : World) : Calls Tryz.prog 37 #[.agg #[.int .u64 gen, .int .i64 half]] w (NewBuf (slotB gen half) w) := by
  obtain ⟨i0, hi0, hz0, hz1, hz2⟩ := info_parts u8InfoAll
  have hz2' := Lib.hid hz2; clear hz2
  have len1 := slot1_len
  have len2 := slot2_len gen
  have len3 := slotHead_len gen half
  have l1 := Lib.hid len1
  have l2 := Lib.hid len2
  have l3 := Lib.hid len3
  clear len1 len2 len3
  go_enter Tryz.func37, Tryz.ntmps37
  go_wp2_with (first | (at_make; refine wpList_make_full _ rfl (.const (.int .i64 64)) (.const (.int .i64 64)) 31 rfl 0 5 i0 (.int .u8 0) 1 Tryz.underlying31 hi0 hz0 hz1 .i64 .i64 64 64 64 rfl rfl rfl rfl ?c1 ?c2 ?c3 ?_; rotate_right; intro w1 ho1 hg1; have hB1 : Hid (BufAt w1 (w.heap.size + 1) (noughts 64)) := Lib.hid (made_noughts1 ho1); clear ho1; have hK1 := Lib.hid (Keeps.grown (Keeps.refl (fun _ => False) _) hg1 (fun k e => by cases e)); clear hg1; obtain ⟨p0, p1⟩ := param2 hK1.out) | ((with_reducible refine at_slot 6 ?_); refine wpList_copy_str rfl (.tmp 5) (.const _) 31 9 rfl 5 Tryz.underlying31 u8Info (w.heap.size + 1) 0 64 64 _ rfl rfl (noughts 64) ways rfl (by decide) hB1.out (by rw [noughts_len]; decide) ?_; intro w2 hL2; have q0 := hL2.out.other p0 (ne_succ _); have q1 := hL2.out.other p1 (ne_succ _); clear p0 p1))
  case c1 => rw [hz2'.out]; decide
  case c2 => unfold maxLen; omega
  case c3 => exact Nat.zero_le _
  have hcell := PC.cell (b := w.heap.size) (v := .int .u64 gen)
  refine wp_region_noPanic ?_
  refine wp_region_held_drew (S := (PC w.heap.size (.int .u64 gen))) (by kernel_rfl) (q0) (fun hHeld => ?_)
  refine tk 0 rfl ?_
  refine tk 2 rfl ?_
  refine tk 1 rfl ?_
  refine tk 3 rfl ?_
  refine stepL 4 rfl (by kernel_rfl) (fun K hK => ?_)
  go_simp
  (refine (lay64_any (w.heap.size + 1) 4 60 _ gen hg w2.drew (by rw [l1.out]; omega) (Lib.hid hL2.out.1)).mono ?_; rintro e w3 ⟨rfl, hL3⟩; have r0 := hL3.other q0 (ne_succ _); have r1 := hL3.other q1 (ne_succ _); clear q0 q1; have hL3' := Lib.hid hL3; clear hL3)
  go_wp2_with fail
  refine hK.out _ _ (r0) (fun hHeld => ?_)
  clear hK K
  try simp only [Act.put, sA, sZ, sS]
  refine wpAnyH_done (by kernel_rfl) (NoPanic.normal ?_) _
  have hc := hL3'.out.1.cell 12 (by rw [l2.out]; omega)
  have hf := hL3'.out.1.frozen 12
  generalize (patch (patch (noughts 64) 0 ways) 4 (be 8 gen))[12]'(by rw [l2.out]; omega) = y at hc
  clear hcell hHeld
  go_wp2_with fail
  obtain ⟨W4, hW4⟩ : ∃ W4, W4 = w3.setCell ⟨w.heap.size + 1, 12, none⟩ (.int .u8 half) := ⟨_, rfl⟩
  rw [← hW4]
  have hB4 : BufAt W4 (w.heap.size + 1) (slotHead gen half) := by
    have h1 := hL3'.out.1.set 12 (UInt8.ofNat half)
    rw [← patch_one _ _ _ (by rw [l2.out]; omega)] at h1
    rw [hW4]
    have e : Value.int .u8 half = bv (UInt8.ofNat half) := by unfold bv; congr 1; simp; omega
    rw [e]; exact h1
  have hK4 : Keeps (fun _ => False) w W4 := by
    have k1 := ((Keeps.refl (fun _ => False) w).alloc _).trans hK1.out
    have k2 := (k1.trans' hL2.out.2 (fun i e => .inr (by rw [e]; omega))).drew.trans' hL3'.out.2 (fun i e => .inr (by rw [e]; omega))
    rw [hW4]
    exact k2.setCell (p := ⟨w.heap.size + 1, 12, none⟩) (.inr (Nat.le_succ _)) _
  clear hW4 hc hf r0 r1
  have hcr : crc ((slotHead gen half).take 60) < 4294967296 := xor_lt32 (by unfold ones; omega) (crcGrow_lt _ (by unfold ones; omega))
  have hcr' := Lib.hid hcr; clear hcr
  have hbt := hB4.bytes 0 60 64 (by simp [l3.out]) (by omega)
  have hbt' := Lib.hid hbt; clear hbt
  refine wp_region_noPanic ?_
  refine wp_region_held_drew (S := (fun _ => True)) (by kernel_rfl) (trivial) (fun hHeld => ?_)
  refine tk 0 rfl ?_
  refine tk 1 rfl ?_
  refine tk 2 rfl ?_
  refine tk 3 rfl ?_
  refine stepL 4 rfl (by kernel_rfl) (fun K hK => ?_)
  go_simp
  (refine (crc_any _ ((slotHead gen half).take 60) (by simp; omega) W4.drew (Lib.hid hbt'.out)).mono ?_; rintro e w' ⟨rfl, rfl⟩)
  go_wp2_with fail
  refine hK.out _ _ (trivial) (fun hHeld => ?_)
  clear hK K
  try simp only [Act.put, sA, sZ, sS]
  refine stepL 5 rfl (by kernel_rfl) (fun K hK => ?_)
  go_simp
  (refine (lay32_any (w.heap.size + 1) 60 4 _ _ hcr'.out W4.drew (by rw [l3.out]; omega) (Lib.hid hB4)).mono ?_; rintro e w5 ⟨rfl, hL5⟩; have hL5' := Lib.hid hL5; clear hL5)
  go_wp2_with fail
  refine hK.out _ _ (trivial) (fun hHeld => ?_)
  clear hK K
  try simp only [Act.put, sA, sZ, sS]
  refine wpAnyH_done (by kernel_rfl) (NoPanic.normal ?_) _
  go_wp2_with fail
  go_ret
  have hn : (slotB gen half).length = 64 := slotB_len gen half
  refine ⟨w.heap.size + 1, by rw [hn]; rfl, by omega, hL5'.out.1, hK4.drew.trans' hL5'.out.2 (fun i e => .inr (by rw [e]; omega))⟩
end Go.Proofs.YtdannodhlaaoiaaGreatDoor
/- A frame. -/
namespace Go.Proofs.YtdannodhlaaoiaaGreatDoor
open Go.RowKit

def lead1 : List UInt8 := patch (noughts 13) 0 [70]
def lead2 (gen : Nat) : List UInt8 := patch lead1 1 (be 8 gen)
def leadB (gen place : Nat) : List UInt8 := patch (lead2 gen) 9 (be 4 place)
theorem lead1_len : lead1.length = 13 := by unfold lead1; rw [patch_len]; exact noughts_len 13; rw [noughts_len]; simp
theorem lead2_len (gen : Nat) : (lead2 gen).length = 13 := by unfold lead2; rw [patch_len]; exact lead1_len; rw [lead1_len, be_len]; omega
theorem leadB_len (gen place : Nat) : (leadB gen place).length = 13 := by unfold leadB; rw [patch_len]; exact lead2_len gen; rw [lead2_len, be_len]; omega
set_option maxRecDepth 100000 in
theorem lead_any (gen place : Nat) (hg : gen < 18446744073709551616) (hp : place < 4294967296) (w : World) : Calls Tryz.prog 107 #[.int .u64 gen, .int .i64 place] w (NewBuf (leadB gen place) w) := by
  obtain ⟨i0, hi0, hz0, hz1, hz2⟩ := info_parts u8InfoAll
  have hz2' := Lib.hid hz2; clear hz2
  have l1 := Lib.hid lead1_len
  have l2 := Lib.hid (lead2_len gen)
  go_enter Tryz.func107, Tryz.ntmps107
  go_wp2_with (first | (at_make; refine wpList_make_full _ rfl (.const (.int .i64 13)) (.const (.int .i64 13)) 31 rfl 0 5 i0 (.int .u8 0) 1 Tryz.underlying31 hi0 hz0 hz1 .i64 .i64 13 13 13 rfl rfl rfl rfl ?c1 ?c2 ?c3 ?_; rotate_right; intro w1 ho1 hg1; have hB1 := Lib.hid (made_noughts ho1); clear ho1; have hK1 := Lib.hid (Keeps.grown (Keeps.refl (fun _ => False) _) hg1 (fun k e => by cases e)); clear hg1; have hc := hB1.out.cell 0 (by rw [noughts_len]; decide); have hf := hB1.out.frozen 0; have hL1 := Lib.hid (Laid.one hB1.out 0 70 (by rw [noughts_len]; decide)); generalize (noughts 13)[0]'(by rw [noughts_len]; decide) = y at hc) | (go_at_call 81; refine (lay64_any w.heap.size 1 12 lead1 gen hg _ (by rw [l1.out]; omega) (Lib.hid hL1.out.1)).mono ?_; rintro e w3 ⟨rfl, hL3⟩; have hL3' := Lib.hid hL3; clear hL3) | (go_at_call 82; refine (lay32_any w.heap.size 9 4 (lead2 gen) place hp _ (by rw [l2.out]; omega) (Lib.hid hL3'.out.1)).mono ?_; rintro e w4 ⟨rfl, hL4⟩; have hL4' := Lib.hid hL4; clear hL4))
  case c1 => rw [hz2'.out]; decide
  case c2 => unfold maxLen; omega
  case c3 => exact Nat.zero_le _
  go_ret
  have hn : (leadB gen place).length = 13 := leadB_len gen place
  exact ⟨w.heap.size, by rw [hn]; rfl, Nat.le_refl _, hL4'.out.1, ((hK1.out.laid hL1.out (Nat.le_refl _)).laid hL3'.out (Nat.le_refl _)).laid hL4'.out (Nat.le_refl _)⟩

def frame1 (gen place n : Nat) : List UInt8 := patch (noughts (takes n * 64)) 0 (leadB gen place)
def frame2 (gen place n : Nat) : List UInt8 := patch (frame1 gen place n) 13 (be 2 n)
def frame3 (gen place : Nat) (e : List UInt8) : List UInt8 := patch (frame2 gen place e.length) 19 e
def frameB (gen place : Nat) (e : List UInt8) : List UInt8 := patch (frame3 gen place e) 15 (be 4 (crc ((frame3 gen place e).take 15 ++ e)))
theorem takes_ge (n : Nat) : n + 19 ≤ takes n * 64 := by unfold takes; omega
theorem frame1_len (gen place n : Nat) : (frame1 gen place n).length = takes n * 64 := by
  have := takes_ge n
  unfold frame1; rw [patch_len]; exact noughts_len _; rw [noughts_len, leadB_len]; omega
theorem frame2_len (gen place n : Nat) : (frame2 gen place n).length = takes n * 64 := by
  have := takes_ge n
  unfold frame2; rw [patch_len]; exact frame1_len ..; rw [frame1_len, be_len]; omega
theorem frame3_len (gen place : Nat) (e : List UInt8) : (frame3 gen place e).length = takes e.length * 64 := by
  have := takes_ge e.length
  unfold frame3; rw [patch_len]; exact frame2_len ..; rw [frame2_len]; omega
theorem frameB_len (gen place : Nat) (e : List UInt8) : (frameB gen place e).length = takes e.length * 64 := by
  have := takes_ge e.length
  unfold frameB; rw [patch_len]; exact frame3_len ..; rw [frame3_len, be_len]; omega

set_option maxRecDepth 100000 in
set_option maxHeartbeats 2000000 in
theorem frame_any (gen place : Nat) (hg : gen < 18446744073709551616) (hp : place < 4294967296) (ev : Value) (e : List UInt8) (h1 : 1 ≤ e.length) (h2 : e.length ≤ 8192) (w : World) (he : BytesAt w ev e) :
    Calls Tryz.prog 85 #[.int .u64 gen, .int .i64 place, ev] w (NewBuf (frameB gen place e) w) := by
  obtain ⟨i0, hi0, hz0, hz1, hz2⟩ := info_parts u8InfoAll
  have hz2' := Lib.hid hz2; clear hz2
  obtain ⟨p, c, rfl, hp0, hpc, hpe⟩ := he
  obtain ⟨eb, eo, rfl, hr⟩ := hpe h1
  have he' := Lib.hid (show BytesAt w (.slice (some ⟨eb, eo, none⟩) e.length c) e from ⟨_, c, rfl, hp0, hpc, hpe⟩)
  have hr' := Lib.hid hr
  clear hpe hr
  have hT := takes_ge e.length
  have hT2 : takes e.length ≤ 129 := by unfold takes; omega
  obtain ⟨T, hTe⟩ : ∃ T, T = takes e.length := ⟨_, rfl⟩
  rw [← hTe] at hT hT2
  have l1 := frame1_len gen place e.length
  have l2 := frame2_len gen place e.length
  have l3 := frame3_len gen place e
  rw [← hTe] at l1 l2 l3
  have l1' := Lib.hid l1; clear l1
  have l2' := Lib.hid l2; clear l2
  have l3' := Lib.hid l3; clear l3
  have hTe' := Lib.hid hTe; clear hTe
  go_enter Tryz.func85, Tryz.ntmps85
  go_wp2_with (first | (go_at_call 41; refine (takes_any e.length (by omega) _).mono ?_; rintro e w' ⟨rfl, rfl⟩; rw [← hTe'.out]) | (at_make; refine wpList_make_full _ rfl _ _ 31 rfl 0 5 i0 (.int .u8 0) 1 Tryz.underlying31 hi0 hz0 hz1 .i64 .i64 ((T : Int) * 64) ((T : Int) * 64) (T * 64) rfl rfl (by omega) (by omega) ?c1 ?c2 ?c3 ?_; rotate_right; intro w1 ho1 hg1; have hB1 := Lib.hid (made_noughts ho1); clear ho1; have hK1 := Lib.hid (Keeps.grown (Keeps.refl (fun _ => False) _) hg1 (fun k e => by cases e)); clear hg1) | (go_at_call 107; refine (lead_any gen place hg hp _).mono ?_; rintro e w2 ⟨lb, rfl, hlb, hB2, hK2⟩; have hS2 := Lib.hid hB2.range; have hB2' := Lib.hid (hB1.out.keep hK2 id); have hK2' := Lib.hid (hK1.out.trans hK2); clear hK2 hB2) | ((with_reducible refine at_slot 17 ?_); refine wpList_copy_buf rfl (.tmp 13) (.tmp 16) 31 31 rfl 5 Tryz.underlying31 u8Info w.heap.size 0 (T * 64) (T * 64) lb 0 _ _ rfl rfl (noughts (T * 64)) (leadB gen place) rfl (by rw [leadB_len]; omega) hB2'.out (by rw [noughts_len, leadB_len]; omega) hS2.out ?_; intro w3 hL3; have hB3 := Lib.hid (show BufAt w3 w.heap.size (frame1 gen place e.length) by unfold frame1; rw [← hTe'.out]; exact hL3.out.1); have hK3 := Lib.hid (hK2'.out.laid hL3.out (Nat.le_refl _))) | (go_at_call 109; refine (lay16_any w.heap.size 13 _ (frame1 gen place e.length) e.length (by omega) _ (by rw [l1'.out]; omega) (Lib.hid hB3.out)).mono ?_; rintro e w4 ⟨rfl, hL4⟩; have hB4 := Lib.hid hL4.1; have hK4 := Lib.hid (hK3.out.laid hL4 (Nat.le_refl _)); clear hL4) | ((with_reducible refine at_slot 27 ?_); refine wpList_copy_buf rfl (.tmp 25) (.tmp 26) 31 31 rfl 5 Tryz.underlying31 u8Info w.heap.size 19 (T * 64 - 19) _ eb eo _ _ rfl rfl (frame2 gen place e.length) e rfl (by omega) hB4.out (by rw [l2'.out]; omega) (hK4.out.rangeAt hr'.out id) ?_; intro w5 hL5; have hB5 : Hid (BufAt w5 w.heap.size (frame3 gen place e)) := Lib.hid hL5.out.1; have hK5 := Lib.hid (hK4.out.laid hL5.out (Nat.le_refl _))))
  case c1 => rw [hz2'.out]; omega
  case c2 => unfold maxLen; omega
  case c3 => exact Nat.zero_le _
  have hcr1 : crcGrow ones ((frame3 gen place e).take 15) < 4294967296 := crcGrow_lt _ (by unfold ones; omega)
  have hcr : crc ((frame3 gen place e).take 15 ++ e) < 4294967296 := xor_lt32 (by unfold ones; omega) (crcGrow_lt _ (by unfold ones; omega))
  have hxr : bits .xor .u32 (4294967295 : Int) ((crcGrow (crcGrow ones ((frame3 gen place e).take 15)) e : Nat) : Int) = ((crc ((frame3 gen place e).take 15 ++ e) : Nat) : Int) := by
    unfold crc; rw [crcGrow_append]
    exact u32_xor_nat ones _ (by unfold ones; omega) (crcGrow_lt _ hcr1)
  have hcr' := Lib.hid hcr; clear hcr
  have hcr1' := Lib.hid hcr1; clear hcr1
  have hsg : IntKind.u32.signed = false := rfl
  have hmx : IntKind.u32.max = 4294967295 := rfl
  have hbt := hB5.out.bytes 0 15 (T * 64) (by simp [l3'.out]; omega) (by omega)
  have hbt' := Lib.hid hbt; clear hbt
  have he2 := Lib.hid (he'.out.keep hK5.out)
  have hs19 : (19 : Int) ≤ (T : Int) * 64 := by omega
  have hs15 : (15 : Int) ≤ (T : Int) * 64 := by omega
  have hne : ¬ T * 64 = 15 := by omega
  refine wp_region_noPanic ?_
  refine wp_region_held_drew (S := (fun _ => True)) (by kernel_rfl) (trivial) (fun hHeld => ?_)
  refine tk 0 rfl ?_
  refine tk 1 rfl ?_
  refine tk 2 rfl ?_
  refine tk 3 rfl ?_
  refine tk 5 rfl ?_
  refine stepL 4 rfl (by kernel_rfl) (fun K hK => ?_)
  go_simp
  (refine (growB ones (by unfold ones; omega) _ ((frame3 gen place e).take 15) (by simp; omega) w5.drew hbt'.out).mono ?_; rintro e w' ⟨rfl, rfl⟩)
  go_wp2_with fail
  refine hK.out _ _ (trivial) (fun hHeld => ?_)
  clear hK K
  try simp only [Act.put, sA, sZ, sS]
  refine stepL 6 rfl (by kernel_rfl) (fun K hK => ?_)
  go_simp
  (refine (growB _ hcr1'.out _ e (by omega) w5.drew he2.out).mono ?_; rintro e w' ⟨rfl, rfl⟩)
  go_wp2_with fail
  refine hK.out _ _ (trivial) (fun hHeld => ?_)
  clear hK K
  try simp only [Act.put, sA, sZ, sS]
  refine tk 7 rfl ?_
  refine stepL 8 rfl (by kernel_rfl) (fun K hK => ?_)
  go_simp
  (refine (lay32_any w.heap.size 15 (T * 64 - 15) (frame3 gen place e) _ hcr'.out w5.drew (by rw [l3'.out]; omega) (Lib.hid hB5.out)).mono ?_; rintro e w6 ⟨rfl, hL6⟩; have hL6' := Lib.hid hL6; clear hL6)
  go_wp2_with fail
  refine hK.out _ _ (trivial) (fun hHeld => ?_)
  clear hK K
  try simp only [Act.put, sA, sZ, sS]
  refine wpAnyH_done (by kernel_rfl) (NoPanic.normal ?_) _
  go_wp2_with fail
  go_ret
  have hn := frameB_len gen place e
  exact ⟨w.heap.size, by rw [hn, ← hTe'.out]; rfl, Nat.le_refl _, hL6'.out.1, hK5.out.drew.laid hL6'.out (Nat.le_refl _)⟩
end Go.Proofs.YtdannodhlaaoiaaGreatDoor
/- bytes.Equal, Clone, HasPrefix. -/
namespace Go.Proofs.YtdannodhlaaoiaaGreatDoor
open Go.RowKit

theorem bytesEqual_any (a b : Value) (x y : List UInt8) (w : World) (ha : BytesAt w a x) (hb : BytesAt w b y) (hx : 0 < x.length) (hy : 0 < y.length) :
    Calls Tryz.prog 105 #[a, b] w fun e w' => e = .returned (.bool (x == y)) ∧ w = w' := by
  have h1 := conv_bytes ha hx
  have h2 := conv_bytes hb hy
  clear ha hb
  go_enter Tryz.func105, Tryz.ntmps105
  go_wp2
  go_ret
  exact ⟨rfl, rfl⟩

set_option maxRecDepth 100000 in
theorem bytesHasPrefix_any (g o c : Nat) (b : Value) (x y : List UInt8) (w : World) (hr : w.rangeAt g o (x.map bv)) (hc : x.length ≤ c) (hb : BytesAt w b y) (hy : 0 < y.length) :
    Calls Tryz.prog 106 #[.slice (some ⟨g, o, none⟩) x.length c, b] w fun e w' => e = .returned (.bool (x.take y.length == y)) ∧ w = w' := by
  obtain ⟨q, d, rfl, hb0⟩ := hb
  have hb' := Lib.hid (show BytesAt w (.slice q y.length d) y from ⟨q, d, rfl, hb0⟩)
  clear hb0
  by_cases hle : y.length ≤ x.length
  · have hyc : y.length ≤ c := by omega
    have hl : (x.take y.length).length = y.length := by simp; omega
    have ha : BytesAt w (.slice (some ⟨g, o, none⟩) y.length c) (x.take y.length) := by
      refine ⟨some ⟨g, o, none⟩, c, by rw [hl], (fun e => by cases e), by rw [hl]; exact hyc, fun _ => ⟨g, o, rfl, fun j u hu => ?_⟩⟩
      rw [List.map_take, List.getElem?_take] at hu
      split at hu
      · exact hr j u hu
      · cases hu
    have ha' := Lib.hid ha; clear ha
    have hl' := Lib.hid hl; clear hl hr
    go_enter Tryz.func106, Tryz.ntmps106
    go_wp2_with (go_at_call 105; refine (bytesEqual_any _ _ (x.take y.length) y _ ha'.out hb'.out (by rw [hl'.out]; exact hy) hy).mono ?_; rintro e w' ⟨rfl, rfl⟩)
    go_ret
    exact ⟨rfl, rfl⟩
  · have hne : (x.take y.length == y) = false := by
      rw [beq_eq_false_iff_ne]
      intro e
      have := congrArg List.length e
      simp at this; omega
    go_enter Tryz.func106, Tryz.ntmps106
    go_wp2
    go_ret
    exact ⟨by rw [hne]; rfl, rfl⟩
set_option maxRecDepth 100000 in
theorem bytesClone_any (a : Value) (x : List UInt8) (w : World) (ha : BytesAt w a x) (hx : 0 < x.length) (hl : x.length ≤ 1000000) :
    Calls Tryz.prog 45 #[a] w fun e w' => ∃ v, e = .returned v ∧ OwnB w w' v x ∧ Keeps (fun _ => False) w w' := by
  obtain ⟨i0, hi0, hz0, hz1, hz2⟩ := info_parts u8InfoAll
  obtain ⟨p, c, rfl, -, -, ha⟩ := ha
  obtain ⟨g, o, rfl, hr⟩ := ha hx
  clear ha
  have hr' := Lib.hid hr; clear hr
  have he := eql_nil ⟨g, o, none⟩ x.length c w
  go_enter Tryz.func45, Tryz.ntmps45
  go_wp2_with ((with_reducible refine at_slot 7 ?_); refine wpList_append_sep rfl (.tmp 5) (.tmp 6) 31 rfl 5 i0 (.int .u8 0) 1 1 Tryz.underlying31 hi0 hz0 hz1 hz2 rfl (by decide) _ 0 [] rfl (owns_empty w) ⟨g, o, none⟩ x.length c (x.map bv) rfl (by simp) (fun j u hu => by rw [Addr.add_mid]; exact ((Keeps.refl (fun _ => False) w).alloc _).rangeAt hr'.out id j u hu) (bv_one x) (by unfold maxLen; omega) (by omega) ?_; intro q d w1 ho1 hg1 hs1; have ho := Lib.hid ho1; clear ho1; have hg := Lib.hid hg1; clear hg1)
  go_ret
  refine ⟨_, rfl, ⟨by simpa using ho.out, fun k hk => ?_, ?_⟩, Keeps.grown ((Keeps.refl _ _).alloc _) hg.out (fun k e => ?_)⟩
  · have hk' : (Value.slice q (0 + x.length) d).ownBlock = some k := by rw [Nat.zero_add]; exact hk
    rcases hs1.out k hk' with h | h
    · have h : some w.heap.size = some k := h
      injection h with h; omega
    · simp at h; omega
  · exact (Keeps.grown (F := fun _ => False) ((Keeps.refl _ _).alloc _) hg.out (fun k e => by
      have e : some w.heap.size = some k := e
      injection e with e; exact .inr (by omega))).size
  · have e : some w.heap.size = some k := e
    injection e with e; exact .inr (by omega)
end Go.Proofs.YtdannodhlaaoiaaGreatDoor
