/- Bytes in a block of their own; numbers laid and read. -/
import Derived.Test.YtcmpbablmofofaaJB
namespace Go.Proofs.Ytcmpbablmofofaa
open Go.RowKit

set_option maxHeartbeats 1000000 in
theorem lay64_any (g o c : Nat) (x : List UInt8) (n : Nat) (hn : n < 18446744073709551616) (w : World) (ho : o + 8 ≤ x.length) (h : Hid (BufAt w g x)) :
    Calls Try.prog 70 #[.slice (some ⟨g, o, none⟩) 8 c, .int .u64 n] w fun e w' => e = .returned (.tuple #[]) ∧ Laid g o x (be 8 n) w w' := by
  go_enter Try.func70, Try.ntmps70
  go_wp2
  go_loopw [1, 4] (fun nv iv wr => ∃ j k : Nat, j + k = 8 ∧ nv = .int .u64 (n / 256 ^ k : Nat) ∧ iv = .int .i64 ((j : Int) - 1) ∧ Hid (Laid g (o + j) x (be k n) w wr)) (fun _ iv _ => (intOf iv + 1).toNat)
  case atStart => exact ⟨8, 0, rfl, by simp, by rfl, Lib.hid (Laid.start (o := o + 8) h.out n)⟩
  case round =>
    obtain ⟨j, k, hjk, rfl, rfl, hL⟩ := hrel
    cases j with
    | zero =>
      obtain rfl : k = 8 := by omega
      have hL' : Laid g o x (be 8 n) w wr := hL.out
      have hL2 := Lib.hid hL'; clear hL' hL
      go_wp2
      first | go_end0 | refine bodyPost_ret (results_none rfl _ _ _) rfl ?_
      exact ⟨rfl, hL2.out⟩
    | succ i =>
      have e1 : ((i + 1 : Nat) : Int) - 1 = i := by omega
      rw [e1]
      have hl : (patch x (o + (i + 1)) (be k n)).length = x.length := patch_len _ _ _ (by rw [be_len]; omega)
      have hc := hL.out.1.cell (o + i) (by rw [hl]; omega)
      have hf := hL.out.1.frozen (o + i)
      obtain ⟨y, hy⟩ : ∃ y, y = (patch x (o + (i + 1)) (be k n))[o + i]'(by rw [hl]; omega) := ⟨_, rfl⟩
      rw [← hy] at hc
      clear hy hl e1
      have hN := Lib.hid (hL.out.next (by omega)); clear hL
      have hd : n / 256 ^ (k + 1) = n / 256 ^ k / 256 := by rw [Nat.pow_succ, Nat.div_div_eq_div_mul]
      have hd' := Lib.hid hd; clear hd
      have hm : n / 256 ^ k < 18446744073709551616 := Nat.lt_of_le_of_lt (Nat.div_le_self ..) hn
      obtain ⟨m, hme⟩ : ∃ m, m = n / 256 ^ k := ⟨_, rfl⟩
      rw [← hme] at hm hN hd' ⊢
      clear hme
      go_wp2
      exact ⟨⟨i, k + 1, by omega, by rw [hd'.out]; go_num, by go_num, hN⟩, by simp [intOf]⟩

set_option maxHeartbeats 1000000 in
theorem lay32_any (g o c : Nat) (x : List UInt8) (n : Nat) (hn : n < 4294967296) (w : World) (ho : o + 4 ≤ x.length) (h : Hid (BufAt w g x)) :
    Calls Try.prog 71 #[.slice (some ⟨g, o, none⟩) 4 c, .int .u32 n] w fun e w' => e = .returned (.tuple #[]) ∧ Laid g o x (be 4 n) w w' := by
  go_enter Try.func71, Try.ntmps71
  go_wp2
  go_loopw [1, 4] (fun nv iv wr => ∃ j k : Nat, j + k = 4 ∧ nv = .int .u32 (n / 256 ^ k : Nat) ∧ iv = .int .i64 ((j : Int) - 1) ∧ Hid (Laid g (o + j) x (be k n) w wr)) (fun _ iv _ => (intOf iv + 1).toNat)
  case atStart => exact ⟨4, 0, rfl, by simp, by rfl, Lib.hid (Laid.start (o := o + 4) h.out n)⟩
  case round =>
    obtain ⟨j, k, hjk, rfl, rfl, hL⟩ := hrel
    cases j with
    | zero =>
      obtain rfl : k = 4 := by omega
      have hL' : Laid g o x (be 4 n) w wr := hL.out
      have hL2 := Lib.hid hL'; clear hL' hL
      go_wp2
      first | go_end0 | refine bodyPost_ret (results_none rfl _ _ _) rfl ?_
      exact ⟨rfl, hL2.out⟩
    | succ i =>
      have e1 : ((i + 1 : Nat) : Int) - 1 = i := by omega
      rw [e1]
      have hl : (patch x (o + (i + 1)) (be k n)).length = x.length := patch_len _ _ _ (by rw [be_len]; omega)
      have hc := hL.out.1.cell (o + i) (by rw [hl]; omega)
      have hf := hL.out.1.frozen (o + i)
      obtain ⟨y, hy⟩ : ∃ y, y = (patch x (o + (i + 1)) (be k n))[o + i]'(by rw [hl]; omega) := ⟨_, rfl⟩
      rw [← hy] at hc
      clear hy hl e1
      have hN := Lib.hid (hL.out.next (by omega)); clear hL
      have hd : n / 256 ^ (k + 1) = n / 256 ^ k / 256 := by rw [Nat.pow_succ, Nat.div_div_eq_div_mul]
      have hd' := Lib.hid hd; clear hd
      have hm : n / 256 ^ k < 4294967296 := Nat.lt_of_le_of_lt (Nat.div_le_self ..) hn
      obtain ⟨m, hme⟩ : ∃ m, m = n / 256 ^ k := ⟨_, rfl⟩
      rw [← hme] at hm hN hd' ⊢
      clear hme
      go_wp2
      exact ⟨⟨i, k + 1, by omega, by rw [hd'.out]; go_num, by go_num, hN⟩, by simp [intOf]⟩

set_option maxHeartbeats 1000000 in
theorem lay16_any (g o c : Nat) (x : List UInt8) (n : Nat) (hn : n < 65536) (w : World) (ho : o + 2 ≤ x.length) (h : Hid (BufAt w g x)) :
    Calls Try.prog 79 #[.slice (some ⟨g, o, none⟩) 2 c, .int .u16 n] w fun e w' => e = .returned (.tuple #[]) ∧ Laid g o x (be 2 n) w w' := by
  go_enter Try.func79, Try.ntmps79
  go_wp2
  go_loopw [1, 4] (fun nv iv wr => ∃ j k : Nat, j + k = 2 ∧ nv = .int .u16 (n / 256 ^ k : Nat) ∧ iv = .int .i64 ((j : Int) - 1) ∧ Hid (Laid g (o + j) x (be k n) w wr)) (fun _ iv _ => (intOf iv + 1).toNat)
  case atStart => exact ⟨2, 0, rfl, by simp, by rfl, Lib.hid (Laid.start (o := o + 2) h.out n)⟩
  case round =>
    obtain ⟨j, k, hjk, rfl, rfl, hL⟩ := hrel
    cases j with
    | zero =>
      obtain rfl : k = 2 := by omega
      have hL' : Laid g o x (be 2 n) w wr := hL.out
      have hL2 := Lib.hid hL'; clear hL' hL
      go_wp2
      first | go_end0 | refine bodyPost_ret (results_none rfl _ _ _) rfl ?_
      exact ⟨rfl, hL2.out⟩
    | succ i =>
      have e1 : ((i + 1 : Nat) : Int) - 1 = i := by omega
      rw [e1]
      have hl : (patch x (o + (i + 1)) (be k n)).length = x.length := patch_len _ _ _ (by rw [be_len]; omega)
      have hc := hL.out.1.cell (o + i) (by rw [hl]; omega)
      have hf := hL.out.1.frozen (o + i)
      obtain ⟨y, hy⟩ : ∃ y, y = (patch x (o + (i + 1)) (be k n))[o + i]'(by rw [hl]; omega) := ⟨_, rfl⟩
      rw [← hy] at hc
      clear hy hl e1
      have hN := Lib.hid (hL.out.next (by omega)); clear hL
      have hd : n / 256 ^ (k + 1) = n / 256 ^ k / 256 := by rw [Nat.pow_succ, Nat.div_div_eq_div_mul]
      have hd' := Lib.hid hd; clear hd
      have hm : n / 256 ^ k < 65536 := Nat.lt_of_le_of_lt (Nat.div_le_self ..) hn
      obtain ⟨m, hme⟩ : ∃ m, m = n / 256 ^ k := ⟨_, rfl⟩
      rw [← hme] at hm hN hd' ⊢
      clear hme
      go_wp2
      exact ⟨⟨i, k + 1, by omega, by rw [hd'.out]; go_num, by go_num, hN⟩, by simp [intOf]⟩

set_option maxHeartbeats 1000000 in
theorem read64_any (g o c : Nat) (l : List UInt8) (hl : l.length = 8) (w : World) (h : Hid (w.rangeAt g o (l.map bv))) :
    Calls Try.prog 74 #[.slice (some ⟨g, o, none⟩) 8 c] w fun e w' => e = .returned (.int .u64 (beVal l)) ∧ w = w' := by
  go_enter Try.func74, Try.ntmps74
  go_wp2
  go_loop [3, 8] (fun nv iv => ∃ k : Nat, k ≤ 8 ∧ nv = .int .u64 (beVal (l.take k) : Nat) ∧ iv = .int .i64 k) (fun _ iv => 8 - (intOf iv).toNat)
  case atStart => exact ⟨0, by omega, by simp [beVal], rfl⟩
  case round =>
    obtain ⟨k, hk, rfl, rfl⟩ := hrel
    by_cases hlk : k < 8
    · have hc : w.cell? ⟨g, o + k, none⟩ = some (.int .u8 (l[k]'(by omega)).toNat) := h.out k _ (by simp [show k < l.length by omega, bv])
      have hs : beVal (l.take (k + 1)) = beVal (l.take k) * 256 + (l[k]'(by omega)).toNat := by
        rw [List.take_succ_eq_append_getElem (by omega), beVal_snoc]
      have hs' := Lib.hid hs; clear hs
      have hm : beVal (l.take k) < 72057594037927936 := by
        have h1 := beVal_lt (l.take k)
        have h2 : (l.take k).length ≤ 7 := by simp; omega
        have h3 : 256 ^ (l.take k).length ≤ 256 ^ 7 := Nat.pow_le_pow_right (by omega) h2
        omega
      have hx := (l[k]'(by omega)).toNat_lt
      obtain ⟨m, hmm⟩ : ∃ m, m = beVal (l.take k) := ⟨_, rfl⟩
      rw [← hmm] at hm hs' ⊢
      clear hmm
      obtain ⟨x, hxe⟩ : ∃ x, x = (l[k]'(by omega)).toNat := ⟨_, rfl⟩
      rw [← hxe] at hc hs' hx
      have ho := or_low m l[k]
      rw [← hxe] at ho
      clear hxe
      have ho' := Lib.hid ho; clear ho
      go_wp2
      have hor := u64_or_nat (m * 256) x (by omega) (by omega)
      rw [ho'.out, show ((m * 256 : Nat) : Int) = (m : Int) * 256 by omega] at hor
      exact ⟨⟨k + 1, by omega, by rw [hor, hs'.out], by go_num⟩, by simp [intOf]; omega⟩
    · obtain rfl : k = 8 := by omega
      have e : l.take 8 = l := by rw [List.take_of_length_le (by omega)]
      rw [e]
      go_wp2
      go_ret
      exact ⟨rfl, rfl⟩
set_option maxHeartbeats 1000000 in
theorem read16_any (g o c : Nat) (l : List UInt8) (hl : l.length = 2) (w : World) (h : Hid (w.rangeAt g o (l.map bv))) :
    Calls Try.prog 78 #[.slice (some ⟨g, o, none⟩) 2 c] w fun e w' => e = .returned (.int .u16 (beVal l)) ∧ w = w' := by
  go_enter Try.func78, Try.ntmps78
  go_wp2
  go_loop [3, 8] (fun nv iv => ∃ k : Nat, k ≤ 2 ∧ nv = .int .u16 (beVal (l.take k) : Nat) ∧ iv = .int .i64 k) (fun _ iv => 2 - (intOf iv).toNat)
  case atStart => exact ⟨0, by omega, by simp [beVal], rfl⟩
  case round =>
    obtain ⟨k, hk, rfl, rfl⟩ := hrel
    by_cases hlk : k < 2
    · have hc : w.cell? ⟨g, o + k, none⟩ = some (.int .u8 (l[k]'(by omega)).toNat) := h.out k _ (by simp [show k < l.length by omega, bv])
      have hs : beVal (l.take (k + 1)) = beVal (l.take k) * 256 + (l[k]'(by omega)).toNat := by
        rw [List.take_succ_eq_append_getElem (by omega), beVal_snoc]
      have hs' := Lib.hid hs; clear hs
      have hm : beVal (l.take k) < 256 := by
        have h1 := beVal_lt (l.take k)
        have h2 : (l.take k).length ≤ 1 := by simp; omega
        have h3 : 256 ^ (l.take k).length ≤ 256 ^ 1 := Nat.pow_le_pow_right (by omega) h2
        omega
      have hx := (l[k]'(by omega)).toNat_lt
      obtain ⟨m, hmm⟩ : ∃ m, m = beVal (l.take k) := ⟨_, rfl⟩
      rw [← hmm] at hm hs' ⊢
      clear hmm
      obtain ⟨x, hxe⟩ : ∃ x, x = (l[k]'(by omega)).toNat := ⟨_, rfl⟩
      rw [← hxe] at hc hs' hx
      have ho := or_low m l[k]
      rw [← hxe] at ho
      clear hxe
      have ho' := Lib.hid ho; clear ho
      go_wp2
      have hor := u16_or_nat (m * 256) x (by omega) (by omega)
      rw [ho'.out, show ((m * 256 : Nat) : Int) = (m : Int) * 256 by omega] at hor
      exact ⟨⟨k + 1, by omega, by rw [hor, hs'.out], by go_num⟩, by simp [intOf]; omega⟩
    · obtain rfl : k = 2 := by omega
      have e : l.take 2 = l := by rw [List.take_of_length_le (by omega)]
      rw [e]
      go_wp2
      go_ret
      exact ⟨rfl, rfl⟩
end Go.Proofs.Ytcmpbablmofofaa
