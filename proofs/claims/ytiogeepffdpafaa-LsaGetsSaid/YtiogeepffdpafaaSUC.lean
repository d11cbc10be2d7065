/- sums.Internet, walked. -/
import Derived.Test.YtiogeepffdpafaaSUB
namespace Go.Proofs.Ytiogeepffdpafaa
open Go.RowKit

theorem or_pair (x y : UInt8) : bits .or .u64 ((x.toNat : Int) * 256) (y.toNat : Int) = (x.toNat : Int) * 256 + y.toNat := by
  have hx := x.toNat_lt
  have hy := y.toNat_lt
  have h := u64_or_nat (x.toNat * 256) y.toNat (by omega) (by omega)
  rw [or_low] at h
  have e : ((x.toNat * 256 : Nat) : Int) = (x.toNat : Int) * 256 := by omega
  rw [e] at h
  refine h.trans ?_
  rw [Int.natCast_add, e]
theorem and_low (s : Nat) (h : s < 18446744073709551616) : bits .and .u64 (s : Int) 65535 = ((s % 65536 : Nat) : Int) := by
  have := u64_and_nat s 65535 h (by omega)
  rw [show (65535 : Nat) = 2 ^ 16 - 1 from rfl, Nat.and_two_pow_sub_one_eq_mod] at this
  exact this
theorem xor_ones (s : Nat) (h : s < 65536) : 65535 ^^^ s = 65535 - s := by
  apply Nat.eq_of_testBit_eq
  intro i
  have h1 := Nat.testBit_two_pow_sub_succ (x := s) (n := 16) h i
  have h2 := Nat.testBit_two_pow_sub_one 16 i
  rw [show 2 ^ 16 - (s + 1) = 65535 - s by omega] at h1
  rw [show 2 ^ 16 - 1 = 65535 from rfl] at h2
  rw [Nat.testBit_xor, h2, h1]
  by_cases hi : i < 16
  · simp [hi]
  · have hge : 16 ≤ i := by omega
    have : s.testBit i = false := Nat.testBit_lt_two_pow (Nat.lt_of_lt_of_le h (Nat.pow_le_pow_right (n := 2) (by omega) hge))
    simp [hi, this]
theorem not_low (s : Nat) (h : s < 65536) : bits .xor .u16 65535 (s : Int) = ((65535 - s : Nat) : Int) := by
  have := u16_xor_nat 65535 s (by omega) h
  rw [xor_ones s h] at this
  exact this
theorem isum_two (l : List UInt8) (j : Nat) (h : 2 * j + 1 < l.length) : isum true (l.take (2 * j + 2)) = isum true (l.take (2 * j)) + (l[2 * j].toNat * 256 + l[2 * j + 1].toNat) := by
  rw [List.take_succ_eq_append_getElem h, List.take_succ_eq_append_getElem (by omega), isum_snoc, isum_snoc]
  have h1 : (l.take (2 * j)).length = 2 * j := by simp; omega
  have p1 : par (l.take (2 * j)).length = true := by rw [h1]; unfold par; simp
  have p2 : par (l.take (2 * j) ++ [l[2 * j]]).length = false := by rw [List.length_append, h1]; unfold par; simp
  rw [p1, p2]; simp; omega
theorem isum_one (l : List UInt8) (j : Nat) (h : 2 * j + 1 = l.length) : isum true l = isum true (l.take (2 * j)) + l[2 * j].toNat * 256 := by
  have h1 : (l.take (2 * j)).length = 2 * j := by simp; omega
  have e : l = l.take (2 * j) ++ [l[2 * j]] := by rw [← List.take_succ_eq_append_getElem (by omega), h, List.take_length]
  have p1 : par (l.take (2 * j)).length = true := by rw [h1]; unfold par; simp
  conv => lhs; rw [e]
  rw [isum_snoc, p1]; simp

set_option maxRecDepth 100000 in
set_option maxHeartbeats 1000000 in
theorem suInternet_some (g o c : Nat) (l : List UInt8) (hl0 : 0 < l.length) (hl : l.length ≤ 1000000) (hc : l.length ≤ c) (w : World) (hr : Hid (w.rangeAt g o (l.map bv))) :
    Calls Try.prog 115 #[.slice (some ⟨g, o, none⟩) l.length c] w fun e w' => e = .returned (.int .u16 (inet l : Nat)) ∧ ∃ n, w' = w.drewN n := by
  go_enter Try.func115, Try.ntmps115
  go_wp2
  go_loopw [0, 3] (fun bw s wr => ∃ j a : Nat, 2 * j ≤ l.length ∧ Hid (2 * j < l.length → a = o + 2 * j) ∧ bw = .slice (some ⟨g, a, none⟩) (l.length - 2 * j) (c - 2 * j) ∧ s = .int .u64 (isum true (l.take (2 * j)) : Nat) ∧ Hid (∃ m, wr = w.drewN m)) (fun bw _ _ => match bw with | .slice _ n _ => n | _ => 0)
  case atStart => exact ⟨0, o, by omega, Lib.hid (fun _ => rfl), rfl, by simp [isum], Lib.hid ⟨0, rfl⟩⟩
  case round =>
    obtain ⟨j, a, hj, ha, rfl, rfl, hm⟩ := hrel
    have hsl := isum_le (l.take (2 * j)) true
    have hsl2 : isum true (l.take (2 * j)) ≤ 65280 * 1000000 := by
      have : (l.take (2 * j)).length ≤ 1000000 := by simp; omega
      omega
    have hrw : Hid (wr.rangeAt g o (l.map bv)) := by obtain ⟨m, rfl⟩ := hm.out; exact hr
    by_cases h2 : 2 * j + 1 < l.length
    · obtain rfl : a = o + 2 * j := ha.out (by omega)
      have c0 := drop_cell hrw.out (2 * j) (by omega)
      have c1 := drop_cell hrw.out (2 * j + 1) h2
      have hor := or_pair l[2 * j] l[2 * j + 1]
      have hs' := Lib.hid (isum_two l j h2)
      have hx := (l[2 * j]).toNat_lt
      have hy := (l[2 * j + 1]).toNat_lt
      obtain ⟨s, hs⟩ : ∃ s, s = isum true (l.take (2 * j)) := ⟨_, rfl⟩
      rw [← hs] at hs' hsl2 ⊢
      rw [show o + (2 * j + 1) = o + 2 * j + 1 by omega] at c1
      clear hs hsl
      go_wp2
      go_quiet (fail)
      go_wp2
      go_roundw
      case rel =>
        refine ⟨j + 1, if c - 2 * j = 2 then o + 2 * j else o + 2 * j + 2, by omega, Lib.hid (fun h => by rw [if_neg (by omega)]; omega), ?_, ?_, ?_⟩
        · rw [show l.length - 2 * (j + 1) = l.length - 2 * j - 2 by omega, show c - 2 * (j + 1) = c - 2 * j - 2 by omega]; split <;> rfl
        · rw [show 2 * (j + 1) = 2 * j + 2 by omega, hs'.out]; go_num
        · obtain ⟨m, rfl⟩ := hm.out; exact Lib.hid ⟨m + nq, by rw [World.drewN_drewN]⟩
      case measure => show l.length - 2 * j - 2 < l.length - 2 * j; omega
    · obtain ⟨s, hs⟩ : ∃ s, s = isum true l := ⟨_, rfl⟩
      have hfin : s ≤ 65280 * 1000000 := by have := isum_le l true; omega
      have hin : inet l = 65535 - cnorm s := by rw [hs]; rfl
      by_cases h1 : 2 * j + 1 = l.length
      · obtain rfl : a = o + 2 * j := ha.out (by omega)
        have c0 := drop_cell hrw.out (2 * j) (by omega)
        have hs1 := isum_one l j h1
        rw [← hs] at hs1
        have hx := (l[2 * j]).toNat_lt
        obtain ⟨s1, he⟩ : ∃ s1, s1 = isum true (l.take (2 * j)) := ⟨_, rfl⟩
        rw [← he] at hs1 hsl2 ⊢
        have hin' := Lib.hid hin
        clear he hsl hs hin ha hrw
        go_wp2
        go_loop [3] (fun sv => ∃ s1 : Nat, s1 ≤ 65280 * 1000000 ∧ sv = .int .u64 (s1 : Nat) ∧ Hid (inet l = 65535 - cnorm s1)) (fun sv => (intOf sv).toNat)
        case atStart => exact ⟨_, hfin, by first | rfl | (congr 1; omega), hin'⟩
        case round =>
          obtain ⟨s2, hs2, rfl, hc2⟩ := hrel
          by_cases hbig : 65536 ≤ s2
          · have hand := and_low s2 (by omega)
            have hc3 : Hid (inet l = 65535 - cnorm (s2 % 65536 + s2 / 65536)) := Lib.hid (by rw [cnorm_fold hbig]; exact hc2.out)
            go_wp2
            go_round
            case rel => exact ⟨s2 % 65536 + s2 / 65536, by omega, by go_num, hc3⟩
            case measure => simp [intOf]; omega
          · have hc3 : Hid (inet l = 65535 - s2) := Lib.hid (by rw [← cnorm_small (s := s2) (by omega)]; exact hc2.out)
            have hnot := not_low s2 (by omega)
            have hu2 : IntKind.u16.max = 65535 := rfl
            have hu : IntKind.u16.signed = false := rfl
            go_wp2
            go_ret
            obtain ⟨m, rfl⟩ := hm.out
            exact ⟨by rw [hc3.out]; rfl, _, rfl⟩
      · have hlen : l.length = 2 * j := by omega
        have hin' := Lib.hid hin
        have hsl3 : isum true (l.take (2 * j)) = s := by rw [hs, ← hlen, List.take_length]
        rw [hsl3]
        clear hs hsl hsl2 hsl3 hin ha hrw
        go_wp2
        go_loop [3] (fun sv => ∃ s1 : Nat, s1 ≤ 65280 * 1000000 ∧ sv = .int .u64 (s1 : Nat) ∧ Hid (inet l = 65535 - cnorm s1)) (fun sv => (intOf sv).toNat)
        case atStart => exact ⟨_, hfin, by first | rfl | (congr 1; omega), hin'⟩
        case round =>
          obtain ⟨s2, hs2, rfl, hc2⟩ := hrel
          by_cases hbig : 65536 ≤ s2
          · have hand := and_low s2 (by omega)
            have hc3 : Hid (inet l = 65535 - cnorm (s2 % 65536 + s2 / 65536)) := Lib.hid (by rw [cnorm_fold hbig]; exact hc2.out)
            go_wp2
            go_round
            case rel => exact ⟨s2 % 65536 + s2 / 65536, by omega, by go_num, hc3⟩
            case measure => simp [intOf]; omega
          · have hc3 : Hid (inet l = 65535 - s2) := Lib.hid (by rw [← cnorm_small (s := s2) (by omega)]; exact hc2.out)
            have hnot := not_low s2 (by omega)
            have hu2 : IntKind.u16.max = 65535 := rfl
            have hu : IntKind.u16.signed = false := rfl
            go_wp2
            go_ret
            obtain ⟨m, rfl⟩ := hm.out
            exact ⟨by rw [hc3.out]; rfl, _, rfl⟩
theorem suInternet_none (p : Option Addr) (c : Nat) (w : World) : Calls Try.prog 115 #[.slice p 0 c] w fun e w' => e = .returned (.int .u16 (inet [] : Nat)) ∧ ∃ n, w' = w.drewN n := by
  have hn := not_low 0 (by omega)
  have hu2 : IntKind.u16.max = 65535 := rfl
  have hu : IntKind.u16.signed = false := rfl
  have ha := and_low 0 (by omega)
  go_enter Try.func115, Try.ntmps115
  go_wp2
  go_loop [0, 3] (fun bw s => bw = .slice p 0 c ∧ s = .int .u64 0) (fun _ _ => 0)
  case atStart => exact ⟨rfl, rfl⟩
  case round =>
    obtain ⟨rfl, rfl⟩ := hrel
    go_wp2
    go_loop [3] (fun s => s = .int .u64 0) (fun _ => 0)
    case atStart => rfl
    case round =>
      obtain rfl := hrel
      go_wp2
      go_ret
      exact ⟨rfl, 0, rfl⟩
theorem suInternet_any (sl : Value) (l : List UInt8) (hl : l.length ≤ 1000000) (w : World) (h : Hid (BytesAt w sl l)) :
    Calls Try.prog 115 #[sl] w fun e w' => e = .returned (.int .u16 (inet l : Nat)) ∧ ∃ n, w' = w.drewN n := by
  obtain ⟨p, c, rfl, -, hc, hb⟩ := h.out
  cases l with
  | nil => exact suInternet_none p c w
  | cons x l =>
    obtain ⟨g, o, rfl, hr⟩ := hb (by simp)
    exact suInternet_some g o c (x :: l) (by simp) hl hc w (Lib.hid hr)
end Go.Proofs.Ytiogeepffdpafaa
