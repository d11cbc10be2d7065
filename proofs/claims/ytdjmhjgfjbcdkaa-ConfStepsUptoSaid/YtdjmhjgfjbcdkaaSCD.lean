/- schema.Addr, schema.Net, walked. -/
import Derived.Test.YtdjmhjgfjbcdkaaSCC
namespace Go.Proofs.Ytdjmhjgfjbcdkaa
open Go.RowKit

theorem dec_none (s : ByteArray) (w : World) (h : Hid (decL s.data.toList = none)) :
    Calls Try.prog 62 #[.string s] w fun e w' => e = .returned (.tuple #[.int .i64 0, .bool false]) ∧ w = w' := dec_r s none w h
theorem dec_some (s : ByteArray) (n : Nat) (w : World) (h : Hid (decL s.data.toList = some n)) :
    Calls Try.prog 62 #[.string s] w fun e w' => e = .returned (.tuple #[.int .i64 (n : Nat), .bool true]) ∧ w = w' := dec_r s (some n) w h
theorem rDec_none (s : ByteArray) (w : World) (h : Hid (decL s.data.toList = none)) :
    Calls Try.prog 57 #[.string s] w fun e w' => e = .returned (.tuple #[.int .i64 0, .bool false]) ∧ w = w' := rDec_r s none w h
theorem rDec_some (s : ByteArray) (n : Nat) (w : World) (h : Hid (decL s.data.toList = some n)) :
    Calls Try.prog 57 #[.string s] w fun e w' => e = .returned (.tuple #[.int .i64 (n : Nat), .bool true]) ∧ w = w' := rDec_r s (some n) w h

def addrRes : Option Nat → Value
  | some n => .tuple #[.int .u32 (n : Nat), .bool true]
  | none => .tuple #[.int .u32 0, .bool false]
theorem or_low8 (m b : Nat) (h : b < 256) : (m * 256) ||| b = m * 256 + b := by
  have h := Nat.two_pow_add_eq_or_of_lt (i := 8) (b := b) h m
  rw [show (2 : Nat) ^ 8 * m = m * 256 by omega] at h
  exact h.symm

set_option maxRecDepth 100000 in
set_option maxHeartbeats 1000000 in
theorem addr_r (s : ByteArray) (r : Option Nat) (w : World) (hs : s.size ≤ 9223372036854775807) (hr : Hid (addrL s.data.toList = r)) :
    Calls Try.prog 58 #[.string s] w fun e w' => e = .returned (addrRes r) ∧ ∃ m, w' = w.drewN m := by
  go_enter Try.func58, Try.ntmps58
  go_wp2
  go_loopw [0, 4, 11] (fun sv nv iv wr => ∃ (R : ByteArray) (k n : Nat), k ≤ 4 ∧ sv = .string R ∧ nv = .int .u32 (n : Nat) ∧ iv = .int .i64 k ∧ R.size ≤ s.size ∧ Hid (n < 256 ^ k) ∧ Hid (addrGo (4 - k) n R.data.toList = r) ∧ Hid (∃ m, wr = w.drewN m)) (fun _ _ iv _ => 4 - (intOf iv).toNat)
  case atStart => exact ⟨s, 0, 0, by omega, rfl, rfl, rfl, by omega, Lib.hid (by simp), Lib.hid hr.out, Lib.hid ⟨0, rfl⟩⟩
  case round =>
    obtain ⟨R, k, n, hk, rfl, rfl, rfl, hRs, hn, hgo, hw⟩ := hrel
    by_cases hk4 : k < 4
    · obtain ⟨j, hj⟩ : ∃ j, 4 - k = j + 1 := ⟨3 - k, by omega⟩
      have hgo1 := hgo.out
      rw [hj] at hgo1
      have hn4 : n < 16777216 := by
        have h1 := hn.out
        have : 256 ^ k ≤ 256 ^ 3 := Nat.pow_le_pow_right (by omega) (by omega)
        omega
      by_cases hm : 46 ∈ R.data.toList
      · rw [addrGo_yes hm] at hgo1
        obtain ⟨X, Y, hC, -, -⟩ := cutAt_ex hm
        rw [← hC.2.1, ← hC.2.2.1] at hgo1
        have hYs : Y.size ≤ s.size := Nat.le_trans hC.2.2.2.2 hRs
        have hC' := Lib.hid hC; clear hC hm hgo
        cases hd : decL X.data.toList with
        | none =>
          have hd' := Lib.hid hd
          rw [hd] at hgo1
          have hr1 := Lib.hid hgo1; clear hgo1 hd hj
          go_wp2_with (first | (go_at_call 66; refine (stringsCut_at R 46 X Y _ (by omega) hC').mono ?_; rintro e w1 ⟨rfl, m1, rfl⟩) | (go_at_call 62; refine (dec_none X _ hd').mono ?_; rintro e w' ⟨rfl, rfl⟩))
          go_ret2
          exact ⟨by rw [← hr1.out]; rfl, by obtain ⟨m, hm⟩ := hw.out; exact ⟨m + m1, by rw [hm]; simp⟩⟩
        | some b =>
          have hd' := Lib.hid hd
          rw [hd] at hgo1
          simp only at hgo1
          have hb9 := decL_lt hd
          clear hd
          by_cases hb : b ≤ 255
          · by_cases hk3 : k < 3
            · rw [if_pos ⟨hb, by omega⟩] at hgo1
              have hg : Hid (addrGo (4 - (k + 1)) (n * 256 + b) Y.data.toList = r) := Lib.hid (by rw [show 4 - (k + 1) = j by omega]; exact hgo1)
              have hn' : Hid (n * 256 + b < 256 ^ (k + 1)) := Lib.hid (by have := hn.out; rw [Nat.pow_succ]; omega)
              clear hgo1 hj
              have hor := u32_or_nat (n * 256) b (by omega) (by omega)
              rw [or_low8 n b (by omega)] at hor
              have hor2 : bits .or .u32 ((n : Int) * 256) (b : Int) = ((n * 256 + b : Nat) : Int) := by rw [← hor]; push_cast; rfl
              clear hor
              have hor' := Lib.hid hor2; clear hor2
              have hk3' : decide ((k : Int) < 3) = true := by simp; omega
              go_wp2_with (first | (go_at_call 66; refine (stringsCut_at R 46 X Y _ (by omega) hC').mono ?_; rintro e w1 ⟨rfl, m1, rfl⟩) | (go_at_call 62; refine (dec_some X b _ hd').mono ?_; rintro e w' ⟨rfl, rfl⟩))
              all_goals exact ⟨⟨Y, k + 1, n * 256 + b, by omega, rfl, by rw [hor'.out], by go_num, hYs, hn', hg, by obtain ⟨m, hm⟩ := hw.out; exact Lib.hid ⟨m + m1, by rw [hm]; simp⟩⟩, by simp [intOf]; omega⟩
            · rw [if_neg (by omega)] at hgo1
              have hk3' : decide ((k : Int) < 3) = false := by simp; omega
              have hr1 := Lib.hid hgo1; clear hgo1 hj
              go_wp2_with (first | (go_at_call 66; refine (stringsCut_at R 46 X Y _ (by omega) hC').mono ?_; rintro e w1 ⟨rfl, m1, rfl⟩) | (go_at_call 62; refine (dec_some X b _ hd').mono ?_; rintro e w' ⟨rfl, rfl⟩))
              go_ret2
              exact ⟨by rw [← hr1.out]; rfl, by obtain ⟨m, hm⟩ := hw.out; exact ⟨m + m1, by rw [hm]; simp⟩⟩
          · rw [if_neg (by omega)] at hgo1
            have hr1 := Lib.hid hgo1; clear hgo1 hj
            go_wp2_with (first | (go_at_call 66; refine (stringsCut_at R 46 X Y _ (by omega) hC').mono ?_; rintro e w1 ⟨rfl, m1, rfl⟩) | (go_at_call 62; refine (dec_some X b _ hd').mono ?_; rintro e w' ⟨rfl, rfl⟩))
            go_ret2
            exact ⟨by rw [← hr1.out]; rfl, by obtain ⟨m, hm⟩ := hw.out; exact ⟨m + m1, by rw [hm]; simp⟩⟩
      · rw [addrGo_no hm] at hgo1
        have hm' := Lib.hid hm; clear hm hgo
        cases hd : decL R.data.toList with
        | none =>
          have hd' := Lib.hid hd
          rw [hd] at hgo1
          have hr1 := Lib.hid hgo1; clear hgo1 hd hj
          go_wp2_with (first | (go_at_call 66; refine (stringsCut_no R 46 _ hm').mono ?_; rintro e w' ⟨rfl, rfl⟩) | (go_at_call 62; refine (dec_none R _ hd').mono ?_; rintro e w' ⟨rfl, rfl⟩))
          go_ret2
          exact ⟨by rw [← hr1.out]; rfl, hw.out⟩
        | some b =>
          have hd' := Lib.hid hd
          rw [hd] at hgo1
          simp only at hgo1
          have hb9 := decL_lt hd
          clear hd
          by_cases hb : b ≤ 255
          · by_cases hk3 : k < 3
            · rw [if_neg (by omega)] at hgo1
              have hr1 := Lib.hid hgo1; clear hgo1 hj
              go_wp2_with (first | (go_at_call 66; refine (stringsCut_no R 46 _ hm').mono ?_; rintro e w' ⟨rfl, rfl⟩) | (go_at_call 62; refine (dec_some R b _ hd').mono ?_; rintro e w' ⟨rfl, rfl⟩))
              go_ret2
              exact ⟨by rw [← hr1.out]; rfl, hw.out⟩
            · obtain rfl : k = 3 := by omega
              obtain rfl : j = 0 := by omega
              rw [if_pos ⟨hb, rfl⟩] at hgo1
              have hg : Hid (addrGo (4 - (3 + 1)) (n * 256 + b) [] = r) := Lib.hid hgo1
              have hn' : Hid (n * 256 + b < 256 ^ (3 + 1)) := Lib.hid (by have := hn.out; rw [Nat.pow_succ]; omega)
              clear hgo1 hj
              have hor := u32_or_nat (n * 256) b (by omega) (by omega)
              rw [or_low8 n b (by omega)] at hor
              have hor2 : bits .or .u32 ((n : Int) * 256) (b : Int) = ((n * 256 + b : Nat) : Int) := by rw [← hor]; push_cast; rfl
              clear hor
              have hor' := Lib.hid hor2; clear hor2
              go_wp2_with (first | (go_at_call 66; refine (stringsCut_no R 46 _ hm').mono ?_; rintro e w' ⟨rfl, rfl⟩) | (go_at_call 62; refine (dec_some R b _ hd').mono ?_; rintro e w' ⟨rfl, rfl⟩))
              all_goals exact ⟨⟨_, 3 + 1, n * 256 + b, by omega, rfl, by rw [hor'.out], rfl, Nat.zero_le _, hn', hg, hw⟩, by simp [intOf]⟩
          · rw [if_neg (by omega)] at hgo1
            have hr1 := Lib.hid hgo1; clear hgo1 hj
            go_wp2_with (first | (go_at_call 66; refine (stringsCut_no R 46 _ hm').mono ?_; rintro e w' ⟨rfl, rfl⟩) | (go_at_call 62; refine (dec_some R b _ hd').mono ?_; rintro e w' ⟨rfl, rfl⟩))
            go_ret2
            exact ⟨by rw [← hr1.out]; rfl, hw.out⟩
    · obtain rfl : k = 4 := by omega
      have hr1 : Hid (some n = r) := Lib.hid hgo.out
      go_wp2
      go_ret2
      exact ⟨by rw [← hr1.out]; rfl, hw.out⟩
end Go.Proofs.Ytdjmhjgfjbcdkaa
