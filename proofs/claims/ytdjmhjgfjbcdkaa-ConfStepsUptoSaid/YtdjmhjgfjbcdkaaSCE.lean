/- schema.Net, walked. -/
import Derived.Test.YtdjmhjgfjbcdkaaSCD
namespace Go.Proofs.Ytdjmhjgfjbcdkaa
open Go.RowKit

theorem addr_none (s : ByteArray) (w : World) (hs : s.size ≤ 9223372036854775807) (h : Hid (addrL s.data.toList = none)) :
    Calls Try.prog 58 #[.string s] w fun e w' => e = .returned (.tuple #[.int .u32 0, .bool false]) ∧ ∃ m, w' = w.drewN m := addr_r s none w hs h
theorem addr_some (s : ByteArray) (n : Nat) (w : World) (hs : s.size ≤ 9223372036854775807) (h : Hid (addrL s.data.toList = some n)) :
    Calls Try.prog 58 #[.string s] w fun e w' => e = .returned (.tuple #[.int .u32 (n : Nat), .bool true]) ∧ ∃ m, w' = w.drewN m := addr_r s (some n) w hs h
def netRes : Option (Nat × Nat) → Value
  | some (a, n) => .tuple #[.int .u32 (a : Nat), .int .i64 (n : Nat), .bool true]
  | none => .tuple #[.int .u32 0, .int .i64 0, .bool false]
theorem addrL_nil : addrL [] = none := by rw [addrL_eq]; rfl
theorem decL_nil : decL [] = none := by decide

set_option maxRecDepth 100000 in
set_option maxHeartbeats 1000000 in
theorem net_r (s : ByteArray) (r : Option (Nat × Nat)) (w : World) (hs : s.size ≤ 9223372036854775807) (hr : Hid (netL s.data.toList = r)) :
    Calls Try.prog 61 #[.string s] w fun e w' => e = .returned (netRes r) ∧ ∃ m, w' = w.drewN m := by
  have hn := hr.out
  unfold netL at hn
  by_cases hm : 47 ∈ s.data.toList
  · rw [if_pos hm] at hn
    obtain ⟨X, Y, hC, -, -⟩ := cutAt_ex hm
    rw [← hC.2.1, ← hC.2.2.1] at hn
    have hXs : X.size ≤ s.size := hC.2.2.2.1
    have hC' := Lib.hid hC; clear hC hm hr
    cases ha : addrL X.data.toList with
    | none =>
      rw [ha] at hn
      have ha' := Lib.hid ha; clear ha
      obtain rfl : r = none := by cases hd : decL Y.data.toList <;> rw [hd] at hn <;> exact hn.symm
      clear hn
      cases hd : decL Y.data.toList with
      | none =>
        have hd' := Lib.hid hd; clear hd
        go_enter Try.func61, Try.ntmps61
        go_wp2_with (first | (go_at_call 66; refine (stringsCut_at s 47 X Y _ (by omega) hC').mono ?_; rintro e w1 ⟨rfl, m1, rfl⟩) | (go_at_call 58; refine (addr_none X _ (by omega) ha').mono ?_; rintro e w2 ⟨rfl, m2, rfl⟩) | (go_at_call 62; refine (dec_none Y _ hd').mono ?_; rintro e w' ⟨rfl, rfl⟩))
        go_ret3
        exact ⟨rfl, m1 + m2, by simp⟩
      | some n =>
        have hd' := Lib.hid hd; clear hd
        go_enter Try.func61, Try.ntmps61
        go_wp2_with (first | (go_at_call 66; refine (stringsCut_at s 47 X Y _ (by omega) hC').mono ?_; rintro e w1 ⟨rfl, m1, rfl⟩) | (go_at_call 58; refine (addr_none X _ (by omega) ha').mono ?_; rintro e w2 ⟨rfl, m2, rfl⟩) | (go_at_call 62; refine (dec_some Y n _ hd').mono ?_; rintro e w' ⟨rfl, rfl⟩))
        go_ret3
        exact ⟨rfl, m1 + m2, by simp⟩
    | some a =>
      rw [ha] at hn
      have ha' := Lib.hid ha; clear ha
      cases hd : decL Y.data.toList with
      | none =>
        rw [hd] at hn
        obtain rfl : r = none := hn.symm
        have hd' := Lib.hid hd; clear hd hn
        go_enter Try.func61, Try.ntmps61
        go_wp2_with (first | (go_at_call 66; refine (stringsCut_at s 47 X Y _ (by omega) hC').mono ?_; rintro e w1 ⟨rfl, m1, rfl⟩) | (go_at_call 58; refine (addr_some X a _ (by omega) ha').mono ?_; rintro e w2 ⟨rfl, m2, rfl⟩) | (go_at_call 62; refine (dec_none Y _ hd').mono ?_; rintro e w' ⟨rfl, rfl⟩))
        go_ret3
        exact ⟨rfl, m1 + m2, by simp⟩
      | some n =>
        rw [hd] at hn
        simp only at hn
        have hd' := Lib.hid hd; clear hd
        by_cases h1 : 1 ≤ n
        · by_cases h2 : n ≤ 32
          · rw [if_pos ⟨h1, h2⟩] at hn
            obtain rfl : r = some (a, n) := hn.symm
            clear hn
            go_enter Try.func61, Try.ntmps61
            go_wp2_with (first | (go_at_call 66; refine (stringsCut_at s 47 X Y _ (by omega) hC').mono ?_; rintro e w1 ⟨rfl, m1, rfl⟩) | (go_at_call 58; refine (addr_some X a _ (by omega) ha').mono ?_; rintro e w2 ⟨rfl, m2, rfl⟩) | (go_at_call 62; refine (dec_some Y n _ hd').mono ?_; rintro e w' ⟨rfl, rfl⟩))
            go_ret3
            exact ⟨rfl, m1 + m2, by simp⟩
          · rw [if_neg (by omega)] at hn
            obtain rfl : r = none := hn.symm
            clear hn
            go_enter Try.func61, Try.ntmps61
            go_wp2_with (first | (go_at_call 66; refine (stringsCut_at s 47 X Y _ (by omega) hC').mono ?_; rintro e w1 ⟨rfl, m1, rfl⟩) | (go_at_call 58; refine (addr_some X a _ (by omega) ha').mono ?_; rintro e w2 ⟨rfl, m2, rfl⟩) | (go_at_call 62; refine (dec_some Y n _ hd').mono ?_; rintro e w' ⟨rfl, rfl⟩))
            go_ret3
            exact ⟨rfl, m1 + m2, by simp⟩
        · rw [if_neg (by omega)] at hn
          obtain rfl : r = none := hn.symm
          clear hn
          go_enter Try.func61, Try.ntmps61
          go_wp2_with (first | (go_at_call 66; refine (stringsCut_at s 47 X Y _ (by omega) hC').mono ?_; rintro e w1 ⟨rfl, m1, rfl⟩) | (go_at_call 58; refine (addr_some X a _ (by omega) ha').mono ?_; rintro e w2 ⟨rfl, m2, rfl⟩) | (go_at_call 62; refine (dec_some Y n _ hd').mono ?_; rintro e w' ⟨rfl, rfl⟩))
          go_ret3
          exact ⟨rfl, m1 + m2, by simp⟩
  · rw [if_neg hm] at hn
    obtain rfl : r = none := hn.symm
    have hm' := Lib.hid hm; clear hm hn hr
    have hd0 := Lib.hid (show decL (ByteArray.mk #[]).data.toList = none from decL_nil)
    cases ha : addrL s.data.toList with
    | none =>
      have ha' := Lib.hid ha; clear ha
      go_enter Try.func61, Try.ntmps61
      go_wp2_with (first | (go_at_call 66; refine (stringsCut_no s 47 _ hm').mono ?_; rintro e w' ⟨rfl, rfl⟩) | (go_at_call 58; refine (addr_none s _ hs ha').mono ?_; rintro e w2 ⟨rfl, m2, rfl⟩) | (go_at_call 62; refine (dec_none ⟨#[]⟩ _ hd0).mono ?_; rintro e w' ⟨rfl, rfl⟩))
      go_ret3
      exact ⟨rfl, m2, by simp⟩
    | some a =>
      have ha' := Lib.hid ha; clear ha
      go_enter Try.func61, Try.ntmps61
      go_wp2_with (first | (go_at_call 66; refine (stringsCut_no s 47 _ hm').mono ?_; rintro e w' ⟨rfl, rfl⟩) | (go_at_call 58; refine (addr_some s a _ hs ha').mono ?_; rintro e w2 ⟨rfl, m2, rfl⟩) | (go_at_call 62; refine (dec_none ⟨#[]⟩ _ hd0).mono ?_; rintro e w' ⟨rfl, rfl⟩))
      go_ret3
      exact ⟨rfl, m2, by simp⟩
theorem net_none (s : ByteArray) (w : World) (hs : s.size ≤ 9223372036854775807) (h : Hid (netL s.data.toList = none)) :
    Calls Try.prog 61 #[.string s] w fun e w' => e = .returned (.tuple #[.int .u32 0, .int .i64 0, .bool false]) ∧ ∃ m, w' = w.drewN m := net_r s none w hs h
theorem net_some (s : ByteArray) (a n : Nat) (w : World) (hs : s.size ≤ 9223372036854775807) (h : Hid (netL s.data.toList = some (a, n))) :
    Calls Try.prog 61 #[.string s] w fun e w' => e = .returned (.tuple #[.int .u32 (a : Nat), .int .i64 (n : Nat), .bool true]) ∧ ∃ m, w' = w.drewN m := net_r s (some (a, n)) w hs h
end Go.Proofs.Ytdjmhjgfjbcdkaa
