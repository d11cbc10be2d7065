/- lex: the small functions, and Words, as the code has them. -/
import Derived.Test.YtdjmhjgfjbcdkaaLXA
import Derived.Test.YtdjmhjgfjbcdkaaS
import Derived.WalkLawsBesides
import Derived.Lib.Strings
namespace Go.Proofs.Ytdjmhjgfjbcdkaa
open Go.RowKit

theorem u8_eq (c : UInt8) (n : Nat) (hn : n < 256) : (c == UInt8.ofNat n) = decide (c.toNat = n) := by
  rw [Bool.eq_iff_iff]
  simp only [beq_iff_eq, decide_eq_true_eq]
  constructor
  · rintro rfl; simp; omega
  · rintro rfl; simp
theorem blank_dec (c : UInt8) : blankB c = decide (c.toNat = 32 ∨ c.toNat = 9 ∨ c.toNat = 10) := by
  unfold blankB
  rw [show (32 : UInt8) = UInt8.ofNat 32 from rfl, show (9 : UInt8) = UInt8.ofNat 9 from rfl, show (10 : UInt8) = UInt8.ofNat 10 from rfl, u8_eq _ _ (by omega), u8_eq _ _ (by omega), u8_eq _ _ (by omega)]
  simp [Bool.or_assoc]
theorem sign_dec (c : UInt8) : signB c = decide (c.toNat = 123 ∨ c.toNat = 125 ∨ c.toNat = 59) := by
  unfold signB
  rw [show (123 : UInt8) = UInt8.ofNat 123 from rfl, show (125 : UInt8) = UInt8.ofNat 125 from rfl, show (59 : UInt8) = UInt8.ofNat 59 from rfl, u8_eq _ _ (by omega), u8_eq _ _ (by omega), u8_eq _ _ (by omega)]
  simp [Bool.or_assoc]
theorem word_dec (c : UInt8) : wordB c = decide ((97 ≤ c.toNat ∧ c.toNat ≤ 122) ∨ (65 ≤ c.toNat ∧ c.toNat ≤ 90) ∨ (48 ≤ c.toNat ∧ c.toNat ≤ 57) ∨ c.toNat = 46 ∨ c.toNat = 47 ∨ c.toNat = 45 ∨ c.toNat = 95) := by
  have key : ∀ n : Nat, n < 256 → wordB (UInt8.ofNat n) = decide ((97 ≤ (UInt8.ofNat n).toNat ∧ (UInt8.ofNat n).toNat ≤ 122) ∨ (65 ≤ (UInt8.ofNat n).toNat ∧ (UInt8.ofNat n).toNat ≤ 90) ∨ (48 ≤ (UInt8.ofNat n).toNat ∧ (UInt8.ofNat n).toNat ≤ 57) ∨ (UInt8.ofNat n).toNat = 46 ∨ (UInt8.ofNat n).toNat = 47 ∨ (UInt8.ofNat n).toNat = 45 ∨ (UInt8.ofNat n).toNat = 95) := by decide +kernel
  have := key c.toNat c.toNat_lt
  rwa [UInt8.ofNat_toNat] at this

theorem fits_any (n : Int) (w : World) (h0 : 0 ≤ n) :
    Calls Try.prog 67 #[.int .i64 n] w fun e w' => e = .returned (.bool (decide (1 ≤ n ∧ n ≤ 31))) ∧ w = w' := by
  by_cases h1 : 1 ≤ n
  · by_cases h2 : n ≤ 31
    · have hr : decide (1 ≤ n ∧ n ≤ 31) = true := by simp; omega
      rw [hr]; clear hr
      go_enter Try.func67, Try.ntmps67
      go_wp2
      go_ret
      exact ⟨rfl, rfl⟩
    · have hr : decide (1 ≤ n ∧ n ≤ 31) = false := by simp; omega
      rw [hr]; clear hr
      go_enter Try.func67, Try.ntmps67
      go_wp2
      go_ret
      exact ⟨rfl, rfl⟩
  · obtain rfl : n = 0 := by omega
    go_enter Try.func67, Try.ntmps67
    go_wp2
    go_ret
    exact ⟨rfl, rfl⟩

def wordN (c : Nat) : Bool := decide ((97 ≤ c ∧ c ≤ 122) ∨ (65 ≤ c ∧ c ≤ 90) ∨ (48 ≤ c ∧ c ≤ 57) ∨ c = 46 ∨ c = 47 ∨ c = 45 ∨ c = 95)
theorem isOfWord_any (c : Nat) (w : World) (hc : c < 256) :
    Calls Try.prog 73 #[.int .u8 c] w fun e w' => e = .returned (.bool (wordN c)) ∧ w = w' := by
  rcases (show (97 ≤ c ∧ c ≤ 122) ∨ (65 ≤ c ∧ c ≤ 90) ∨ (48 ≤ c ∧ c ≤ 57) ∨ (c < 48 ∨ (57 < c ∧ c < 65) ∨ (90 < c ∧ c < 97) ∨ 122 < c) by omega) with ⟨h1, h2⟩ | ⟨h1, h2⟩ | ⟨h1, h2⟩ | h
  · have hr : wordN c = true := by unfold wordN; simp; omega
    rw [hr]; clear hr
    go_enter Try.func73, Try.ntmps73
    go_wp2
    go_ret
    exact ⟨rfl, rfl⟩
  · have hr : wordN c = true := by unfold wordN; simp; omega
    rw [hr]; clear hr
    go_enter Try.func73, Try.ntmps73
    go_wp2
    go_ret
    exact ⟨rfl, rfl⟩
  · have hr : wordN c = true := by unfold wordN; simp; omega
    rw [hr]; clear hr
    go_enter Try.func73, Try.ntmps73
    go_wp2
    go_ret
    exact ⟨rfl, rfl⟩
  · have hw : wordN c = decide (c = 46 ∨ c = 47 ∨ c = 45 ∨ c = 95) := by unfold wordN; rw [decide_eq_decide]; omega
    rw [hw]; clear hw
    rcases (show c = 46 ∨ c = 47 ∨ c = 45 ∨ c = 95 ∨ (c ≠ 46 ∧ c ≠ 47 ∧ c ≠ 45 ∧ c ≠ 95) by omega) with rfl | rfl | rfl | rfl | ⟨k1, k2, k3, k4⟩
    any_goals
      clear h
      go_enter Try.func73, Try.ntmps73
      go_wp2
      go_ret
      exact ⟨rfl, rfl⟩
    have d1 : ((c : Int) == 46) = false := by rw [beq_eq_false_iff_ne]; omega
    have d2 : ((c : Int) == 47) = false := by rw [beq_eq_false_iff_ne]; omega
    have d3 : ((c : Int) == 45) = false := by rw [beq_eq_false_iff_ne]; omega
    have d4 : ((c : Int) == 95) = false := by rw [beq_eq_false_iff_ne]; omega
    have hr : decide (c = 46 ∨ c = 47 ∨ c = 45 ∨ c = 95) = false := by simp; omega
    rw [hr]; clear hr k1 k2 k3 k4
    rcases h with h | ⟨h1, h2⟩ | ⟨h1, h2⟩ | h
    all_goals
      go_enter Try.func73, Try.ntmps73
      go_wp2
      go_ret
      exact ⟨rfl, rfl⟩

theorem wordN_eq (c : UInt8) : wordN c.toNat = wordB c := by rw [word_dec]; rfl
theorem isOfWord_r (c : UInt8) (r : Bool) (w : World) (hr : Hid (wordB c = r)) :
    Calls Try.prog 73 #[.int .u8 (c.toNat : Nat)] w fun e w' => e = .returned (.bool r) ∧ w = w' :=
  (isOfWord_any c.toNat w c.toNat_lt).mono fun e w' ⟨he, hw⟩ => ⟨by rw [he, wordN_eq, hr.out], hw⟩
theorem drop_at (s : ByteArray) (j : Nat) (h : j < s.size) : s.data.toList.drop j = s[j] :: s.data.toList.drop (j + 1) := by
  have hl : j < s.data.toList.length := by simpa using h
  rw [List.drop_eq_getElem_cons hl, Array.getElem_toList]; rfl
theorem drop_end (s : ByteArray) : s.data.toList.drop s.size = [] := List.drop_of_length_le (by simp)

theorem ret_int {k : IntKind} {a b : Int} (h : a = b) : Ending.returned (.int k a) = .returned (.int k b) := by rw [h]
theorem ret_nat {k : IntKind} {a b : Nat} (h : a = b) : Ending.returned (.int k (a : Int)) = .returned (.int k (b : Int)) := by rw [h]
/-- the place behind the word that begins at k -/
theorem wordEnd_any (s : ByteArray) (k r : Nat) (w : World) (hr : Hid (k + wlen (s.data.toList.drop k) = r)) (hs : s.size ≤ 9223372036854775807) (hk : k ≤ s.size) :
    Calls Try.prog 68 #[.string s, .int .i64 k] w fun e w' => e = .returned (.int .i64 (r : Nat)) ∧ w = w' := by
  go_enter Try.func68, Try.ntmps68
  go_wp2
  go_loop [1] (fun i => ∃ j : Nat, k ≤ j ∧ j ≤ s.size ∧ i = .int .i64 j ∧ Hid (j + wlen (s.data.toList.drop j) = r)) (fun i => s.size - (intOf i).toNat)
  case atStart => exact ⟨k, by omega, hk, rfl, hr⟩
  case round =>
    obtain ⟨j, hj1, hj2, rfl, hrel⟩ := hrel
    by_cases hlt : j < s.size
    · have hd := drop_at s j hlt
      by_cases hw : wordB s[j] = true
      · have hrel' : Hid (j + 1 + wlen (s.data.toList.drop (j + 1)) = r) := by
          have := hrel.out
          rw [hd, wlen_cons hw] at this
          exact Lib.hid (by omega)
        clear hrel hd
        have hN := Lib.hid hw; clear hw
        go_wp2_with (go_at_call 73; refine (isOfWord_r _ true _ hN).mono ?_; rintro e w' ⟨rfl, rfl⟩)
        go_round
        case rel => exact ⟨j + 1, by omega, by omega, by go_num, hrel'⟩
        case measure => simp [intOf]; omega
      · have hrel' : Hid (j = r) := by
          have := hrel.out
          rw [hd, wlen_cons_no (by simpa using hw)] at this
          exact Lib.hid (by omega)
        clear hrel hd
        have hN := Lib.hid (show wordB s[j] = false by simpa using hw); clear hw
        go_wp2_with (go_at_call 73; refine (isOfWord_r _ false _ hN).mono ?_; rintro e w' ⟨rfl, rfl⟩)
        go_ret
        exact ⟨ret_nat hrel'.out, rfl⟩
    · have hrel' : Hid (j = r) := by
        have := hrel.out
        obtain rfl : j = s.size := by omega
        rw [drop_end] at this
        exact Lib.hid (by simpa [wlen] using this)
      clear hrel
      go_wp2
      go_ret
      exact ⟨ret_nat hrel'.out, rfl⟩

end Go.Proofs.Ytdjmhjgfjbcdkaa
