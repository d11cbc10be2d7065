/- lsa.Compare, walked: cmp.Compare of ints and of sums, apart. -/
import Derived.Test.YtiogeepffdpafaaLV
import Derived.Test.YtiogeepffdpafaaLJ
namespace Go.Proofs.Ytiogeepffdpafaa
open Go.RowKit

def cmpI (a b : Int) : Int := if a < b then -1 else if a > b then 1 else 0
set_option maxHeartbeats 1000000 in
theorem nanInt_any (a : Int) (w : World) : Calls Try.prog 101 #[.int .i64 a] w fun e w' => e = .returned (.bool false) ∧ w = w' := by
  have h : (a != a) = false := by simp
  go_enter Try.func101, Try.ntmps101
  go_wp2_with fail
  go_ret
  exact ⟨rfl, rfl⟩
set_option maxHeartbeats 1000000 in
theorem nanU16_any (a : Nat) (w : World) : Calls Try.prog 102 #[.int .u16 a] w fun e w' => e = .returned (.bool false) ∧ w = w' := by
  have h : ((a : Int) != (a : Int)) = false := by simp
  go_enter Try.func102, Try.ntmps102
  go_wp2_with fail
  go_ret
  exact ⟨rfl, rfl⟩
set_option maxHeartbeats 1000000 in
theorem cmpInt_any (a b : Int) (w : World) : Calls Try.prog 72 #[.int .i64 a, .int .i64 b] w fun e w' => e = .returned (.int .i64 (cmpI a b)) ∧ w = w' := by
  unfold cmpI
  by_cases h1 : a < b
  · rw [if_pos h1]
    go_enter Try.func72, Try.ntmps72
    go_wp2_with fail
    refine (nanInt_any _ _).mono ?_
    rintro e w' ⟨rfl, rfl⟩
    go_wp2_with fail
    refine (nanInt_any _ _).mono ?_
    rintro e w' ⟨rfl, rfl⟩
    go_wp2_with fail
    go_ret
    exact ⟨rfl, rfl⟩
  · rw [if_neg h1]
    by_cases h2 : a > b
    · rw [if_pos h2]
      go_enter Try.func72, Try.ntmps72
      go_wp2_with fail
      refine (nanInt_any _ _).mono ?_
      rintro e w' ⟨rfl, rfl⟩
      go_wp2_with fail
      refine (nanInt_any _ _).mono ?_
      rintro e w' ⟨rfl, rfl⟩
      go_wp2_with fail
      go_ret
      exact ⟨rfl, rfl⟩
    · rw [if_neg h2]
      go_enter Try.func72, Try.ntmps72
      go_wp2_with fail
      refine (nanInt_any _ _).mono ?_
      rintro e w' ⟨rfl, rfl⟩
      go_wp2_with fail
      refine (nanInt_any _ _).mono ?_
      rintro e w' ⟨rfl, rfl⟩
      go_wp2_with fail
      go_ret
      exact ⟨rfl, rfl⟩
set_option maxHeartbeats 1000000 in
theorem cmpU16_any (a b : Nat) (w : World) : Calls Try.prog 73 #[.int .u16 a, .int .u16 b] w fun e w' => e = .returned (.int .i64 (cmpI a b)) ∧ w = w' := by
  unfold cmpI
  by_cases h1 : (a : Int) < b
  · rw [if_pos h1]
    go_enter Try.func73, Try.ntmps73
    go_wp2_with fail
    refine (nanU16_any _ _).mono ?_
    rintro e w' ⟨rfl, rfl⟩
    go_wp2_with fail
    refine (nanU16_any _ _).mono ?_
    rintro e w' ⟨rfl, rfl⟩
    go_wp2_with fail
    go_ret
    exact ⟨rfl, rfl⟩
  · rw [if_neg h1]
    by_cases h2 : (a : Int) > b
    · rw [if_pos h2]
      go_enter Try.func73, Try.ntmps73
      go_wp2_with fail
      refine (nanU16_any _ _).mono ?_
      rintro e w' ⟨rfl, rfl⟩
      go_wp2_with fail
      refine (nanU16_any _ _).mono ?_
      rintro e w' ⟨rfl, rfl⟩
      go_wp2_with fail
      go_ret
      exact ⟨rfl, rfl⟩
    · rw [if_neg h2]
      go_enter Try.func73, Try.ntmps73
      go_wp2_with fail
      refine (nanU16_any _ _).mono ?_
      rintro e w' ⟨rfl, rfl⟩
      go_wp2_with fail
      refine (nanU16_any _ _).mono ?_
      rintro e w' ⟨rfl, rfl⟩
      go_wp2_with fail
      go_ret
      exact ⟨rfl, rfl⟩
set_option maxHeartbeats 1000000 in
theorem lsApart_any (a b : Nat) (ha : a ≤ 3600) (hb : b ≤ 3600) (z : Bool) (w : World) (hz : Hid (decide (max a b - min a b > 900) = z)) : Calls Try.prog 74 #[.int .i64 a, .int .i64 b] w fun e w' => e = .returned (.bool z) ∧ w = w' := by
  go_enter Try.func74, Try.ntmps74
  go_wp2_with fail
  all_goals
    go_ret
    refine ⟨congrArg (fun b => Ending.returned (.bool b)) ?_, rfl⟩
    rw [← hz.out]
    first
      | (rw [decide_eq_decide]; omega)
      | (symm; rw [decide_eq_false_iff_not]; omega)
def cmpH (age1 age2 : Nat) (seq1 seq2 : Int) (sum1 sum2 : Nat) : Int :=
  if seq1 ≠ seq2 then cmpI seq1 seq2 else if sum1 ≠ sum2 then cmpI sum1 sum2 else if age1 = 3600 ∧ age2 ≠ 3600 then 1 else if age2 = 3600 ∧ age1 ≠ 3600 then -1
  else if max age1 age2 - min age1 age2 > 900 then cmpI age2 age1 else 0
set_option maxRecDepth 100000 in
set_option maxHeartbeats 2000000 in
theorem lsCompare_any (age1 age2 sum1 sum2 id1 id2 adv1 adv2 : Nat) (type1 type2 seq1 seq2 len1 len2 z : Int) (ha : age1 ≤ 3600) (hb : age2 ≤ 3600) (w : World) (hz : Hid (cmpH age1 age2 seq1 seq2 sum1 sum2 = z)) :
    Calls Try.prog 28 #[.agg #[.int .i64 (age1 : Nat), .int .i64 type1, .int .u32 id1, .int .u32 adv1, .int .i64 seq1, .int .u16 sum1, .int .i64 len1], .agg #[.int .i64 (age2 : Nat), .int .i64 type2, .int .u32 id2, .int .u32 adv2, .int .i64 seq2, .int .u16 sum2, .int .i64 len2]] w fun e w' => e = .returned (.int .i64 z) ∧ Keeps (fun _ => False) w w' := by
  have hkw' : Hid (Keeps (fun _ => False) w ((w.alloc (.cells #[.int .i64 (age1 : Nat), .int .i64 type1, .int .u32 id1, .int .u32 adv1, .int .i64 seq1, .int .u16 sum1, .int .i64 len1] 45)).alloc (.cells #[.int .i64 (age2 : Nat), .int .i64 type2, .int .u32 id2, .int .u32 adv2, .int .i64 seq2, .int .u16 sum2, .int .i64 len2] 45))) := Lib.hid (((Keeps.refl _ _).alloc _).alloc _)
  have hz0 := hz.out
  clear hz
  unfold cmpH at hz0
  by_cases h1 : seq1 = seq2
  · rw [if_neg (by simpa using h1)] at hz0
    have e1 : (seq1 != seq2) = false := by rw [h1]; simp
    clear h1
    by_cases h2 : sum1 = sum2
    · rw [if_neg (by simpa using h2)] at hz0
      have e2 : ((sum1 : Int) != (sum2 : Int)) = false := by rw [h2]; simp
      clear h2
      by_cases h3 : age1 = 3600
      · have e3 : ((age1 : Int) == 3600) = true := by rw [h3]; rfl
        by_cases h4 : age2 = 3600
        · have e4 : ((age2 : Int) == 3600) = true := by rw [h4]; rfl
          rw [if_neg (by omega), if_neg (by omega), if_neg (by omega)] at hz0
          have hap : Hid (decide (max age1 age2 - min age1 age2 > 900) = false) := Lib.hid (by rw [decide_eq_false_iff_not]; omega)
          obtain rfl : 0 = z := hz0
          clear h3 h4
          go_enter Try.func28, Try.ntmps28
          go_wp2_with fail
          go_quiet (fail)
          go_wp2_with fail
          refine (lsApart_any age1 age2 ha hb false _ hap).mono ?_
          rintro e w' ⟨rfl, rfl⟩
          go_wp2_with fail
          go_ret
          exact ⟨rfl, hkw'.out.drewN _⟩
        · have e4 : ((age2 : Int) == 3600) = false := by rw [beq_eq_false_iff_ne]; omega
          rw [if_pos (by omega)] at hz0
          obtain rfl : 1 = z := hz0
          clear h3 h4
          go_enter Try.func28, Try.ntmps28
          go_wp2_with fail
          go_quiet (fail)
          go_wp2_with fail
          go_ret
          exact ⟨rfl, hkw'.out.drewN _⟩
      · have e3 : ((age1 : Int) == 3600) = false := by rw [beq_eq_false_iff_ne]; omega
        rw [if_neg (by omega)] at hz0
        by_cases h4 : age2 = 3600
        · have e4 : ((age2 : Int) == 3600) = true := by rw [h4]; rfl
          rw [if_pos (by omega)] at hz0
          obtain rfl : -1 = z := hz0
          clear h3 h4
          go_enter Try.func28, Try.ntmps28
          go_wp2_with fail
          go_quiet (fail)
          go_wp2_with fail
          go_ret
          exact ⟨rfl, hkw'.out.drewN _⟩
        · have e4 : ((age2 : Int) == 3600) = false := by rw [beq_eq_false_iff_ne]; omega
          rw [if_neg (by omega)] at hz0
          clear h3 h4
          by_cases h5 : max age1 age2 - min age1 age2 > 900
          · rw [if_pos h5] at hz0
            have hap : Hid (decide (max age1 age2 - min age1 age2 > 900) = true) := Lib.hid (by rw [decide_eq_true_iff]; exact h5)
            have hz1 := Lib.hid hz0
            clear h5 hz0
            go_enter Try.func28, Try.ntmps28
            go_wp2_with fail
            go_quiet (fail)
            go_wp2_with fail
            refine (lsApart_any age1 age2 ha hb true _ hap).mono ?_
            rintro e w' ⟨rfl, rfl⟩
            go_wp2_with fail
            refine (cmpInt_any _ _ _).mono ?_
            rintro e w' ⟨rfl, rfl⟩
            go_wp2_with fail
            go_ret
            exact ⟨by rw [← hz1.out]; rfl, hkw'.out.drewN _⟩
          · rw [if_neg h5] at hz0
            have hap : Hid (decide (max age1 age2 - min age1 age2 > 900) = false) := Lib.hid (by rw [decide_eq_false_iff_not]; exact h5)
            obtain rfl : 0 = z := hz0
            clear h5
            go_enter Try.func28, Try.ntmps28
            go_wp2_with fail
            go_quiet (fail)
            go_wp2_with fail
            refine (lsApart_any age1 age2 ha hb false _ hap).mono ?_
            rintro e w' ⟨rfl, rfl⟩
            go_wp2_with fail
            go_ret
            exact ⟨rfl, hkw'.out.drewN _⟩
    · rw [if_pos (by simpa using h2)] at hz0
      have e2 : ((sum1 : Int) != (sum2 : Int)) = true := by rw [bne_iff_ne]; omega
      have hz1 := Lib.hid hz0
      clear h2 hz0
      go_enter Try.func28, Try.ntmps28
      go_wp2_with fail
      go_quiet (fail)
      go_wp2_with fail
      refine (cmpU16_any _ _ _).mono ?_
      rintro e w' ⟨rfl, rfl⟩
      go_wp2_with fail
      go_ret
      exact ⟨by rw [← hz1.out]; rfl, hkw'.out.drewN _⟩
  · rw [if_pos (by simpa using h1)] at hz0
    have e1 : (seq1 != seq2) = true := by rw [bne_iff_ne]; exact h1
    have hz1 := Lib.hid hz0
    clear h1 hz0
    go_enter Try.func28, Try.ntmps28
    go_wp2_with fail
    go_quiet (fail)
    go_wp2_with fail
    refine (cmpInt_any _ _ _).mono ?_
    rintro e w' ⟨rfl, rfl⟩
    go_wp2_with fail
    go_ret
    exact ⟨by rw [← hz1.out]; rfl, hkw'.out.drewN _⟩
end Go.Proofs.Ytiogeepffdpafaa
