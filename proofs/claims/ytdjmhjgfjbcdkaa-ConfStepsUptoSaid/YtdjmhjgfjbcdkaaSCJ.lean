/- Named, the code's and the document's, walked. -/
import Derived.Test.YtdjmhjgfjbcdkaaSCI
namespace Go.Proofs.Ytdjmhjgfjbcdkaa
open Go.RowKit

def namedB (head : Int) (name : List UInt8) : Bool :=
  if head = 0 then name.isEmpty else if head = 1 then (addrL name).isSome else if head = 2 then isWordB name && !name.contains 47 else false

theorem empty_eq (s : ByteArray) : (s.toList == []) = s.data.toList.isEmpty := by
  rw [Lib.toList_data]; cases s.data.toList <;> rfl
set_option maxRecDepth 100000 in
set_option maxHeartbeats 1000000 in
theorem named_any (head : Int) (s : ByteArray) (r : Bool) (w : World) (hs : s.size ≤ 9223372036854775807) (hr : Hid (namedB head s.data.toList = r)) :
    Calls Try.prog 49 #[.int .i64 head, .string s] w fun e w' => e = .returned (.bool r) ∧ ∃ m, w' = w.drewN m := by
  have hq := hr.out
  unfold namedB at hq
  by_cases h0 : head = 0
  · subst h0
    rw [if_pos rfl] at hq
    have e1 : s.toList.isEmpty = r := by rw [Lib.toList_data]; exact hq
    clear hq hr
    cases r with
    | true =>
      go_enter Try.func49, Try.ntmps49
      go_wp2
      go_ret
      exact ⟨rfl, 0, rfl⟩
    | false =>
      go_enter Try.func49, Try.ntmps49
      go_wp2
      go_ret
      exact ⟨rfl, 0, rfl⟩
  have d0 : (head == 0) = false := by simpa using h0
  rw [if_neg h0] at hq
  by_cases h1 : head = 1
  · subst h1
    rw [if_pos rfl] at hq
    clear hr d0
    cases ha : addrL s.data.toList with
    | none =>
      obtain rfl : r = false := by rw [← hq, ha]; rfl
      have ha' := Lib.hid ha; clear ha hq h0
      go_enter Try.func49, Try.ntmps49
      go_wp2_with (go_at_call 58; refine (addr_none s _ hs ha').mono ?_; rintro e w2 ⟨rfl, m2, rfl⟩)
      go_ret
      exact ⟨rfl, m2, rfl⟩
    | some a =>
      obtain rfl : r = true := by rw [← hq, ha]; rfl
      have ha' := Lib.hid ha; clear ha hq h0
      go_enter Try.func49, Try.ntmps49
      go_wp2_with (go_at_call 58; refine (addr_some s a _ hs ha').mono ?_; rintro e w2 ⟨rfl, m2, rfl⟩)
      go_ret
      exact ⟨rfl, m2, rfl⟩
  have d1 : (head == 1) = false := by simpa using h1
  rw [if_neg h1] at hq
  by_cases h2 : head = 2
  · subst h2
    rw [if_pos rfl] at hq
    clear hr d0 d1 h0 h1
    obtain ⟨b, hb⟩ : ∃ b, isWordB s.data.toList = b := ⟨_, rfl⟩
    obtain ⟨c, hc⟩ : ∃ c, decide ((47 : UInt8) ∈ s.data.toList) = c := ⟨_, rfl⟩
    have hq2 : (b && !c) = r := by rw [← hq, ← hb, ← hc]; simp
    have hb' := Lib.hid hb; have hc' := Lib.hid hc; clear hb hc hq
    cases b with
    | true =>
      cases c with
      | true =>
        obtain rfl : r = false := hq2.symm
        clear hq2
        go_enter Try.func49, Try.ntmps49
        go_wp2_with (first | (go_at_call 59; refine (isWord_any s true _ hs hb').mono ?_; rintro e w' ⟨rfl, rfl⟩) | (go_at_call 60; refine (stringsContains_one s 47 _ true hc').mono ?_; rintro e w' ⟨rfl, rfl⟩))
        go_ret
        exact ⟨rfl, 0, rfl⟩
      | false =>
        obtain rfl : r = true := hq2.symm
        clear hq2
        go_enter Try.func49, Try.ntmps49
        go_wp2_with (first | (go_at_call 59; refine (isWord_any s true _ hs hb').mono ?_; rintro e w' ⟨rfl, rfl⟩) | (go_at_call 60; refine (stringsContains_one s 47 _ false hc').mono ?_; rintro e w' ⟨rfl, rfl⟩))
        go_ret
        exact ⟨rfl, 0, rfl⟩
    | false =>
      obtain rfl : r = false := hq2.symm
      clear hq2
      go_enter Try.func49, Try.ntmps49
      go_wp2_with (go_at_call 59; refine (isWord_any s false _ hs hb').mono ?_; rintro e w' ⟨rfl, rfl⟩)
      go_ret
      exact ⟨rfl, 0, rfl⟩
  have d2 : (head == 2) = false := by simpa using h2
  rw [if_neg h2] at hq
  obtain rfl : r = false := hq.symm
  clear hq hr h0 h1 h2
  go_enter Try.func49, Try.ntmps49
  go_wp2
  go_ret
  exact ⟨rfl, 0, rfl⟩

set_option maxRecDepth 100000 in
set_option maxHeartbeats 1000000 in
theorem rNamed_any (head : Int) (s : ByteArray) (r : Bool) (w : World) (hs : s.size ≤ 8796093022000) (hr : Hid (namedB head s.data.toList = r)) :
    Calls Try.prog 47 #[.int .i64 head, .string s] w (NewRes (.bool r) w) := by
  have hq := hr.out
  unfold namedB at hq
  by_cases h0 : head = 0
  · subst h0
    rw [if_pos rfl] at hq
    have e1 : s.toList.isEmpty = r := by rw [Lib.toList_data]; exact hq
    clear hq hr
    cases r with
    | true =>
      go_enter Try.func47, Try.ntmps47
      go_wp2
      go_ret
      exact ⟨rfl, Keeps.refl _ _⟩
    | false =>
      go_enter Try.func47, Try.ntmps47
      go_wp2
      go_ret
      exact ⟨rfl, Keeps.refl _ _⟩
  have d0 : (head == 0) = false := by simpa using h0
  rw [if_neg h0] at hq
  by_cases h1 : head = 1
  · subst h1
    rw [if_pos rfl] at hq
    clear hr d0
    cases ha : addrL s.data.toList with
    | none =>
      obtain rfl : r = false := by rw [← hq, ha]; rfl
      have ha' := Lib.hid ha; clear ha hq h0
      go_enter Try.func47, Try.ntmps47
      go_wp2_with (go_at_call 53; refine (rAddr_none s _ hs ha').mono ?_; rintro e w2 ⟨rfl, hk2⟩; have hk2' := Lib.hid hk2; clear hk2)
      go_ret
      exact ⟨rfl, hk2'.out⟩
    | some a =>
      obtain rfl : r = true := by rw [← hq, ha]; rfl
      have ha' := Lib.hid ha; clear ha hq h0
      go_enter Try.func47, Try.ntmps47
      go_wp2_with (go_at_call 53; refine (rAddr_some s a _ hs ha').mono ?_; rintro e w2 ⟨rfl, hk2⟩; have hk2' := Lib.hid hk2; clear hk2)
      go_ret
      exact ⟨rfl, hk2'.out⟩
  have d1 : (head == 1) = false := by simpa using h1
  rw [if_neg h1] at hq
  by_cases h2 : head = 2
  · subst h2
    rw [if_pos rfl] at hq
    clear hr d0 d1 h0 h1
    obtain ⟨b, hb⟩ : ∃ b, isWordB s.data.toList = b := ⟨_, rfl⟩
    cases b with
    | true =>
      have hb' := Lib.hid hb
      by_cases hm : (47 : UInt8) ∈ s.data.toList
      · obtain rfl : r = false := by rw [← hq, hb]; simpa using hm
        obtain ⟨k, hk⟩ : ∃ k, (partsL 47 s.data.toList).length = k + 2 := by
          rw [partsL_yes hm]
          have := partsL_ne 47 (s.data.toList.drop (before 47 s.data.toList + 1))
          cases hp : partsL 47 (s.data.toList.drop (before 47 s.data.toList + 1)) with
          | nil => exact (this hp).elim
          | cons a l => exact ⟨l.length, by simp⟩
        have e1 : (((k + 2 : Nat) : Int) == 1) = false := by rw [beq_eq_false_iff_ne]; omega
        have e2 : ((k : Int) + 2 == 1) = false := by rw [beq_eq_false_iff_ne]; omega
        have hk' := Lib.hid hk; clear hk hb hq hm
        go_enter Try.func47, Try.ntmps47
        go_wp2_with (first | (go_at_call 54; refine (rWord_any s true _ hs hb').mono ?_; rintro e w2 ⟨rfl, hk2⟩; have hk2' := Lib.hid hk2; clear hk2) | (go_at_call 55; refine (parts_any s 47 _ hs).mono ?_; rintro e w3 ⟨p3, d3, rfl, ho3, hk3⟩; rw [hk'.out]; have hk3' := Lib.hid hk3; clear hk3 ho3))
        go_ret
        exact ⟨rfl, hk2'.out.trans hk3'.out⟩
      · obtain rfl : r = true := by rw [← hq, hb]; simpa using hm
        have hk : (partsL 47 s.data.toList).length = 1 := by rw [partsL_no hm]; rfl
        have hk' := Lib.hid hk; clear hk hb hq hm
        go_enter Try.func47, Try.ntmps47
        go_wp2_with (first | (go_at_call 54; refine (rWord_any s true _ hs hb').mono ?_; rintro e w2 ⟨rfl, hk2⟩; have hk2' := Lib.hid hk2; clear hk2) | (go_at_call 55; refine (parts_any s 47 _ hs).mono ?_; rintro e w3 ⟨p3, d3, rfl, ho3, hk3⟩; rw [hk'.out]; have hk3' := Lib.hid hk3; clear hk3 ho3))
        go_ret
        exact ⟨rfl, hk2'.out.trans hk3'.out⟩
    | false =>
      obtain rfl : r = false := by rw [← hq, hb]; rfl
      have hb' := Lib.hid hb; clear hb hq
      go_enter Try.func47, Try.ntmps47
      go_wp2_with (go_at_call 54; refine (rWord_any s false _ hs hb').mono ?_; rintro e w2 ⟨rfl, hk2⟩; have hk2' := Lib.hid hk2; clear hk2)
      go_ret
      exact ⟨rfl, hk2'.out⟩
  have d2 : (head == 2) = false := by simpa using h2
  rw [if_neg h2] at hq
  obtain rfl : r = false := hq.symm
  clear hq hr h0 h1 h2
  go_enter Try.func47, Try.ntmps47
  go_wp2
  go_ret
  exact ⟨rfl, Keeps.refl _ _⟩
end Go.Proofs.Ytdjmhjgfjbcdkaa
