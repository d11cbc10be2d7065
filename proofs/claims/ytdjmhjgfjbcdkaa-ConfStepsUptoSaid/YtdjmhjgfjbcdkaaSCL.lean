/- The document's Right, walked. -/
import Derived.Test.YtdjmhjgfjbcdkaaSCK
namespace Go.Proofs.Ytdjmhjgfjbcdkaa
open Go.RowKit

set_option maxRecDepth 100000 in
set_option maxHeartbeats 2000000 in
theorem rRight_any (h : Int) (nm df : ByteArray) (kind lo hi cl : Int) (p : Option Addr) (cc : Nat) (cs : List (List UInt8)) (y : ByteArray) (r : Bool) (w : World) (hs : y.size ≤ 8796093022000) (hcs : cs.length ≤ 1000)
    (hv : Hid (StrsAt w (.slice p cs.length cc) cs)) (hr : Hid (rightB kind lo hi cs y.data.toList = r)) :
    Calls Try.prog 48 #[.agg #[.int .i64 h, .string nm, .int .i64 kind, .int .i64 lo, .int .i64 hi, .slice p cs.length cc, .string df, .int .i64 cl], .string y] w (NewRes (.bool r) w) := by
  have hq := hr.out
  unfold rightB at hq
  have hv2 := fun o => Lib.hid (hv.out.alloc o)
  have hv2' := Lib.hid hv2; clear hv2
  by_cases h0 : kind = 0
  · subst h0
    rw [if_pos rfl] at hq
    cases ha : addrL y.data.toList with
    | none =>
      obtain rfl : r = false := by rw [← hq, ha]; rfl
      have ha' := Lib.hid ha; clear ha hq hr
      go_enter Try.func48, Try.ntmps48
      go_wp2_with (go_at_call 53; refine (rAddr_none y _ hs ha').mono ?_; rintro e w2 ⟨rfl, hk2⟩; have hk2' := Lib.hid hk2; clear hk2)
      go_ret
      exact ⟨rfl, ((Keeps.refl _ _).alloc _).trans hk2'.out⟩
    | some a =>
      obtain rfl : r = true := by rw [← hq, ha]; rfl
      have ha' := Lib.hid ha; clear ha hq hr
      go_enter Try.func48, Try.ntmps48
      go_wp2_with (go_at_call 53; refine (rAddr_some y a _ hs ha').mono ?_; rintro e w2 ⟨rfl, hk2⟩; have hk2' := Lib.hid hk2; clear hk2)
      go_ret
      exact ⟨rfl, ((Keeps.refl _ _).alloc _).trans hk2'.out⟩
  have d0 : (kind == 0) = false := by simpa using h0
  rw [if_neg h0] at hq
  by_cases h1 : kind = 1
  · subst h1
    rw [if_pos rfl] at hq
    clear d0 h0
    cases ha : netL y.data.toList with
    | none =>
      obtain rfl : r = false := by rw [← hq, ha]; rfl
      have ha' := Lib.hid ha; clear ha hq hr
      go_enter Try.func48, Try.ntmps48
      go_wp2_with (go_at_call 56; refine (rNet_none y _ hs ha').mono ?_; rintro e w2 ⟨rfl, hk2⟩; have hk2' := Lib.hid hk2; clear hk2)
      go_ret
      exact ⟨rfl, ((Keeps.refl _ _).alloc _).trans hk2'.out⟩
    | some x =>
      obtain ⟨a, n⟩ := x
      obtain rfl : r = true := by rw [← hq, ha]; rfl
      have ha' := Lib.hid ha; clear ha hq hr
      go_enter Try.func48, Try.ntmps48
      go_wp2_with (go_at_call 56; refine (rNet_some y a n _ hs ha').mono ?_; rintro e w2 ⟨rfl, hk2⟩; have hk2' := Lib.hid hk2; clear hk2)
      go_ret
      exact ⟨rfl, ((Keeps.refl _ _).alloc _).trans hk2'.out⟩
  have d1 : (kind == 1) = false := by simpa using h1
  rw [if_neg h1] at hq
  by_cases h2 : kind = 2
  · subst h2
    rw [if_pos rfl] at hq
    clear d0 d1 h0 h1
    cases hd : decL y.data.toList with
    | none =>
      obtain rfl : r = false := by rw [← hq, hd]
      have hd' := Lib.hid hd; clear hd hq hr
      go_enter Try.func48, Try.ntmps48
      go_wp2_with (go_at_call 57; refine (rDec_none y _ hd').mono ?_; rintro e w' ⟨rfl, rfl⟩)
      go_ret
      exact ⟨rfl, (Keeps.refl _ _).alloc _⟩
    | some n =>
      rw [hd] at hq
      simp only at hq
      have hd' := Lib.hid hd; clear hd hr
      by_cases hl1 : lo ≤ (n : Int)
      · by_cases hl2 : (n : Int) ≤ hi
        · obtain rfl : r = true := by rw [← hq]; simp [hl1, hl2]
          clear hq
          go_enter Try.func48, Try.ntmps48
          go_wp2_with (go_at_call 57; refine (rDec_some y n _ hd').mono ?_; rintro e w' ⟨rfl, rfl⟩)
          go_ret
          exact ⟨rfl, (Keeps.refl _ _).alloc _⟩
        · obtain rfl : r = false := by rw [← hq]; simp [hl2]
          have e2 : decide ((n : Int) ≤ hi) = false := by simpa using hl2
          clear hq
          go_enter Try.func48, Try.ntmps48
          go_wp2_with (go_at_call 57; refine (rDec_some y n _ hd').mono ?_; rintro e w' ⟨rfl, rfl⟩)
          go_ret
          exact ⟨rfl, (Keeps.refl _ _).alloc _⟩
      · obtain rfl : r = false := by rw [← hq]; simp [hl1]
        clear hq
        go_enter Try.func48, Try.ntmps48
        go_wp2_with (go_at_call 57; refine (rDec_some y n _ hd').mono ?_; rintro e w' ⟨rfl, rfl⟩)
        go_ret
        exact ⟨rfl, (Keeps.refl _ _).alloc _⟩
  have d2 : (kind == 2) = false := by simpa using h2
  rw [if_neg h2] at hq
  by_cases h3 : kind = 3
  · subst h3
    rw [if_pos rfl] at hq
    have hq' := Lib.hid hq
    have hvo := hv2'.out (.cells #[.int .i64 h, .string nm, .int .i64 3, .int .i64 lo, .int .i64 hi, .slice p cs.length cc, .string df, .int .i64 cl] 78)
    obtain ⟨p', c', hpe, hr0⟩ := hvo.out
    have e1 : p' = p := by injection hpe with e _ _; exact e.symm
    subst e1
    have hr0' := Lib.hid hr0
    clear d0 d1 d2 h0 h1 h2 hq hr hpe hr0 hvo
    go_enter Try.func48, Try.ntmps48
    go_wp2
    go_loop [12] (fun i => ∃ k : Nat, k ≤ cs.length ∧ i = .int .i64 k ∧ Hid (y.data.toList ∉ cs.take k)) (fun i => cs.length - (intOf i).toNat)
    case atStart => exact ⟨0, by omega, rfl, Lib.hid (by simp)⟩
    case round =>
      obtain ⟨k, hk, rfl, hno⟩ := hrel
      by_cases hlt : k < cs.length
      · obtain ⟨g, o, rfl, hrr⟩ := hr0'.out (by omega)
        obtain ⟨X, hX⟩ : ∃ X : ByteArray, X = ⟨(cs[k]).toArray⟩ := ⟨_, rfl⟩
        have c1 := hrr k (.string X) (by rw [hX]; simp [hlt, strv])
        have hXl : X.toList = cs[k] := by rw [hX, Lib.toList_data]
        clear hrr hX
        by_cases he : y.data.toList = cs[k]
        · have e1 : (X.toList == y.toList) = true := by rw [hXl, Lib.toList_data, he]; simp
          have hin : Hid (r = true) := Lib.hid (by rw [← hq'.out, he]; simp)
          have hXl' := Lib.hid hXl; clear he hXl hno
          go_wp2
          go_ret
          exact ⟨by rw [hin.out]; rfl, (Keeps.refl _ _).alloc _⟩
        · have e1 : (X.toList == y.toList) = false := by rw [hXl, Lib.toList_data]; simpa using (fun h => he h.symm)
          have hno' : Hid (y.data.toList ∉ cs.take (k + 1)) := Lib.hid (by
            rw [List.take_succ_eq_append_getElem hlt]
            intro h
            rcases List.mem_append.1 h with h | h
            · exact hno.out h
            · exact he (by simpa using h))
          have hXl' := Lib.hid hXl; clear he hXl hno
          go_wp2
          go_round
          case rel => exact ⟨k + 1, by omega, by go_num, hno'⟩
          case measure => simp [intOf]; omega
      · have hin : Hid (r = false) := Lib.hid (by
          rw [← hq'.out]
          have := hno.out
          rw [List.take_of_length_le (by omega)] at this
          rw [← Bool.not_eq_true]; simpa using this)
        clear hno
        go_wp2
        go_ret
        exact ⟨by rw [hin.out]; rfl, (Keeps.refl _ _).alloc _⟩
  have d3 : (kind == 3) = false := by simpa using h3
  rw [if_neg h3] at hq
  by_cases h4 : kind = 4
  · subst h4
    rw [if_pos rfl] at hq
    have hyl : y.data.toList.length = y.size := by simp
    rw [hyl] at hq
    clear d0 d1 d2 d3 h0 h1 h2 h3 hr hyl
    obtain ⟨c, hc⟩ : ∃ c, isWordB y.data.toList = c := ⟨_, rfl⟩
    have hc' := Lib.hid hc
    cases c with
    | true =>
      by_cases hl : (y.size : Int) ≤ hi
      · obtain rfl : r = true := by rw [← hq, hc]; simp [hl]
        clear hq hc
        go_enter Try.func48, Try.ntmps48
        go_wp2_with (go_at_call 54; refine (rWord_any y true _ hs hc').mono ?_; rintro e w2 ⟨rfl, hk2⟩; have hk2' := Lib.hid hk2; have cHi := hk2.cell (p := ⟨w.heap.size, 4, none⟩) (by simp) id; have cHi2 : w2.cell? ⟨w.heap.size, 4, none⟩ = some (.int .i64 hi) := cHi.trans (by simp [go_sem]); clear hk2 cHi)
        go_ret
        exact ⟨rfl, ((Keeps.refl _ _).alloc _).trans hk2'.out⟩
      · obtain rfl : r = false := by rw [← hq]; simp [hl]
        have e2 : decide ((y.size : Int) ≤ hi) = false := by simpa using hl
        clear hq hc
        go_enter Try.func48, Try.ntmps48
        go_wp2_with (go_at_call 54; refine (rWord_any y true _ hs hc').mono ?_; rintro e w2 ⟨rfl, hk2⟩; have hk2' := Lib.hid hk2; have cHi := hk2.cell (p := ⟨w.heap.size, 4, none⟩) (by simp) id; have cHi2 : w2.cell? ⟨w.heap.size, 4, none⟩ = some (.int .i64 hi) := cHi.trans (by simp [go_sem]); clear hk2 cHi)
        go_ret
        exact ⟨rfl, ((Keeps.refl _ _).alloc _).trans hk2'.out⟩
    | false =>
      obtain rfl : r = false := by rw [← hq, hc]; simp
      clear hq hc
      go_enter Try.func48, Try.ntmps48
      go_wp2_with (go_at_call 54; refine (rWord_any y false _ hs hc').mono ?_; rintro e w2 ⟨rfl, hk2⟩; have hk2' := Lib.hid hk2; clear hk2)
      go_ret
      exact ⟨rfl, ((Keeps.refl _ _).alloc _).trans hk2'.out⟩
  have d4 : (kind == 4) = false := by simpa using h4
  rw [if_neg h4] at hq
  obtain rfl : r = false := hq.symm
  clear hq hr h0 h1 h2 h3 h4
  go_enter Try.func48, Try.ntmps48
  go_wp2
  go_ret
  exact ⟨rfl, (Keeps.refl _ _).alloc _⟩
end Go.Proofs.Ytdjmhjgfjbcdkaa
