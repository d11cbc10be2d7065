/- slices.Contains at texts; Right, the code's and the document's, walked. -/
import Derived.Test.YtdjmhjgfjbcdkaaSCJ
namespace Go.Proofs.Ytdjmhjgfjbcdkaa
open Go.RowKit

theorem StrsAt.alloc {w : World} {v : Value} {xs : List (List UInt8)} (h : StrsAt w v xs) (o : Obj) : StrsAt (w.alloc o) v xs := h.keep ((Keeps.refl (fun _ => False) w).alloc o) (fun _ _ _ f => f)
def IdxPost (b : Bool) (w : World) (e : Ending) (w' : World) : Prop := (∃ r : Int, e = .returned (.int .i64 r) ∧ decide (0 ≤ r) = b) ∧ w = w'
set_option maxRecDepth 100000 in
theorem slicesIndex_any (v : Value) (xs : List (List UInt8)) (y : ByteArray) (b : Bool) (w : World) (hb : Hid (xs.contains y.data.toList = b)) (hv : StrsAt w v xs) (hl : xs.length ≤ 9223372036854775807) :
    Calls Try.prog 70 #[v, .string y] w (IdxPost b w) := by
  obtain ⟨p, c, rfl, hv⟩ := hv
  have hv' := Lib.hid hv; clear hv
  go_enter Try.func70, Try.ntmps70
  go_wp2
  go_loop [8] (fun i => ∃ k : Nat, k ≤ xs.length ∧ i = .int .i64 k ∧ Hid (y.data.toList ∉ xs.take k)) (fun i => xs.length - (intOf i).toNat)
  case atStart => exact ⟨0, by omega, rfl, Lib.hid (by simp)⟩
  case round =>
    obtain ⟨k, hk, rfl, hno⟩ := hrel
    by_cases hlt : k < xs.length
    · obtain ⟨g, o, rfl, hr⟩ := hv'.out (by omega)
      obtain ⟨X, hX⟩ : ∃ X : ByteArray, X = ⟨(xs[k]).toArray⟩ := ⟨_, rfl⟩
      have c1 : w.cell? ⟨g, o + k, none⟩ = some (.string X) := by rw [hX]; exact hr k _ (by simp [hlt, strv])
      have hXl : X.toList = xs[k] := by rw [hX, Lib.toList_data]
      clear hr hX
      by_cases he : y.data.toList = xs[k]
      · have e1 : (y.toList == X.toList) = true := by rw [hXl, Lib.toList_data, he]; simp
        have hin : Hid (b = true) := Lib.hid (by rw [← hb.out, he]; simp)
        have hXl' := Lib.hid hXl; clear he hXl hno
        go_wp2
        go_ret
        exact ⟨⟨(k : Int), rfl, by rw [hin.out]; simp⟩, rfl⟩
      · have e1 : (y.toList == X.toList) = false := by rw [hXl, Lib.toList_data]; simpa using he
        have hno' : Hid (y.data.toList ∉ xs.take (k + 1)) := Lib.hid (by
          rw [List.take_succ_eq_append_getElem hlt]
          intro h
          rcases List.mem_append.1 h with h | h
          · exact hno.out h
          · exact he (by simpa using h))
        have hXl' := Lib.hid hXl; clear he hXl hno
        go_wp2
        go_round
        case rel => exact ⟨k + 1, by omega, by go_num, hno'⟩
        case measure => simp [intOf]; omega
    · have hin : Hid (b = false) := Lib.hid (by
        rw [← hb.out]
        have := hno.out
        rw [List.take_of_length_le (by omega)] at this
        rw [← Bool.not_eq_true]; simpa using this)
      clear hno
      go_wp2
      go_ret
      exact ⟨⟨-1, rfl, by rw [hin.out]; rfl⟩, rfl⟩
theorem slicesContains_any (v : Value) (xs : List (List UInt8)) (y : ByteArray) (r : Bool) (w : World) (hv : StrsAt w v xs) (hl : xs.length ≤ 9223372036854775807) (hr : Hid (xs.contains y.data.toList = r)) :
    Calls Try.prog 63 #[v, .string y] w fun e w' => e = .returned (.bool r) ∧ w = w' := by
  obtain ⟨p, c, rfl, hv0⟩ := hv
  have hv : StrsAt w (.slice p xs.length c) xs := ⟨p, c, rfl, hv0⟩
  have hv' := Lib.hid hv; clear hv hv0
  go_enter Try.func63, Try.ntmps63
  go_wp2_with fail
  refine (slicesIndex_any _ xs y r _ hr hv'.out hl).mono ?_
  rintro e w' ⟨⟨i, rfl, hi⟩, rfl⟩
  cases r with
  | true =>
    have hi' := Lib.hid hi; clear hi
    go_wp2
    go_ret
    exact ⟨by show Ending.returned (.bool (decide (0 ≤ i))) = _; rw [hi'.out], rfl⟩
  | false =>
    have hi' := Lib.hid hi; clear hi
    go_wp2
    go_ret
    exact ⟨by show Ending.returned (.bool (decide (0 ≤ i))) = _; rw [hi'.out], rfl⟩

def rightB (kind lo hi : Int) (cs : List (List UInt8)) (v : List UInt8) : Bool :=
  if kind = 0 then (addrL v).isSome else if kind = 1 then (netL v).isSome
  else if kind = 2 then (match decL v with | some n => decide (lo ≤ (n : Int) ∧ (n : Int) ≤ hi) | none => false)
  else if kind = 3 then cs.contains v else if kind = 4 then decide ((v.length : Int) ≤ hi) && isWordB v else false

/-- a row as a value -/
def rowV (head : Value) (name : Value) (kind lo hi : Int) (cv df cl : Value) : Value := .agg #[head, name, .int .i64 kind, .int .i64 lo, .int .i64 hi, cv, df, cl]

set_option maxRecDepth 100000 in
set_option maxHeartbeats 2000000 in
theorem right_any (h : Int) (nm df : ByteArray) (kind lo hi cl : Int) (p : Option Addr) (cc : Nat) (cs : List (List UInt8)) (y : ByteArray) (r : Bool) (w : World) (hs : y.size ≤ 9223372036854775807) (hcs : cs.length ≤ 1000)
    (hv : Hid (StrsAt w (.slice p cs.length cc) cs)) (hr : Hid (rightB kind lo hi cs y.data.toList = r)) :
    Calls Try.prog 50 #[.agg #[.int .i64 h, .string nm, .int .i64 kind, .int .i64 lo, .int .i64 hi, .slice p cs.length cc, .string df, .int .i64 cl], .string y] w (NewRes (.bool r) w) := by
  have hq := hr.out
  unfold rightB at hq
  have hv2 := fun o => Lib.hid (hv.out.alloc o)
  have hv2' := Lib.hid hv2; clear hv2
  by_cases h0 : kind = 0
  · subst h0
    rw [if_pos rfl] at hq
    cases ha : addrL y.data.toList with
    | none =>
      obtain rfl : r = false := by rw [← hq, ha]; rfl
      have ha' := Lib.hid ha; clear ha hq hr
      go_enter Try.func50, Try.ntmps50
      go_wp2_with (go_at_call 58; refine (addr_none y _ hs ha').mono ?_; rintro e w2 ⟨rfl, m2, rfl⟩)
      go_ret
      exact ⟨rfl, ((Keeps.refl _ _).alloc _).drewN _⟩
    | some a =>
      obtain rfl : r = true := by rw [← hq, ha]; rfl
      have ha' := Lib.hid ha; clear ha hq hr
      go_enter Try.func50, Try.ntmps50
      go_wp2_with (go_at_call 58; refine (addr_some y a _ hs ha').mono ?_; rintro e w2 ⟨rfl, m2, rfl⟩)
      go_ret
      exact ⟨rfl, ((Keeps.refl _ _).alloc _).drewN _⟩
  have d0 : (kind == 0) = false := by simpa using h0
  rw [if_neg h0] at hq
  by_cases h1 : kind = 1
  · subst h1
    rw [if_pos rfl] at hq
    clear d0 h0
    cases ha : netL y.data.toList with
    | none =>
      obtain rfl : r = false := by rw [← hq, ha]; rfl
      have ha' := Lib.hid ha; clear ha hq hr
      go_enter Try.func50, Try.ntmps50
      go_wp2_with (go_at_call 61; refine (net_none y _ hs ha').mono ?_; rintro e w2 ⟨rfl, m2, rfl⟩)
      go_ret
      exact ⟨rfl, ((Keeps.refl _ _).alloc _).drewN _⟩
    | some x =>
      obtain ⟨a, n⟩ := x
      obtain rfl : r = true := by rw [← hq, ha]; rfl
      have ha' := Lib.hid ha; clear ha hq hr
      go_enter Try.func50, Try.ntmps50
      go_wp2_with (go_at_call 61; refine (net_some y a n _ hs ha').mono ?_; rintro e w2 ⟨rfl, m2, rfl⟩)
      go_ret
      exact ⟨rfl, ((Keeps.refl _ _).alloc _).drewN _⟩
  have d1 : (kind == 1) = false := by simpa using h1
  rw [if_neg h1] at hq
  by_cases h2 : kind = 2
  · subst h2
    rw [if_pos rfl] at hq
    clear d0 d1 h0 h1
    cases hd : decL y.data.toList with
    | none =>
      obtain rfl : r = false := by rw [← hq, hd]
      have hd' := Lib.hid hd; clear hd hq hr
      go_enter Try.func50, Try.ntmps50
      go_wp2_with (go_at_call 62; refine (dec_none y _ hd').mono ?_; rintro e w' ⟨rfl, rfl⟩)
      go_ret
      exact ⟨rfl, (Keeps.refl _ _).alloc _⟩
    | some n =>
      rw [hd] at hq
      simp only at hq
      have hd' := Lib.hid hd; clear hd hr
      by_cases hl1 : lo ≤ (n : Int)
      · by_cases hl2 : (n : Int) ≤ hi
        · obtain rfl : r = true := by rw [← hq]; simp [hl1, hl2]
          clear hq
          go_enter Try.func50, Try.ntmps50
          go_wp2_with (go_at_call 62; refine (dec_some y n _ hd').mono ?_; rintro e w' ⟨rfl, rfl⟩)
          go_ret
          exact ⟨rfl, (Keeps.refl _ _).alloc _⟩
        · obtain rfl : r = false := by rw [← hq]; simp [hl2]
          have e2 : decide ((n : Int) ≤ hi) = false := by simpa using hl2
          clear hq
          go_enter Try.func50, Try.ntmps50
          go_wp2_with (go_at_call 62; refine (dec_some y n _ hd').mono ?_; rintro e w' ⟨rfl, rfl⟩)
          go_ret
          exact ⟨rfl, (Keeps.refl _ _).alloc _⟩
      · obtain rfl : r = false := by rw [← hq]; simp [hl1]
        clear hq
        go_enter Try.func50, Try.ntmps50
        go_wp2_with (go_at_call 62; refine (dec_some y n _ hd').mono ?_; rintro e w' ⟨rfl, rfl⟩)
        go_ret
        exact ⟨rfl, (Keeps.refl _ _).alloc _⟩
  have d2 : (kind == 2) = false := by simpa using h2
  rw [if_neg h2] at hq
  by_cases h3 : kind = 3
  · subst h3
    rw [if_pos rfl] at hq
    have hq' := Lib.hid hq
    clear d0 d1 d2 h0 h1 h2 hq hr
    go_enter Try.func50, Try.ntmps50
    go_wp2_with (go_at_call 63; refine (slicesContains_any _ cs y r _ (hv2'.out _).out (by omega) hq').mono ?_; rintro e w' ⟨rfl, rfl⟩)
    go_ret
    exact ⟨rfl, (Keeps.refl _ _).alloc _⟩
  have d3 : (kind == 3) = false := by simpa using h3
  rw [if_neg h3] at hq
  by_cases h4 : kind = 4
  · subst h4
    rw [if_pos rfl] at hq
    have hyl : y.data.toList.length = y.size := by simp
    rw [hyl] at hq
    clear d0 d1 d2 d3 h0 h1 h2 h3 hr hyl
    by_cases hl : (y.size : Int) ≤ hi
    · have hw : Hid (isWordB y.data.toList = r) := Lib.hid (by rw [← hq]; simp [hl])
      clear hq
      go_enter Try.func50, Try.ntmps50
      go_wp2_with (go_at_call 59; refine (isWord_any y r _ hs hw).mono ?_; rintro e w' ⟨rfl, rfl⟩)
      go_ret
      exact ⟨rfl, (Keeps.refl _ _).alloc _⟩
    · obtain rfl : r = false := by rw [← hq]; simp [hl]
      clear hq
      go_enter Try.func50, Try.ntmps50
      go_wp2
      go_ret
      exact ⟨rfl, (Keeps.refl _ _).alloc _⟩
  have d4 : (kind == 4) = false := by simpa using h4
  rw [if_neg h4] at hq
  obtain rfl : r = false := hq.symm
  clear hq hr h0 h1 h2 h3 h4
  go_enter Try.func50, Try.ntmps50
  go_wp2
  go_ret
  exact ⟨rfl, (Keeps.refl _ _).alloc _⟩
end Go.Proofs.Ytdjmhjgfjbcdkaa
