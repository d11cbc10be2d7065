/- Named, the code's and the document's, walked. -/
import Derived.Test.YtdannodhlaaoiaaGreatDoorWT05
set_option linter.unusedVariables false
set_option linter.unusedSimpArgs false
namespace Go.Proofs.YtdannodhlaaoiaaGreatDoor
open Go.RowKit

def namedB (head : Int) (name : List UInt8) : Bool :=
  if head = 0 then name.isEmpty else if head = 1 then (addrL name).isSome else if head = 2 then isWordB name && !name.contains 47 else false

theorem empty_eq (s : ByteArray) : (s.toList == []) = s.data.toList.isEmpty := by
  rw [Lib.toList_data]; cases s.data.toList <;> rfl
set_option maxRecDepth 100000 in
set_option maxHeartbeats 1000000 in
theorem named_any (head : Int) (s : ByteArray) (r : Bool) (w : World) (hs : s.size ≤ 9223372036854775807) (hr : Hid (namedB head s.data.toList = r)) :
    Calls Tryz.prog 95 #[.int .i64 head, .string s] w fun e w' => e = .returned (.bool r) ∧ ∃ m, w' = w.drewN m := by
  have hq := hr.out
  unfold namedB at hq
  by_cases h0 : head = 0
  · subst h0
    rw [if_pos rfl] at hq
    have e1 : s.toList.isEmpty = r := by rw [Lib.toList_data]; exact hq
    clear hq hr
    cases r with
    | true =>
      go_enter Tryz.func95, Tryz.ntmps95
      go_wp2
      go_ret
      exact ⟨rfl, 0, rfl⟩
    | false =>
      go_enter Tryz.func95, Tryz.ntmps95
      go_wp2
      go_ret
      exact ⟨rfl, 0, rfl⟩
  have d0 : (head == 0) = false := by simpa using h0
  rw [if_neg h0] at hq
  by_cases h1 : head = 1
  · subst h1
    rw [if_pos rfl] at hq
    clear hr d0
    cases ha : addrL s.data.toList with
    | none =>
      obtain rfl : r = false := by rw [← hq, ha]; rfl
      have ha' := Lib.hid ha; clear ha hq h0
      go_enter Tryz.func95, Tryz.ntmps95
      go_wp2_with (go_at_call 115; refine (addr_none s _ hs ha').mono ?_; rintro e w2 ⟨rfl, m2, rfl⟩)
      go_ret
      exact ⟨rfl, m2, rfl⟩
    | some a =>
      obtain rfl : r = true := by rw [← hq, ha]; rfl
      have ha' := Lib.hid ha; clear ha hq h0
      go_enter Tryz.func95, Tryz.ntmps95
      go_wp2_with (go_at_call 115; refine (addr_some s a _ hs ha').mono ?_; rintro e w2 ⟨rfl, m2, rfl⟩)
      go_ret
      exact ⟨rfl, m2, rfl⟩
  have d1 : (head == 1) = false := by simpa using h1
  rw [if_neg h1] at hq
  by_cases h2 : head = 2
  · subst h2
    rw [if_pos rfl] at hq
    clear hr d0 d1 h0 h1
    obtain ⟨b, hb⟩ : ∃ b, isWordB s.data.toList = b := ⟨_, rfl⟩
    obtain ⟨c, hc⟩ : ∃ c, decide ((47 : UInt8) ∈ s.data.toList) = c := ⟨_, rfl⟩
    have hq2 : (b && !c) = r := by rw [← hq, ← hb, ← hc]; simp
    have hb' := Lib.hid hb; have hc' := Lib.hid hc; clear hb hc hq
    cases b with
    | true =>
      cases c with
      | true =>
        obtain rfl : r = false := hq2.symm
        clear hq2
        go_enter Tryz.func95, Tryz.ntmps95
        go_wp2_with (first | (go_at_call 116; refine (isWord_any s true _ hs hb').mono ?_; rintro e w' ⟨rfl, rfl⟩) | (go_at_call 117; refine (stringsContains_one s 47 _ true hc').mono ?_; rintro e w' ⟨rfl, rfl⟩))
        go_ret
        exact ⟨rfl, 0, rfl⟩
      | false =>
        obtain rfl : r = true := hq2.symm
        clear hq2
        go_enter Tryz.func95, Tryz.ntmps95
        go_wp2_with (first | (go_at_call 116; refine (isWord_any s true _ hs hb').mono ?_; rintro e w' ⟨rfl, rfl⟩) | (go_at_call 117; refine (stringsContains_one s 47 _ false hc').mono ?_; rintro e w' ⟨rfl, rfl⟩))
        go_ret
        exact ⟨rfl, 0, rfl⟩
    | false =>
      obtain rfl : r = false := hq2.symm
      clear hq2
      go_enter Tryz.func95, Tryz.ntmps95
      go_wp2_with (go_at_call 116; refine (isWord_any s false _ hs hb').mono ?_; rintro e w' ⟨rfl, rfl⟩)
      go_ret
      exact ⟨rfl, 0, rfl⟩
  have d2 : (head == 2) = false := by simpa using h2
  rw [if_neg h2] at hq
  obtain rfl : r = false := hq.symm
  clear hq hr h0 h1 h2
  go_enter Tryz.func95, Tryz.ntmps95
  go_wp2
  go_ret
  exact ⟨rfl, 0, rfl⟩

set_option maxRecDepth 100000 in
set_option maxHeartbeats 1000000 in
theorem rNamed_any (head : Int) (s : ByteArray) (r : Bool) (w : World) (hs : s.size ≤ 8796093022000) (hr : Hid (namedB head s.data.toList = r)) :
    Calls Tryz.prog 98 #[.int .i64 head, .string s] w (NewRes (.bool r) w) := by
  have hq := hr.out
  unfold namedB at hq
  by_cases h0 : head = 0
  · subst h0
    rw [if_pos rfl] at hq
    have e1 : s.toList.isEmpty = r := by rw [Lib.toList_data]; exact hq
    clear hq hr
    cases r with
    | true =>
      go_enter Tryz.func98, Tryz.ntmps98
      go_wp2
      go_ret
      exact ⟨rfl, Keeps.refl _ _⟩
    | false =>
      go_enter Tryz.func98, Tryz.ntmps98
      go_wp2
      go_ret
      exact ⟨rfl, Keeps.refl _ _⟩
  have d0 : (head == 0) = false := by simpa using h0
  rw [if_neg h0] at hq
  by_cases h1 : head = 1
  · subst h1
    rw [if_pos rfl] at hq
    clear hr d0
    cases ha : addrL s.data.toList with
    | none =>
      obtain rfl : r = false := by rw [← hq, ha]; rfl
      have ha' := Lib.hid ha; clear ha hq h0
      go_enter Tryz.func98, Tryz.ntmps98
      go_wp2_with (go_at_call 121; refine (rAddr_none s _ hs ha').mono ?_; rintro e w2 ⟨rfl, hk2⟩; have hk2' := Lib.hid hk2; clear hk2)
      go_ret
      exact ⟨rfl, hk2'.out⟩
    | some a =>
      obtain rfl : r = true := by rw [← hq, ha]; rfl
      have ha' := Lib.hid ha; clear ha hq h0
      go_enter Tryz.func98, Tryz.ntmps98
      go_wp2_with (go_at_call 121; refine (rAddr_some s a _ hs ha').mono ?_; rintro e w2 ⟨rfl, hk2⟩; have hk2' := Lib.hid hk2; clear hk2)
      go_ret
      exact ⟨rfl, hk2'.out⟩
  have d1 : (head == 1) = false := by simpa using h1
  rw [if_neg h1] at hq
  by_cases h2 : head = 2
  · subst h2
    rw [if_pos rfl] at hq
    clear hr d0 d1 h0 h1
    obtain ⟨b, hb⟩ : ∃ b, isWordB s.data.toList = b := ⟨_, rfl⟩
    cases b with
    | true =>
      have hb' := Lib.hid hb
      by_cases hm : (47 : UInt8) ∈ s.data.toList
      · obtain rfl : r = false := by rw [← hq, hb]; simpa using hm
        obtain ⟨k, hk⟩ : ∃ k, (partsL 47 s.data.toList).length = k + 2 := by
          rw [partsL_yes hm]
          have := partsL_ne 47 (s.data.toList.drop (before 47 s.data.toList + 1))
          cases hp : partsL 47 (s.data.toList.drop (before 47 s.data.toList + 1)) with
          | nil => exact (this hp).elim
          | cons a l => exact ⟨l.length, by simp⟩
        have e1 : (((k + 2 : Nat) : Int) == 1) = false := by rw [beq_eq_false_iff_ne]; omega
        have e2 : ((k : Int) + 2 == 1) = false := by rw [beq_eq_false_iff_ne]; omega
        have hk' := Lib.hid hk; clear hk hb hq hm
        go_enter Tryz.func98, Tryz.ntmps98
        go_wp2_with (first | (go_at_call 122; refine (rWord_any s true _ hs hb').mono ?_; rintro e w2 ⟨rfl, hk2⟩; have hk2' := Lib.hid hk2; clear hk2) | (go_at_call 123; refine (parts_any s 47 _ hs).mono ?_; rintro e w3 ⟨p3, d3, rfl, ho3, hk3⟩; rw [hk'.out]; have hk3' := Lib.hid hk3; clear hk3 ho3))
        go_ret
        exact ⟨rfl, hk2'.out.trans hk3'.out⟩
      · obtain rfl : r = true := by rw [← hq, hb]; simpa using hm
        have hk : (partsL 47 s.data.toList).length = 1 := by rw [partsL_no hm]; rfl
        have hk' := Lib.hid hk; clear hk hb hq hm
        go_enter Tryz.func98, Tryz.ntmps98
        go_wp2_with (first | (go_at_call 122; refine (rWord_any s true _ hs hb').mono ?_; rintro e w2 ⟨rfl, hk2⟩; have hk2' := Lib.hid hk2; clear hk2) | (go_at_call 123; refine (parts_any s 47 _ hs).mono ?_; rintro e w3 ⟨p3, d3, rfl, ho3, hk3⟩; rw [hk'.out]; have hk3' := Lib.hid hk3; clear hk3 ho3))
        go_ret
        exact ⟨rfl, hk2'.out.trans hk3'.out⟩
    | false =>
      obtain rfl : r = false := by rw [← hq, hb]; rfl
      have hb' := Lib.hid hb; clear hb hq
      go_enter Tryz.func98, Tryz.ntmps98
      go_wp2_with (go_at_call 122; refine (rWord_any s false _ hs hb').mono ?_; rintro e w2 ⟨rfl, hk2⟩; have hk2' := Lib.hid hk2; clear hk2)
      go_ret
      exact ⟨rfl, hk2'.out⟩
  have d2 : (head == 2) = false := by simpa using h2
  rw [if_neg h2] at hq
  obtain rfl : r = false := hq.symm
  clear hq hr h0 h1 h2
  go_enter Tryz.func98, Tryz.ntmps98
  go_wp2
  go_ret
  exact ⟨rfl, Keeps.refl _ _⟩
end Go.Proofs.YtdannodhlaaoiaaGreatDoor
/- slices.Contains at texts; Right, the code's and the document's, walked. -/
namespace Go.Proofs.YtdannodhlaaoiaaGreatDoor
open Go.RowKit

theorem StrsAt.alloc {w : World} {v : Value} {xs : List (List UInt8)} (h : StrsAt w v xs) (o : Obj) : StrsAt (w.alloc o) v xs := h.keep ((Keeps.refl (fun _ => False) w).alloc o) (fun _ _ _ f => f)
def IdxPost (b : Bool) (w : World) (e : Ending) (w' : World) : Prop := (∃ r : Int, e = .returned (.int .i64 r) ∧ decide (0 ≤ r) = b) ∧ w = w'
set_option maxRecDepth 100000 in
theorem slicesIndex_any (v : Value) (xs : List (List UInt8)) (y : ByteArray) (b : Bool) (w : World) (hb : Hid (xs.contains y.data.toList = b)) (hv : StrsAt w v xs) (hl : xs.length ≤ 9223372036854775807) :
    Calls Tryz.prog 131 #[v, .string y] w (IdxPost b w) := by
  obtain ⟨p, c, rfl, hv⟩ := hv
  have hv' := Lib.hid hv; clear hv
  go_enter Tryz.func131, Tryz.ntmps131
  go_wp2
  go_loop [8] (fun i => ∃ k : Nat, k ≤ xs.length ∧ i = .int .i64 k ∧ Hid (y.data.toList ∉ xs.take k)) (fun i => xs.length - (intOf i).toNat)
  case atStart => exact ⟨0, by omega, rfl, Lib.hid (by simp)⟩
  case round =>
    obtain ⟨k, hk, rfl, hno⟩ := hrel
    by_cases hlt : k < xs.length
    · obtain ⟨g, o, rfl, hr⟩ := hv'.out (by omega)
      obtain ⟨X, hX⟩ : ∃ X : ByteArray, X = ⟨(xs[k]).toArray⟩ := ⟨_, rfl⟩
      have c1 : w.cell? ⟨g, o + k, none⟩ = some (.string X) := by rw [hX]; exact hr k _ (by simp [hlt, strv])
      have hXl : X.toList = xs[k] := by rw [hX, Lib.toList_data]
      clear hr hX
      by_cases he : y.data.toList = xs[k]
      · have e1 : (y.toList == X.toList) = true := by rw [hXl, Lib.toList_data, he]; simp
        have hin : Hid (b = true) := Lib.hid (by rw [← hb.out, he]; simp)
        have hXl' := Lib.hid hXl; clear he hXl hno
        go_wp2
        go_ret
        exact ⟨⟨(k : Int), rfl, by rw [hin.out]; simp⟩, rfl⟩
      · have e1 : (y.toList == X.toList) = false := by rw [hXl, Lib.toList_data]; simpa using he
        have hno' : Hid (y.data.toList ∉ xs.take (k + 1)) := Lib.hid (by
          rw [List.take_succ_eq_append_getElem hlt]
          intro h
          rcases List.mem_append.1 h with h | h
          · exact hno.out h
          · exact he (by simpa using h))
        have hXl' := Lib.hid hXl; clear he hXl hno
        go_wp2
        go_round
        case rel => exact ⟨k + 1, by omega, by go_num, hno'⟩
        case measure => simp [intOf]; omega
    · have hin : Hid (b = false) := Lib.hid (by
        rw [← hb.out]
        have := hno.out
        rw [List.take_of_length_le (by omega)] at this
        rw [← Bool.not_eq_true]; simpa using this)
      clear hno
      go_wp2
      go_ret
      exact ⟨⟨-1, rfl, by rw [hin.out]; rfl⟩, rfl⟩
theorem slicesContains_any (v : Value) (xs : List (List UInt8)) (y : ByteArray) (r : Bool) (w : World) (hv : StrsAt w v xs) (hl : xs.length ≤ 9223372036854775807) (hr : Hid (xs.contains y.data.toList = r)) :
    Calls Tryz.prog 119 #[v, .string y] w fun e w' => e = .returned (.bool r) ∧ w = w' := by
  obtain ⟨p, c, rfl, hv0⟩ := hv
  have hv : StrsAt w (.slice p xs.length c) xs := ⟨p, c, rfl, hv0⟩
  have hv' := Lib.hid hv; clear hv hv0
  go_enter Tryz.func119, Tryz.ntmps119
  go_wp2_with fail
  refine (slicesIndex_any _ xs y r _ hr hv'.out hl).mono ?_
  rintro e w' ⟨⟨i, rfl, hi⟩, rfl⟩
  cases r with
  | true =>
    have hi' := Lib.hid hi; clear hi
    go_wp2
    go_ret
    exact ⟨by show Ending.returned (.bool (decide (0 ≤ i))) = _; rw [hi'.out], rfl⟩
  | false =>
    have hi' := Lib.hid hi; clear hi
    go_wp2
    go_ret
    exact ⟨by show Ending.returned (.bool (decide (0 ≤ i))) = _; rw [hi'.out], rfl⟩

def rightB (kind lo hi : Int) (cs : List (List UInt8)) (v : List UInt8) : Bool :=
  if kind = 0 then (addrL v).isSome else if kind = 1 then (netL v).isSome
  else if kind = 2 then (match decL v with | some n => decide (lo ≤ (n : Int) ∧ (n : Int) ≤ hi) | none => false)
  else if kind = 3 then cs.contains v else if kind = 4 then decide ((v.length : Int) ≤ hi) && isWordB v else false

/-- a row as a value -/
def rowV (head : Value) (name : Value) (kind lo hi : Int) (cv df cl : Value) : Value := .agg #[head, name, .int .i64 kind, .int .i64 lo, .int .i64 hi, cv, df, cl]

set_option maxRecDepth 100000 in
set_option maxHeartbeats 2000000 in
theorem right_any (h : Int) (nm df : ByteArray) (kind lo hi cl : Int) (p : Option Addr) (cc : Nat) (cs : List (List UInt8)) (y : ByteArray) (r : Bool) (w : World) (hs : y.size ≤ 9223372036854775807) (hcs : cs.length ≤ 1000)
    (hv : Hid (StrsAt w (.slice p cs.length cc) cs)) (hr : Hid (rightB kind lo hi cs y.data.toList = r)) :
    Calls Tryz.prog 96 #[.agg #[.int .i64 h, .string nm, .int .i64 kind, .int .i64 lo, .int .i64 hi, .slice p cs.length cc, .string df, .int .i64 cl], .string y] w (NewRes (.bool r) w) := by
  have hq := hr.out
  unfold rightB at hq
  have hv2 := fun o => Lib.hid (hv.out.alloc o)
  have hv2' := Lib.hid hv2; clear hv2
  by_cases h0 : kind = 0
  · subst h0
    rw [if_pos rfl] at hq
    cases ha : addrL y.data.toList with
    | none =>
      obtain rfl : r = false := by rw [← hq, ha]; rfl
      have ha' := Lib.hid ha; clear ha hq hr
      go_enter Tryz.func96, Tryz.ntmps96
      go_wp2_with (go_at_call 115; refine (addr_none y _ hs ha').mono ?_; rintro e w2 ⟨rfl, m2, rfl⟩)
      go_ret
      exact ⟨rfl, ((Keeps.refl _ _).alloc _).drewN _⟩
    | some a =>
      obtain rfl : r = true := by rw [← hq, ha]; rfl
      have ha' := Lib.hid ha; clear ha hq hr
      go_enter Tryz.func96, Tryz.ntmps96
      go_wp2_with (go_at_call 115; refine (addr_some y a _ hs ha').mono ?_; rintro e w2 ⟨rfl, m2, rfl⟩)
      go_ret
      exact ⟨rfl, ((Keeps.refl _ _).alloc _).drewN _⟩
  have d0 : (kind == 0) = false := by simpa using h0
  rw [if_neg h0] at hq
  by_cases h1 : kind = 1
  · subst h1
    rw [if_pos rfl] at hq
    clear d0 h0
    cases ha : netL y.data.toList with
    | none =>
      obtain rfl : r = false := by rw [← hq, ha]; rfl
      have ha' := Lib.hid ha; clear ha hq hr
      go_enter Tryz.func96, Tryz.ntmps96
      go_wp2_with (go_at_call 118; refine (net_none y _ hs ha').mono ?_; rintro e w2 ⟨rfl, m2, rfl⟩)
      go_ret
      exact ⟨rfl, ((Keeps.refl _ _).alloc _).drewN _⟩
    | some x =>
      obtain ⟨a, n⟩ := x
      obtain rfl : r = true := by rw [← hq, ha]; rfl
      have ha' := Lib.hid ha; clear ha hq hr
      go_enter Tryz.func96, Tryz.ntmps96
      go_wp2_with (go_at_call 118; refine (net_some y a n _ hs ha').mono ?_; rintro e w2 ⟨rfl, m2, rfl⟩)
      go_ret
      exact ⟨rfl, ((Keeps.refl _ _).alloc _).drewN _⟩
  have d1 : (kind == 1) = false := by simpa using h1
  rw [if_neg h1] at hq
  by_cases h2 : kind = 2
  · subst h2
    rw [if_pos rfl] at hq
    clear d0 d1 h0 h1
    cases hd : decL y.data.toList with
    | none =>
      obtain rfl : r = false := by rw [← hq, hd]
      have hd' := Lib.hid hd; clear hd hq hr
      go_enter Tryz.func96, Tryz.ntmps96
      go_wp2_with (go_at_call 114; refine (dec_none y _ hd').mono ?_; rintro e w' ⟨rfl, rfl⟩)
      go_ret
      exact ⟨rfl, (Keeps.refl _ _).alloc _⟩
    | some n =>
      rw [hd] at hq
      simp only at hq
      have hd' := Lib.hid hd; clear hd hr
      by_cases hl1 : lo ≤ (n : Int)
      · by_cases hl2 : (n : Int) ≤ hi
        · obtain rfl : r = true := by rw [← hq]; simp [hl1, hl2]
          clear hq
          go_enter Tryz.func96, Tryz.ntmps96
          go_wp2_with (go_at_call 114; refine (dec_some y n _ hd').mono ?_; rintro e w' ⟨rfl, rfl⟩)
          go_ret
          exact ⟨rfl, (Keeps.refl _ _).alloc _⟩
        · obtain rfl : r = false := by rw [← hq]; simp [hl2]
          have e2 : decide ((n : Int) ≤ hi) = false := by simpa using hl2
          clear hq
          go_enter Tryz.func96, Tryz.ntmps96
          go_wp2_with (go_at_call 114; refine (dec_some y n _ hd').mono ?_; rintro e w' ⟨rfl, rfl⟩)
          go_ret
          exact ⟨rfl, (Keeps.refl _ _).alloc _⟩
      · obtain rfl : r = false := by rw [← hq]; simp [hl1]
        clear hq
        go_enter Tryz.func96, Tryz.ntmps96
        go_wp2_with (go_at_call 114; refine (dec_some y n _ hd').mono ?_; rintro e w' ⟨rfl, rfl⟩)
        go_ret
        exact ⟨rfl, (Keeps.refl _ _).alloc _⟩
  have d2 : (kind == 2) = false := by simpa using h2
  rw [if_neg h2] at hq
  by_cases h3 : kind = 3
  · subst h3
    rw [if_pos rfl] at hq
    have hq' := Lib.hid hq
    clear d0 d1 d2 h0 h1 h2 hq hr
    go_enter Tryz.func96, Tryz.ntmps96
    go_wp2_with (go_at_call 119; refine (slicesContains_any _ cs y r _ (hv2'.out _).out (by omega) hq').mono ?_; rintro e w' ⟨rfl, rfl⟩)
    go_ret
    exact ⟨rfl, (Keeps.refl _ _).alloc _⟩
  have d3 : (kind == 3) = false := by simpa using h3
  rw [if_neg h3] at hq
  by_cases h4 : kind = 4
  · subst h4
    rw [if_pos rfl] at hq
    have hyl : y.data.toList.length = y.size := by simp
    rw [hyl] at hq
    clear d0 d1 d2 d3 h0 h1 h2 h3 hr hyl
    by_cases hl : (y.size : Int) ≤ hi
    · have hw : Hid (isWordB y.data.toList = r) := Lib.hid (by rw [← hq]; simp [hl])
      clear hq
      go_enter Tryz.func96, Tryz.ntmps96
      go_wp2_with (go_at_call 116; refine (isWord_any y r _ hs hw).mono ?_; rintro e w' ⟨rfl, rfl⟩)
      go_ret
      exact ⟨rfl, (Keeps.refl _ _).alloc _⟩
    · obtain rfl : r = false := by rw [← hq]; simp [hl]
      clear hq
      go_enter Tryz.func96, Tryz.ntmps96
      go_wp2
      go_ret
      exact ⟨rfl, (Keeps.refl _ _).alloc _⟩
  have d4 : (kind == 4) = false := by simpa using h4
  rw [if_neg h4] at hq
  obtain rfl : r = false := hq.symm
  clear hq hr h0 h1 h2 h3 h4
  go_enter Tryz.func96, Tryz.ntmps96
  go_wp2
  go_ret
  exact ⟨rfl, (Keeps.refl _ _).alloc _⟩
end Go.Proofs.YtdannodhlaaoiaaGreatDoor
/- The document's Right, walked. -/
namespace Go.Proofs.YtdannodhlaaoiaaGreatDoor
open Go.RowKit

set_option maxRecDepth 100000 in
set_option maxHeartbeats 2000000 in
theorem rRight_any (h : Int) (nm df : ByteArray) (kind lo hi cl : Int) (p : Option Addr) (cc : Nat) (cs : List (List UInt8)) (y : ByteArray) (r : Bool) (w : World) (hs : y.size ≤ 8796093022000) (hcs : cs.length ≤ 1000)
    (hv : Hid (StrsAt w (.slice p cs.length cc) cs)) (hr : Hid (rightB kind lo hi cs y.data.toList = r)) :
    Calls Tryz.prog 99 #[.agg #[.int .i64 h, .string nm, .int .i64 kind, .int .i64 lo, .int .i64 hi, .slice p cs.length cc, .string df, .int .i64 cl], .string y] w (NewRes (.bool r) w) := by
  have hq := hr.out
  unfold rightB at hq
  have hv2 := fun o => Lib.hid (hv.out.alloc o)
  have hv2' := Lib.hid hv2; clear hv2
  by_cases h0 : kind = 0
  · subst h0
    rw [if_pos rfl] at hq
    cases ha : addrL y.data.toList with
    | none =>
      obtain rfl : r = false := by rw [← hq, ha]; rfl
      have ha' := Lib.hid ha; clear ha hq hr
      go_enter Tryz.func99, Tryz.ntmps99
      go_wp2_with (go_at_call 121; refine (rAddr_none y _ hs ha').mono ?_; rintro e w2 ⟨rfl, hk2⟩; have hk2' := Lib.hid hk2; clear hk2)
      go_ret
      exact ⟨rfl, ((Keeps.refl _ _).alloc _).trans hk2'.out⟩
    | some a =>
      obtain rfl : r = true := by rw [← hq, ha]; rfl
      have ha' := Lib.hid ha; clear ha hq hr
      go_enter Tryz.func99, Tryz.ntmps99
      go_wp2_with (go_at_call 121; refine (rAddr_some y a _ hs ha').mono ?_; rintro e w2 ⟨rfl, hk2⟩; have hk2' := Lib.hid hk2; clear hk2)
      go_ret
      exact ⟨rfl, ((Keeps.refl _ _).alloc _).trans hk2'.out⟩
  have d0 : (kind == 0) = false := by simpa using h0
  rw [if_neg h0] at hq
  by_cases h1 : kind = 1
  · subst h1
    rw [if_pos rfl] at hq
    clear d0 h0
    cases ha : netL y.data.toList with
    | none =>
      obtain rfl : r = false := by rw [← hq, ha]; rfl
      have ha' := Lib.hid ha; clear ha hq hr
      go_enter Tryz.func99, Tryz.ntmps99
      go_wp2_with (go_at_call 124; refine (rNet_none y _ hs ha').mono ?_; rintro e w2 ⟨rfl, hk2⟩; have hk2' := Lib.hid hk2; clear hk2)
      go_ret
      exact ⟨rfl, ((Keeps.refl _ _).alloc _).trans hk2'.out⟩
    | some x =>
      obtain ⟨a, n⟩ := x
      obtain rfl : r = true := by rw [← hq, ha]; rfl
      have ha' := Lib.hid ha; clear ha hq hr
      go_enter Tryz.func99, Tryz.ntmps99
      go_wp2_with (go_at_call 124; refine (rNet_some y a n _ hs ha').mono ?_; rintro e w2 ⟨rfl, hk2⟩; have hk2' := Lib.hid hk2; clear hk2)
      go_ret
      exact ⟨rfl, ((Keeps.refl _ _).alloc _).trans hk2'.out⟩
  have d1 : (kind == 1) = false := by simpa using h1
  rw [if_neg h1] at hq
  by_cases h2 : kind = 2
  · subst h2
    rw [if_pos rfl] at hq
    clear d0 d1 h0 h1
    cases hd : decL y.data.toList with
    | none =>
      obtain rfl : r = false := by rw [← hq, hd]
      have hd' := Lib.hid hd; clear hd hq hr
      go_enter Tryz.func99, Tryz.ntmps99
      go_wp2_with (go_at_call 125; refine (rDec_none y _ hd').mono ?_; rintro e w' ⟨rfl, rfl⟩)
      go_ret
      exact ⟨rfl, (Keeps.refl _ _).alloc _⟩
    | some n =>
      rw [hd] at hq
      simp only at hq
      have hd' := Lib.hid hd; clear hd hr
      by_cases hl1 : lo ≤ (n : Int)
      · by_cases hl2 : (n : Int) ≤ hi
        · obtain rfl : r = true := by rw [← hq]; simp [hl1, hl2]
          clear hq
          go_enter Tryz.func99, Tryz.ntmps99
          go_wp2_with (go_at_call 125; refine (rDec_some y n _ hd').mono ?_; rintro e w' ⟨rfl, rfl⟩)
          go_ret
          exact ⟨rfl, (Keeps.refl _ _).alloc _⟩
        · obtain rfl : r = false := by rw [← hq]; simp [hl2]
          have e2 : decide ((n : Int) ≤ hi) = false := by simpa using hl2
          clear hq
          go_enter Tryz.func99, Tryz.ntmps99
          go_wp2_with (go_at_call 125; refine (rDec_some y n _ hd').mono ?_; rintro e w' ⟨rfl, rfl⟩)
          go_ret
          exact ⟨rfl, (Keeps.refl _ _).alloc _⟩
      · obtain rfl : r = false := by rw [← hq]; simp [hl1]
        clear hq
        go_enter Tryz.func99, Tryz.ntmps99
        go_wp2_with (go_at_call 125; refine (rDec_some y n _ hd').mono ?_; rintro e w' ⟨rfl, rfl⟩)
        go_ret
        exact ⟨rfl, (Keeps.refl _ _).alloc _⟩
  have d2 : (kind == 2) = false := by simpa using h2
  rw [if_neg h2] at hq
  by_cases h3 : kind = 3
  · subst h3
    rw [if_pos rfl] at hq
    have hq' := Lib.hid hq
    have hvo := hv2'.out (.cells #[.int .i64 h, .string nm, .int .i64 3, .int .i64 lo, .int .i64 hi, .slice p cs.length cc, .string df, .int .i64 cl] 157)
    obtain ⟨p', c', hpe, hr0⟩ := hvo.out
    have e1 : p' = p := by injection hpe with e _ _; exact e.symm
    subst e1
    have hr0' := Lib.hid hr0
    clear d0 d1 d2 h0 h1 h2 hq hr hpe hr0 hvo
    go_enter Tryz.func99, Tryz.ntmps99
    go_wp2
    go_loop [12] (fun i => ∃ k : Nat, k ≤ cs.length ∧ i = .int .i64 k ∧ Hid (y.data.toList ∉ cs.take k)) (fun i => cs.length - (intOf i).toNat)
    case atStart => exact ⟨0, by omega, rfl, Lib.hid (by simp)⟩
    case round =>
      obtain ⟨k, hk, rfl, hno⟩ := hrel
      by_cases hlt : k < cs.length
      · obtain ⟨g, o, rfl, hrr⟩ := hr0'.out (by omega)
        obtain ⟨X, hX⟩ : ∃ X : ByteArray, X = ⟨(cs[k]).toArray⟩ := ⟨_, rfl⟩
        have c1 := hrr k (.string X) (by rw [hX]; simp [hlt, strv])
        have hXl : X.toList = cs[k] := by rw [hX, Lib.toList_data]
        clear hrr hX
        by_cases he : y.data.toList = cs[k]
        · have e1 : (X.toList == y.toList) = true := by rw [hXl, Lib.toList_data, he]; simp
          have hin : Hid (r = true) := Lib.hid (by rw [← hq'.out, he]; simp)
          have hXl' := Lib.hid hXl; clear he hXl hno
          go_wp2
          go_ret
          exact ⟨by rw [hin.out]; rfl, (Keeps.refl _ _).alloc _⟩
        · have e1 : (X.toList == y.toList) = false := by rw [hXl, Lib.toList_data]; simpa using (fun h => he h.symm)
          have hno' : Hid (y.data.toList ∉ cs.take (k + 1)) := Lib.hid (by
            rw [List.take_succ_eq_append_getElem hlt]
            intro h
            rcases List.mem_append.1 h with h | h
            · exact hno.out h
            · exact he (by simpa using h))
          have hXl' := Lib.hid hXl; clear he hXl hno
          go_wp2
          go_round
          case rel => exact ⟨k + 1, by omega, by go_num, hno'⟩
          case measure => simp [intOf]; omega
      · have hin : Hid (r = false) := Lib.hid (by
          rw [← hq'.out]
          have := hno.out
          rw [List.take_of_length_le (by omega)] at this
          rw [← Bool.not_eq_true]; simpa using this)
        clear hno
        go_wp2
        go_ret
        exact ⟨by rw [hin.out]; rfl, (Keeps.refl _ _).alloc _⟩
  have d3 : (kind == 3) = false := by simpa using h3
  rw [if_neg h3] at hq
  by_cases h4 : kind = 4
  · subst h4
    rw [if_pos rfl] at hq
    have hyl : y.data.toList.length = y.size := by simp
    rw [hyl] at hq
    clear d0 d1 d2 d3 h0 h1 h2 h3 hr hyl
    obtain ⟨c, hc⟩ : ∃ c, isWordB y.data.toList = c := ⟨_, rfl⟩
    have hc' := Lib.hid hc
    cases c with
    | true =>
      by_cases hl : (y.size : Int) ≤ hi
      · obtain rfl : r = true := by rw [← hq, hc]; simp [hl]
        clear hq hc
        go_enter Tryz.func99, Tryz.ntmps99
        go_wp2_with (go_at_call 122; refine (rWord_any y true _ hs hc').mono ?_; rintro e w2 ⟨rfl, hk2⟩; have hk2' := Lib.hid hk2; have cHi := hk2.cell (p := ⟨w.heap.size, 4, none⟩) (by simp) id; have cHi2 : w2.cell? ⟨w.heap.size, 4, none⟩ = some (.int .i64 hi) := cHi.trans (by simp [go_sem]); clear hk2 cHi)
        go_ret
        exact ⟨rfl, ((Keeps.refl _ _).alloc _).trans hk2'.out⟩
      · obtain rfl : r = false := by rw [← hq]; simp [hl]
        have e2 : decide ((y.size : Int) ≤ hi) = false := by simpa using hl
        clear hq hc
        go_enter Tryz.func99, Tryz.ntmps99
        go_wp2_with (go_at_call 122; refine (rWord_any y true _ hs hc').mono ?_; rintro e w2 ⟨rfl, hk2⟩; have hk2' := Lib.hid hk2; have cHi := hk2.cell (p := ⟨w.heap.size, 4, none⟩) (by simp) id; have cHi2 : w2.cell? ⟨w.heap.size, 4, none⟩ = some (.int .i64 hi) := cHi.trans (by simp [go_sem]); clear hk2 cHi)
        go_ret
        exact ⟨rfl, ((Keeps.refl _ _).alloc _).trans hk2'.out⟩
    | false =>
      obtain rfl : r = false := by rw [← hq, hc]; simp
      clear hq hc
      go_enter Tryz.func99, Tryz.ntmps99
      go_wp2_with (go_at_call 122; refine (rWord_any y false _ hs hc').mono ?_; rintro e w2 ⟨rfl, hk2⟩; have hk2' := Lib.hid hk2; clear hk2)
      go_ret
      exact ⟨rfl, ((Keeps.refl _ _).alloc _).trans hk2'.out⟩
  have d4 : (kind == 4) = false := by simpa using h4
  rw [if_neg h4] at hq
  obtain rfl : r = false := hq.symm
  clear hq hr h0 h1 h2 h3 h4
  go_enter Tryz.func99, Tryz.ntmps99
  go_wp2
  go_ret
  exact ⟨rfl, (Keeps.refl _ _).alloc _⟩
end Go.Proofs.YtdannodhlaaoiaaGreatDoor
