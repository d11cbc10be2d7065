/- slices.Contains at texts; Right, the code's and the document's, walked. -/
import Derived.Test.YtialookpnoaogaaGreatAA05
set_option linter.unusedVariables false
set_option linter.unusedSimpArgs false
namespace Go.Proofs.YtialookpnoaogaaGreat
open Go.RowKit

theorem StrsAt.alloc {w : World} {v : Value} {xs : List (List UInt8)} (h : StrsAt w v xs) (o : Obj) : StrsAt (w.alloc o) v xs := h.keep ((Keeps.refl (fun _ => False) w).alloc o) (fun _ _ _ f => f)
def IdxPost (b : Bool) (w : World) (e : Ending) (w' : World) : Prop := (∃ r : Int, e = .returned (.int .i64 r) ∧ decide (0 ≤ r) = b) ∧ w = w'
set_option maxRecDepth 100000 in
theorem slicesIndex_any (v : Value) (xs : List (List UInt8)) (y : ByteArray) (b : Bool) (w : World) (hb : Hid (xs.contains y.data.toList = b)) (hv : StrsAt w v xs) (hl : xs.length ≤ 9223372036854775807) :
    Calls Tryz.prog 75 #[v, .string y] w (IdxPost b w) := by
  obtain ⟨p, c, rfl, hv⟩ := hv
  have hv' := Lib.hid hv; clear hv
  go_enter Tryz.func75, Tryz.ntmps75
  go_wp2
  go_loop [8] (fun i => ∃ k : Nat, k ≤ xs.length ∧ i = .int .i64 k ∧ Hid (y.data.toList ∉ xs.take k)) (fun i => xs.length - (intOf i).toNat)
  case atStart => exact ⟨0, by omega, rfl, Lib.hid (by simp)⟩
  case round =>
    obtain ⟨k, hk, rfl, hno⟩ := hrel
    by_cases hlt : k < xs.length
    · obtain ⟨g, o, rfl, hr⟩ := hv'.out (by omega)
      obtain ⟨X, hX⟩ : ∃ X : ByteArray, X = ⟨(xs[k]).toArray⟩ := ⟨_, rfl⟩
      have c1 : w.cell? ⟨g, o + k, none⟩ = some (.string X) := by rw [hX]; exact hr k _ (by simp [hlt, strv])
      have hXl : X.toList = xs[k] := by rw [hX, Lib.toList_data]
      clear hr hX
      by_cases he : y.data.toList = xs[k]
      · have e1 : (y.toList == X.toList) = true := by rw [hXl, Lib.toList_data, he]; simp
        have hin : Hid (b = true) := Lib.hid (by rw [← hb.out, he]; simp)
        have hXl' := Lib.hid hXl; clear he hXl hno
        go_wp2
        go_ret
        exact ⟨⟨(k : Int), rfl, by rw [hin.out]; simp⟩, rfl⟩
      · have e1 : (y.toList == X.toList) = false := by rw [hXl, Lib.toList_data]; simpa using he
        have hno' : Hid (y.data.toList ∉ xs.take (k + 1)) := Lib.hid (by
          rw [List.take_succ_eq_append_getElem hlt]
          intro h
          rcases List.mem_append.1 h with h | h
          · exact hno.out h
          · exact he (by simpa using h))
        have hXl' := Lib.hid hXl; clear he hXl hno
        go_wp2
        go_round
        case rel => exact ⟨k + 1, by omega, by go_num, hno'⟩
        case measure => simp [intOf]; omega
    · have hin : Hid (b = false) := Lib.hid (by
        rw [← hb.out]
        have := hno.out
        rw [List.take_of_length_le (by omega)] at this
        rw [← Bool.not_eq_true]; simpa using this)
      clear hno
      go_wp2
      go_ret
      exact ⟨⟨-1, rfl, by rw [hin.out]; rfl⟩, rfl⟩
theorem slicesContains_any (v : Value) (xs : List (List UInt8)) (y : ByteArray) (r : Bool) (w : World) (hv : StrsAt w v xs) (hl : xs.length ≤ 9223372036854775807) (hr : Hid (xs.contains y.data.toList = r)) :
    Calls Tryz.prog 40 #[v, .string y] w fun e w' => e = .returned (.bool r) ∧ w = w' := by
  obtain ⟨p, c, rfl, hv0⟩ := hv
  have hv : StrsAt w (.slice p xs.length c) xs := ⟨p, c, rfl, hv0⟩
  have hv' := Lib.hid hv; clear hv hv0
  go_enter Tryz.func40, Tryz.ntmps40
  go_wp2_with fail
  refine (slicesIndex_any _ xs y r _ hr hv'.out hl).mono ?_
  rintro e w' ⟨⟨i, rfl, hi⟩, rfl⟩
  cases r with
  | true =>
    have hi' := Lib.hid hi; clear hi
    go_wp2
    go_ret
    exact ⟨by show Ending.returned (.bool (decide (0 ≤ i))) = _; rw [hi'.out], rfl⟩
  | false =>
    have hi' := Lib.hid hi; clear hi
    go_wp2
    go_ret
    exact ⟨by show Ending.returned (.bool (decide (0 ≤ i))) = _; rw [hi'.out], rfl⟩

def rightB (kind lo hi : Int) (cs : List (List UInt8)) (v : List UInt8) : Bool :=
  if kind = 0 then (addrL v).isSome else if kind = 1 then (netL v).isSome
  else if kind = 2 then (match decL v with | some n => decide (lo ≤ (n : Int) ∧ (n : Int) ≤ hi) | none => false)
  else if kind = 3 then cs.contains v else if kind = 4 then decide ((v.length : Int) ≤ hi) && isWordB v else false

/-- a row as a value -/
def rowV (head : Value) (name : Value) (kind lo hi : Int) (cv df cl : Value) : Value := .agg #[head, name, .int .i64 kind, .int .i64 lo, .int .i64 hi, cv, df, cl]

set_option maxRecDepth 100000 in
set_option maxHeartbeats 2000000 in
theorem right_any (h : Int) (nm df : ByteArray) (kind lo hi cl : Int) (p : Option Addr) (cc : Nat) (cs : List (List UInt8)) (y : ByteArray) (r : Bool) (w : World) (hs : y.size ≤ 9223372036854775807) (hcs : cs.length ≤ 1000)
    (hv : Hid (StrsAt w (.slice p cs.length cc) cs)) (hr : Hid (rightB kind lo hi cs y.data.toList = r)) :
    Calls Tryz.prog 114 #[.agg #[.int .i64 h, .string nm, .int .i64 kind, .int .i64 lo, .int .i64 hi, .slice p cs.length cc, .string df, .int .i64 cl], .string y] w (NewRes (.bool r) w) := by
  have hq := hr.out
  unfold rightB at hq
  have hv2 := fun o => Lib.hid (hv.out.alloc o)
  have hv2' := Lib.hid hv2; clear hv2
  by_cases h0 : kind = 0
  · subst h0
    rw [if_pos rfl] at hq
    cases ha : addrL y.data.toList with
    | none =>
      obtain rfl : r = false := by rw [← hq, ha]; rfl
      have ha' := Lib.hid ha; clear ha hq hr
      go_enter Tryz.func114, Tryz.ntmps114
      go_wp2_with (go_at_call 36; refine (addr_none y _ hs ha').mono ?_; rintro e w2 ⟨rfl, m2, rfl⟩)
      go_ret
      exact ⟨rfl, ((Keeps.refl _ _).alloc _).drewN _⟩
    | some a =>
      obtain rfl : r = true := by rw [← hq, ha]; rfl
      have ha' := Lib.hid ha; clear ha hq hr
      go_enter Tryz.func114, Tryz.ntmps114
      go_wp2_with (go_at_call 36; refine (addr_some y a _ hs ha').mono ?_; rintro e w2 ⟨rfl, m2, rfl⟩)
      go_ret
      exact ⟨rfl, ((Keeps.refl _ _).alloc _).drewN _⟩
  have d0 : (kind == 0) = false := by simpa using h0
  rw [if_neg h0] at hq
  by_cases h1 : kind = 1
  · subst h1
    rw [if_pos rfl] at hq
    clear d0 h0
    cases ha : netL y.data.toList with
    | none =>
      obtain rfl : r = false := by rw [← hq, ha]; rfl
      have ha' := Lib.hid ha; clear ha hq hr
      go_enter Tryz.func114, Tryz.ntmps114
      go_wp2_with (go_at_call 56; refine (net_none y _ hs ha').mono ?_; rintro e w2 ⟨rfl, m2, rfl⟩)
      go_ret
      exact ⟨rfl, ((Keeps.refl _ _).alloc _).drewN _⟩
    | some x =>
      obtain ⟨a, n⟩ := x
      obtain rfl : r = true := by rw [← hq, ha]; rfl
      have ha' := Lib.hid ha; clear ha hq hr
      go_enter Tryz.func114, Tryz.ntmps114
      go_wp2_with (go_at_call 56; refine (net_some y a n _ hs ha').mono ?_; rintro e w2 ⟨rfl, m2, rfl⟩)
      go_ret
      exact ⟨rfl, ((Keeps.refl _ _).alloc _).drewN _⟩
  have d1 : (kind == 1) = false := by simpa using h1
  rw [if_neg h1] at hq
  by_cases h2 : kind = 2
  · subst h2
    rw [if_pos rfl] at hq
    clear d0 d1 h0 h1
    cases hd : decL y.data.toList with
    | none =>
      obtain rfl : r = false := by rw [← hq, hd]
      have hd' := Lib.hid hd; clear hd hq hr
      go_enter Tryz.func114, Tryz.ntmps114
      go_wp2_with (go_at_call 55; refine (dec_none y _ hd').mono ?_; rintro e w' ⟨rfl, rfl⟩)
      go_ret
      exact ⟨rfl, (Keeps.refl _ _).alloc _⟩
    | some n =>
      rw [hd] at hq
      simp only at hq
      have hd' := Lib.hid hd; clear hd hr
      by_cases hl1 : lo ≤ (n : Int)
      · by_cases hl2 : (n : Int) ≤ hi
        · obtain rfl : r = true := by rw [← hq]; simp [hl1, hl2]
          clear hq
          go_enter Tryz.func114, Tryz.ntmps114
          go_wp2_with (go_at_call 55; refine (dec_some y n _ hd').mono ?_; rintro e w' ⟨rfl, rfl⟩)
          go_ret
          exact ⟨rfl, (Keeps.refl _ _).alloc _⟩
        · obtain rfl : r = false := by rw [← hq]; simp [hl2]
          have e2 : decide ((n : Int) ≤ hi) = false := by simpa using hl2
          clear hq
          go_enter Tryz.func114, Tryz.ntmps114
          go_wp2_with (go_at_call 55; refine (dec_some y n _ hd').mono ?_; rintro e w' ⟨rfl, rfl⟩)
          go_ret
          exact ⟨rfl, (Keeps.refl _ _).alloc _⟩
      · obtain rfl : r = false := by rw [← hq]; simp [hl1]
        clear hq
        go_enter Tryz.func114, Tryz.ntmps114
        go_wp2_with (go_at_call 55; refine (dec_some y n _ hd').mono ?_; rintro e w' ⟨rfl, rfl⟩)
        go_ret
        exact ⟨rfl, (Keeps.refl _ _).alloc _⟩
  have d2 : (kind == 2) = false := by simpa using h2
  rw [if_neg h2] at hq
  by_cases h3 : kind = 3
  · subst h3
    rw [if_pos rfl] at hq
    have hq' := Lib.hid hq
    clear d0 d1 d2 h0 h1 h2 hq hr
    go_enter Tryz.func114, Tryz.ntmps114
    go_wp2_with (go_at_call 40; refine (slicesContains_any _ cs y r _ (hv2'.out _).out (by omega) hq').mono ?_; rintro e w' ⟨rfl, rfl⟩)
    go_ret
    exact ⟨rfl, (Keeps.refl _ _).alloc _⟩
  have d3 : (kind == 3) = false := by simpa using h3
  rw [if_neg h3] at hq
  by_cases h4 : kind = 4
  · subst h4
    rw [if_pos rfl] at hq
    have hyl : y.data.toList.length = y.size := by simp
    rw [hyl] at hq
    clear d0 d1 d2 d3 h0 h1 h2 h3 hr hyl
    by_cases hl : (y.size : Int) ≤ hi
    · have hw : Hid (isWordB y.data.toList = r) := Lib.hid (by rw [← hq]; simp [hl])
      clear hq
      go_enter Tryz.func114, Tryz.ntmps114
      go_wp2_with (go_at_call 134; refine (isWord_any y r _ hs hw).mono ?_; rintro e w' ⟨rfl, rfl⟩)
      go_ret
      exact ⟨rfl, (Keeps.refl _ _).alloc _⟩
    · obtain rfl : r = false := by rw [← hq]; simp [hl]
      clear hq
      go_enter Tryz.func114, Tryz.ntmps114
      go_wp2
      go_ret
      exact ⟨rfl, (Keeps.refl _ _).alloc _⟩
  have d4 : (kind == 4) = false := by simpa using h4
  rw [if_neg h4] at hq
  obtain rfl : r = false := hq.symm
  clear hq hr h0 h1 h2 h3 h4
  go_enter Tryz.func114, Tryz.ntmps114
  go_wp2
  go_ret
  exact ⟨rfl, (Keeps.refl _ _).alloc _⟩
end Go.Proofs.YtialookpnoaogaaGreat
/- The document's Right, walked. -/
namespace Go.Proofs.YtialookpnoaogaaGreat
open Go.RowKit

set_option maxRecDepth 100000 in
set_option maxHeartbeats 2000000 in
theorem rRight_any (h : Int) (nm df : ByteArray) (kind lo hi cl : Int) (p : Option Addr) (cc : Nat) (cs : List (List UInt8)) (y : ByteArray) (r : Bool) (w : World) (hs : y.size ≤ 8796093022000) (hcs : cs.length ≤ 1000)
    (hv : Hid (StrsAt w (.slice p cs.length cc) cs)) (hr : Hid (rightB kind lo hi cs y.data.toList = r)) :
    Calls Tryz.prog 77 #[.agg #[.int .i64 h, .string nm, .int .i64 kind, .int .i64 lo, .int .i64 hi, .slice p cs.length cc, .string df, .int .i64 cl], .string y] w (NewRes (.bool r) w) := by
  have hq := hr.out
  unfold rightB at hq
  have hv2 := fun o => Lib.hid (hv.out.alloc o)
  have hv2' := Lib.hid hv2; clear hv2
  by_cases h0 : kind = 0
  · subst h0
    rw [if_pos rfl] at hq
    cases ha : addrL y.data.toList with
    | none =>
      obtain rfl : r = false := by rw [← hq, ha]; rfl
      have ha' := Lib.hid ha; clear ha hq hr
      go_enter Tryz.func77, Tryz.ntmps77
      go_wp2_with (go_at_call 38; refine (rAddr_none y _ hs ha').mono ?_; rintro e w2 ⟨rfl, hk2⟩; have hk2' := Lib.hid hk2; clear hk2)
      go_ret
      exact ⟨rfl, ((Keeps.refl _ _).alloc _).trans hk2'.out⟩
    | some a =>
      obtain rfl : r = true := by rw [← hq, ha]; rfl
      have ha' := Lib.hid ha; clear ha hq hr
      go_enter Tryz.func77, Tryz.ntmps77
      go_wp2_with (go_at_call 38; refine (rAddr_some y a _ hs ha').mono ?_; rintro e w2 ⟨rfl, hk2⟩; have hk2' := Lib.hid hk2; clear hk2)
      go_ret
      exact ⟨rfl, ((Keeps.refl _ _).alloc _).trans hk2'.out⟩
  have d0 : (kind == 0) = false := by simpa using h0
  rw [if_neg h0] at hq
  by_cases h1 : kind = 1
  · subst h1
    rw [if_pos rfl] at hq
    clear d0 h0
    cases ha : netL y.data.toList with
    | none =>
      obtain rfl : r = false := by rw [← hq, ha]; rfl
      have ha' := Lib.hid ha; clear ha hq hr
      go_enter Tryz.func77, Tryz.ntmps77
      go_wp2_with (go_at_call 41; refine (rNet_none y _ hs ha').mono ?_; rintro e w2 ⟨rfl, hk2⟩; have hk2' := Lib.hid hk2; clear hk2)
      go_ret
      exact ⟨rfl, ((Keeps.refl _ _).alloc _).trans hk2'.out⟩
    | some x =>
      obtain ⟨a, n⟩ := x
      obtain rfl : r = true := by rw [← hq, ha]; rfl
      have ha' := Lib.hid ha; clear ha hq hr
      go_enter Tryz.func77, Tryz.ntmps77
      go_wp2_with (go_at_call 41; refine (rNet_some y a n _ hs ha').mono ?_; rintro e w2 ⟨rfl, hk2⟩; have hk2' := Lib.hid hk2; clear hk2)
      go_ret
      exact ⟨rfl, ((Keeps.refl _ _).alloc _).trans hk2'.out⟩
  have d1 : (kind == 1) = false := by simpa using h1
  rw [if_neg h1] at hq
  by_cases h2 : kind = 2
  · subst h2
    rw [if_pos rfl] at hq
    clear d0 d1 h0 h1
    cases hd : decL y.data.toList with
    | none =>
      obtain rfl : r = false := by rw [← hq, hd]
      have hd' := Lib.hid hd; clear hd hq hr
      go_enter Tryz.func77, Tryz.ntmps77
      go_wp2_with (go_at_call 69; refine (rDec_none y _ hd').mono ?_; rintro e w' ⟨rfl, rfl⟩)
      go_ret
      exact ⟨rfl, (Keeps.refl _ _).alloc _⟩
    | some n =>
      rw [hd] at hq
      simp only at hq
      have hd' := Lib.hid hd; clear hd hr
      by_cases hl1 : lo ≤ (n : Int)
      · by_cases hl2 : (n : Int) ≤ hi
        · obtain rfl : r = true := by rw [← hq]; simp [hl1, hl2]
          clear hq
          go_enter Tryz.func77, Tryz.ntmps77
          go_wp2_with (go_at_call 69; refine (rDec_some y n _ hd').mono ?_; rintro e w' ⟨rfl, rfl⟩)
          go_ret
          exact ⟨rfl, (Keeps.refl _ _).alloc _⟩
        · obtain rfl : r = false := by rw [← hq]; simp [hl2]
          have e2 : decide ((n : Int) ≤ hi) = false := by simpa using hl2
          clear hq
          go_enter Tryz.func77, Tryz.ntmps77
          go_wp2_with (go_at_call 69; refine (rDec_some y n _ hd').mono ?_; rintro e w' ⟨rfl, rfl⟩)
          go_ret
          exact ⟨rfl, (Keeps.refl _ _).alloc _⟩
      · obtain rfl : r = false := by rw [← hq]; simp [hl1]
        clear hq
        go_enter Tryz.func77, Tryz.ntmps77
        go_wp2_with (go_at_call 69; refine (rDec_some y n _ hd').mono ?_; rintro e w' ⟨rfl, rfl⟩)
        go_ret
        exact ⟨rfl, (Keeps.refl _ _).alloc _⟩
  have d2 : (kind == 2) = false := by simpa using h2
  rw [if_neg h2] at hq
  by_cases h3 : kind = 3
  · subst h3
    rw [if_pos rfl] at hq
    have hq' := Lib.hid hq
    have hvo := hv2'.out (.cells #[.int .i64 h, .string nm, .int .i64 3, .int .i64 lo, .int .i64 hi, .slice p cs.length cc, .string df, .int .i64 cl] 151)
    obtain ⟨p', c', hpe, hr0⟩ := hvo.out
    have e1 : p' = p := by injection hpe with e _ _; exact e.symm
    subst e1
    have hr0' := Lib.hid hr0
    clear d0 d1 d2 h0 h1 h2 hq hr hpe hr0 hvo
    go_enter Tryz.func77, Tryz.ntmps77
    go_wp2
    go_loop [12] (fun i => ∃ k : Nat, k ≤ cs.length ∧ i = .int .i64 k ∧ Hid (y.data.toList ∉ cs.take k)) (fun i => cs.length - (intOf i).toNat)
    case atStart => exact ⟨0, by omega, rfl, Lib.hid (by simp)⟩
    case round =>
      obtain ⟨k, hk, rfl, hno⟩ := hrel
      by_cases hlt : k < cs.length
      · obtain ⟨g, o, rfl, hrr⟩ := hr0'.out (by omega)
        obtain ⟨X, hX⟩ : ∃ X : ByteArray, X = ⟨(cs[k]).toArray⟩ := ⟨_, rfl⟩
        have c1 := hrr k (.string X) (by rw [hX]; simp [hlt, strv])
        have hXl : X.toList = cs[k] := by rw [hX, Lib.toList_data]
        clear hrr hX
        by_cases he : y.data.toList = cs[k]
        · have e1 : (X.toList == y.toList) = true := by rw [hXl, Lib.toList_data, he]; simp
          have hin : Hid (r = true) := Lib.hid (by rw [← hq'.out, he]; simp)
          have hXl' := Lib.hid hXl; clear he hXl hno
          go_wp2
          go_ret
          exact ⟨by rw [hin.out]; rfl, (Keeps.refl _ _).alloc _⟩
        · have e1 : (X.toList == y.toList) = false := by rw [hXl, Lib.toList_data]; simpa using (fun h => he h.symm)
          have hno' : Hid (y.data.toList ∉ cs.take (k + 1)) := Lib.hid (by
            rw [List.take_succ_eq_append_getElem hlt]
            intro h
            rcases List.mem_append.1 h with h | h
            · exact hno.out h
            · exact he (by simpa using h))
          have hXl' := Lib.hid hXl; clear he hXl hno
          go_wp2
          go_round
          case rel => exact ⟨k + 1, by omega, by go_num, hno'⟩
          case measure => simp [intOf]; omega
      · have hin : Hid (r = false) := Lib.hid (by
          rw [← hq'.out]
          have := hno.out
          rw [List.take_of_length_le (by omega)] at this
          rw [← Bool.not_eq_true]; simpa using this)
        clear hno
        go_wp2
        go_ret
        exact ⟨by rw [hin.out]; rfl, (Keeps.refl _ _).alloc _⟩
  have d3 : (kind == 3) = false := by simpa using h3
  rw [if_neg h3] at hq
  by_cases h4 : kind = 4
  · subst h4
    rw [if_pos rfl] at hq
    have hyl : y.data.toList.length = y.size := by simp
    rw [hyl] at hq
    clear d0 d1 d2 d3 h0 h1 h2 h3 hr hyl
    obtain ⟨c, hc⟩ : ∃ c, isWordB y.data.toList = c := ⟨_, rfl⟩
    have hc' := Lib.hid hc
    cases c with
    | true =>
      by_cases hl : (y.size : Int) ≤ hi
      · obtain rfl : r = true := by rw [← hq, hc]; simp [hl]
        clear hq hc
        go_enter Tryz.func77, Tryz.ntmps77
        go_wp2_with (go_at_call 108; refine (rWord_any y true _ hs hc').mono ?_; rintro e w2 ⟨rfl, hk2⟩; have hk2' := Lib.hid hk2; have cHi := hk2.cell (p := ⟨w.heap.size, 4, none⟩) (by simp) id; have cHi2 : w2.cell? ⟨w.heap.size, 4, none⟩ = some (.int .i64 hi) := cHi.trans (by simp [go_sem]); clear hk2 cHi)
        go_ret
        exact ⟨rfl, ((Keeps.refl _ _).alloc _).trans hk2'.out⟩
      · obtain rfl : r = false := by rw [← hq]; simp [hl]
        have e2 : decide ((y.size : Int) ≤ hi) = false := by simpa using hl
        clear hq hc
        go_enter Tryz.func77, Tryz.ntmps77
        go_wp2_with (go_at_call 108; refine (rWord_any y true _ hs hc').mono ?_; rintro e w2 ⟨rfl, hk2⟩; have hk2' := Lib.hid hk2; have cHi := hk2.cell (p := ⟨w.heap.size, 4, none⟩) (by simp) id; have cHi2 : w2.cell? ⟨w.heap.size, 4, none⟩ = some (.int .i64 hi) := cHi.trans (by simp [go_sem]); clear hk2 cHi)
        go_ret
        exact ⟨rfl, ((Keeps.refl _ _).alloc _).trans hk2'.out⟩
    | false =>
      obtain rfl : r = false := by rw [← hq, hc]; simp
      clear hq hc
      go_enter Tryz.func77, Tryz.ntmps77
      go_wp2_with (go_at_call 108; refine (rWord_any y false _ hs hc').mono ?_; rintro e w2 ⟨rfl, hk2⟩; have hk2' := Lib.hid hk2; clear hk2)
      go_ret
      exact ⟨rfl, ((Keeps.refl _ _).alloc _).trans hk2'.out⟩
  have d4 : (kind == 4) = false := by simpa using h4
  rw [if_neg h4] at hq
  obtain rfl : r = false := hq.symm
  clear hq hr h0 h1 h2 h3 h4
  go_enter Tryz.func77, Tryz.ntmps77
  go_wp2
  go_ret
  exact ⟨rfl, (Keeps.refl _ _).alloc _⟩
end Go.Proofs.YtialookpnoaogaaGreat
/- The table of rows, in memory. -/
namespace Go.Proofs.YtialookpnoaogaaGreat
open Go.RowKit

/-- a row, plain -/
structure RowD where
  head : Int
  name : List UInt8
  kind : Int
  lo : Int
  hi : Int
  cs : List (List UInt8)
  df : List UInt8
  cl : Int
def tableD : List RowD := [
  ⟨0, [114, 111, 117, 116, 101, 114, 45, 105, 100], 0, 0, 0, [], [], 6⟩,
  ⟨1, [99, 111, 115, 116], 2, 0, 65535, [], [49], 2⟩,
  ⟨1, [116, 121, 112, 101], 3, 0, 0, [[110, 111, 114, 109, 97, 108], [115, 116, 117, 98], [110, 115, 115, 97]], [110, 111, 114, 109, 97, 108], 3⟩,
  ⟨2, [97, 100, 100, 114, 101, 115, 115], 1, 0, 0, [], [], 4⟩,
  ⟨2, [97, 114, 101, 97], 0, 0, 0, [], [], 5⟩,
  ⟨2, [97, 117, 116, 104], 4, 0, 8, [], [], 3⟩,
  ⟨2, [99, 111, 115, 116], 2, 1, 65535, [], [49, 48], 2⟩,
  ⟨2, [100, 101, 97, 100], 2, 1, 65535, [], [52, 48], 3⟩,
  ⟨2, [104, 101, 108, 108, 111], 2, 1, 65535, [], [49, 48], 3⟩,
  ⟨2, [110, 101, 116, 119, 111, 114, 107], 3, 0, 0, [[98, 114, 111, 97, 100, 99, 97, 115, 116], [112, 111, 105, 110, 116, 45, 116, 111, 45, 112, 111, 105, 110, 116]], [98, 114, 111, 97, 100, 99, 97, 115, 116], 4⟩,
  ⟨2, [112, 114, 105, 111, 114, 105, 116, 121], 2, 0, 255, [], [49], 1⟩,
  ⟨2, [114, 101, 116, 114, 97, 110, 115, 109, 105, 116], 2, 1, 3600, [], [53], 0⟩]
def rowVals (r : RowD) (cv : Value) : List Value := [.int .i64 r.head, strv r.name, .int .i64 r.kind, .int .i64 r.lo, .int .i64 r.hi, cv, strv r.df, .int .i64 r.cl]
/-- a row lies at place o of block g -/
def RowAt (B : Nat) (w : World) (g o : Nat) (r : RowD) : Prop := ∃ cv, w.rangeAt g o (rowVals r cv) ∧ StrsAt w cv r.cs ∧ ∀ k, cv.ownBlock = some k → B ≤ k
/-- the table lies in block g -/
def TableAt (B : Nat) (w : World) (g : Nat) : Prop := ∀ i r, tableD[i]? = some r → RowAt B w g (i * 8) r
theorem RowAt.keep {B : Nat} {w w' : World} {g o : Nat} {r : RowD} (h : RowAt B w g o r) (k : Keeps (fun _ => False) w w') : RowAt B w' g o r := by
  obtain ⟨cv, h1, h2, h3⟩ := h
  exact ⟨cv, k.rangeAt h1 id, h2.keep k (fun _ _ _ f => f), h3⟩
theorem TableAt.keep {B : Nat} {w w' : World} {g : Nat} (h : TableAt B w g) (k : Keeps (fun _ => False) w w') : TableAt B w' g := fun i r hr => (h i r hr).keep k

/-- the cells of the whole table, the choices at b1 and b2 -/
def tableCells (b1 b2 : Nat) : List Value :=
  (tableD.zipIdx.map fun x => rowVals x.1 (if x.2 = 2 then .slice (some ⟨b1, 0, none⟩) 3 3 else if x.2 = 9 then .slice (some ⟨b2, 0, none⟩) 2 2 else .slice none 0 0)).flatten
def choices1 : List (List UInt8) := [[110, 111, 114, 109, 97, 108], [115, 116, 117, 98], [110, 115, 115, 97]]
def choices2 : List (List UInt8) := [[98, 114, 111, 97, 100, 99, 97, 115, 116], [112, 111, 105, 110, 116, 45, 116, 111, 45, 112, 111, 105, 110, 116]]
theorem range_partM {w : World} {g : Nat} {L M : List Value} {o : Nat} (h : w.rangeAt g 0 L) (hm : ∀ j u, M[j]? = some u → L[o + j]? = some u) : w.rangeAt g o M := fun j u hu => by
  have := h (o + j) u (hm j u hu)
  simpa using this
theorem tableAt_of {B : Nat} {w : World} {g b1 b2 : Nat} (hB1 : B ≤ b1) (hB2 : B ≤ b2) (h : w.rangeAt g 0 (tableCells b1 b2)) (h1 : w.rangeAt b1 0 (choices1.map strv)) (h2 : w.rangeAt b2 0 (choices2.map strv)) : TableAt B w g := by
  intro i r hr
  have hi : i < 12 := (List.getElem?_eq_some_iff.1 hr).1
  have none_at : StrsAt w (.slice none 0 0) [] := ⟨none, 0, rfl, by simp⟩
  have none_b : ∀ k, (Value.slice none 0 0).ownBlock = some k → B ≤ k := fun k e => by cases e
  have b_at : ∀ b n c, B ≤ b → ∀ k, (Value.slice (some ⟨b, 0, none⟩) n c).ownBlock = some k → B ≤ k := fun b n c h k e => by
    have e : some b = some k := e
    injection e with e; omega
  match i, hi, hr with
  | 0, _, hr => (injection hr with hr; subst hr); exact ⟨_, range_partM (M := rowVals _ _) h (fun j u hu => by match j, hu with | 0, hu => exact hu | 1, hu => exact hu | 2, hu => exact hu | 3, hu => exact hu | 4, hu => exact hu | 5, hu => exact hu | 6, hu => exact hu | 7, hu => exact hu), none_at, none_b⟩
  | 1, _, hr => (injection hr with hr; subst hr); exact ⟨_, range_partM (M := rowVals _ _) h (fun j u hu => by match j, hu with | 0, hu => exact hu | 1, hu => exact hu | 2, hu => exact hu | 3, hu => exact hu | 4, hu => exact hu | 5, hu => exact hu | 6, hu => exact hu | 7, hu => exact hu), none_at, none_b⟩
  | 2, _, hr => (injection hr with hr; subst hr); exact ⟨_, range_partM (M := rowVals _ _) h (fun j u hu => by match j, hu with | 0, hu => exact hu | 1, hu => exact hu | 2, hu => exact hu | 3, hu => exact hu | 4, hu => exact hu | 5, hu => exact hu | 6, hu => exact hu | 7, hu => exact hu), ⟨some ⟨b1, 0, none⟩, 3, rfl, fun _ => ⟨b1, 0, rfl, h1⟩⟩, b_at b1 3 3 hB1⟩
  | 3, _, hr => (injection hr with hr; subst hr); exact ⟨_, range_partM (M := rowVals _ _) h (fun j u hu => by match j, hu with | 0, hu => exact hu | 1, hu => exact hu | 2, hu => exact hu | 3, hu => exact hu | 4, hu => exact hu | 5, hu => exact hu | 6, hu => exact hu | 7, hu => exact hu), none_at, none_b⟩
  | 4, _, hr => (injection hr with hr; subst hr); exact ⟨_, range_partM (M := rowVals _ _) h (fun j u hu => by match j, hu with | 0, hu => exact hu | 1, hu => exact hu | 2, hu => exact hu | 3, hu => exact hu | 4, hu => exact hu | 5, hu => exact hu | 6, hu => exact hu | 7, hu => exact hu), none_at, none_b⟩
  | 5, _, hr => (injection hr with hr; subst hr); exact ⟨_, range_partM (M := rowVals _ _) h (fun j u hu => by match j, hu with | 0, hu => exact hu | 1, hu => exact hu | 2, hu => exact hu | 3, hu => exact hu | 4, hu => exact hu | 5, hu => exact hu | 6, hu => exact hu | 7, hu => exact hu), none_at, none_b⟩
  | 6, _, hr => (injection hr with hr; subst hr); exact ⟨_, range_partM (M := rowVals _ _) h (fun j u hu => by match j, hu with | 0, hu => exact hu | 1, hu => exact hu | 2, hu => exact hu | 3, hu => exact hu | 4, hu => exact hu | 5, hu => exact hu | 6, hu => exact hu | 7, hu => exact hu), none_at, none_b⟩
  | 7, _, hr => (injection hr with hr; subst hr); exact ⟨_, range_partM (M := rowVals _ _) h (fun j u hu => by match j, hu with | 0, hu => exact hu | 1, hu => exact hu | 2, hu => exact hu | 3, hu => exact hu | 4, hu => exact hu | 5, hu => exact hu | 6, hu => exact hu | 7, hu => exact hu), none_at, none_b⟩
  | 8, _, hr => (injection hr with hr; subst hr); exact ⟨_, range_partM (M := rowVals _ _) h (fun j u hu => by match j, hu with | 0, hu => exact hu | 1, hu => exact hu | 2, hu => exact hu | 3, hu => exact hu | 4, hu => exact hu | 5, hu => exact hu | 6, hu => exact hu | 7, hu => exact hu), none_at, none_b⟩
  | 9, _, hr => (injection hr with hr; subst hr); exact ⟨_, range_partM (M := rowVals _ _) h (fun j u hu => by match j, hu with | 0, hu => exact hu | 1, hu => exact hu | 2, hu => exact hu | 3, hu => exact hu | 4, hu => exact hu | 5, hu => exact hu | 6, hu => exact hu | 7, hu => exact hu), ⟨some ⟨b2, 0, none⟩, 2, rfl, fun _ => ⟨b2, 0, rfl, h2⟩⟩, b_at b2 2 2 hB2⟩
  | 10, _, hr => (injection hr with hr; subst hr); exact ⟨_, range_partM (M := rowVals _ _) h (fun j u hu => by match j, hu with | 0, hu => exact hu | 1, hu => exact hu | 2, hu => exact hu | 3, hu => exact hu | 4, hu => exact hu | 5, hu => exact hu | 6, hu => exact hu | 7, hu => exact hu), none_at, none_b⟩
  | 11, _, hr => (injection hr with hr; subst hr); exact ⟨_, range_partM (M := rowVals _ _) h (fun j u hu => by match j, hu with | 0, hu => exact hu | 1, hu => exact hu | 2, hu => exact hu | 3, hu => exact hu | 4, hu => exact hu | 5, hu => exact hu | 6, hu => exact hu | 7, hu => exact hu), none_at, none_b⟩

def TablePost (w : World) (e : Ending) (w' : World) : Prop := ∃ g, e = .returned (.slice (some ⟨g, 0, none⟩) 12 12) ∧ w.heap.size ≤ g ∧ TableAt w.heap.size w' g ∧ Keeps (fun _ => False) w w'
theorem tablePost_of {w : World} {O1 O2 O3 : Array Value} (t1 t2 t3 : TypeId) (h1 : O1 = (choices1.map strv).toArray) (h2 : O2 = (choices2.map strv).toArray) (h3 : O3 = (tableCells w.heap.size (w.heap.size + 1)).toArray) :
    TablePost w (.returned (.slice (some ⟨w.heap.size + 2, 0, none⟩) 12 12)) (((w.alloc (.cells O1 t1)).alloc (.cells O2 t2)).alloc (.cells O3 t3)) := by
  have k1 : Keeps (fun _ => False) (w.alloc (.cells O1 t1)) (((w.alloc (.cells O1 t1)).alloc (.cells O2 t2)).alloc (.cells O3 t3)) := ((Keeps.refl _ _).alloc _).alloc _
  have k2 : Keeps (fun _ => False) ((w.alloc (.cells O1 t1)).alloc (.cells O2 t2)) (((w.alloc (.cells O1 t1)).alloc (.cells O2 t2)).alloc (.cells O3 t3)) := (Keeps.refl _ _).alloc _
  refine ⟨w.heap.size + 2, rfl, by omega, tableAt_of (b1 := w.heap.size) (b2 := w.heap.size + 1) (Nat.le_refl _) (by omega) ?_ ?_ ?_, (((Keeps.refl _ _).alloc _).alloc _).alloc _⟩
  · intro j u hu
    have := cells_new (w := (w.alloc (.cells O1 t1)).alloc (.cells O2 t2)) (n := w.heap.size + 2) (by simp) (tableCells w.heap.size (w.heap.size + 1)) t3 j u hu
    rw [Addr.add_mid] at this
    rw [h3]; exact this
  · refine k1.rangeAt ?_ id
    intro j u hu
    have := cells_new (w := w) (n := w.heap.size) rfl (choices1.map strv) t1 j u hu
    rw [Addr.add_mid] at this
    rw [h1]; exact this
  · refine k2.rangeAt ?_ id
    intro j u hu
    have := cells_new (w := w.alloc (.cells O1 t1)) (n := w.heap.size + 1) (by simp) (choices2.map strv) t2 j u hu
    rw [Addr.add_mid] at this
    rw [h2]; exact this
set_option maxRecDepth 100000 in
set_option maxHeartbeats 4000000 in
theorem table_any (w : World) : Calls Tryz.prog 86 #[] w (TablePost w) := by
  go_enter Tryz.func86, Tryz.ntmps86
  go_wp2
  go_ret
  exact tablePost_of _ _ _ rfl rfl rfl
end Go.Proofs.YtialookpnoaogaaGreat
/- Find, walked. -/
namespace Go.Proofs.YtialookpnoaogaaGreat
open Go.RowKit

theorem rowInfo : (Tryz.prog.info? 147).map (·.size) = some 8 := by kernel_rfl
def findD (head : Int) (name : List UInt8) : Option RowD := tableD.find? (fun r => decide (r.head = head ∧ r.name = name))
def zeroRow : Array Value := #[.int .i64 0, .string ⟨#[]⟩, .int .i64 0, .int .i64 0, .int .i64 0, .slice none 0 0, .string ⟨#[]⟩, .int .i64 0]
/-- what Find answers -/
def FindPost (f : Option RowD) (w : World) (e : Ending) (w' : World) : Prop :=
  match f with
  | some r => ∃ p cc, e = .returned (.tuple #[.agg #[.int .i64 r.head, strv r.name, .int .i64 r.kind, .int .i64 r.lo, .int .i64 r.hi, .slice p r.cs.length cc, strv r.df, .int .i64 r.cl], .bool true]) ∧ StrsAt w' (.slice p r.cs.length cc) r.cs ∧ Keeps (fun _ => False) w w'
  | none => e = .returned (.tuple #[.agg zeroRow, .bool false]) ∧ Keeps (fun _ => False) w w'

theorem row_one (a c d e h : Int) (n f : ByteArray) (p : Option Addr) (k m : Nat) : (#[.int .i64 a, .string n, .int .i64 c, .int .i64 d, .int .i64 e, .slice p k m, .string f, .int .i64 h] : Array Value).all (·.oneCell') = true := by simp; exact ⟨rfl, rfl, rfl, rfl, rfl, rfl, rfl, rfl⟩
theorem find_step {head : Int} {name : List UInt8} {k : Nat} {r : RowD} (hr : tableD[k]? = some r) (hno : ∀ (i : Nat) (q : RowD), i < k → tableD[i]? = some q → ¬ (q.head = head ∧ q.name = name)) (h : r.head = head ∧ r.name = name) : findD head name = some r := by
  unfold findD
  rw [List.find?_eq_some_iff_getElem]
  obtain ⟨hk, e⟩ := List.getElem?_eq_some_iff.1 hr
  exact ⟨by simpa using h, k, hk, e, fun j hj => by
    have := hno j _ hj (List.getElem?_eq_getElem (by omega))
    simpa only [decide_eq_true_eq, Bool.not_eq_true', decide_eq_false_iff_not] using this⟩
theorem find_none {head : Int} {name : List UInt8} (hno : ∀ (i : Nat) (q : RowD), i < 12 → tableD[i]? = some q → ¬ (q.head = head ∧ q.name = name)) : findD head name = none := by
  unfold findD
  rw [List.find?_eq_none]
  intro q hq
  obtain ⟨i, hi⟩ := List.getElem?_of_mem hq
  have := hno i q (List.getElem?_eq_some_iff.1 hi).1 hi
  simpa using this

theorem wpList_store_row_named {P : Program} {ops : Array Oper} {rest : List Oper} {o : Oper} {a : Act} {w : World} {Q : Exit → Act → World → Prop} (hgd : o.guard = none) (ty : TypeId) (x y : Operand) (ho : o.op = .store ty x y)
    (g : Nat) (cells : Array Value) (hx : a.eval x = .pointer (some ⟨g, 0, none⟩)) (hy : a.eval y = .agg cells)
    (t : TypeId) (old : Array Value) (hg : w.heap[g]? = some (.cells old t (0, 0))) (hi : (P.info? ty).map (·.size) = some cells.size)
    (hold : old.size = cells.size) (h1 : cells.all (·.oneCell') = true)
    (h : ∀ w1, w1 = w.setRow g cells → wpList P ops Q rest (a.put o.dst undef) w1) : wpList P ops Q (o :: rest) a w :=
  wpList_store_row hgd ty x y ho g cells hx hy t old hg hi hold h1 (h _ rfl)
set_option maxRecDepth 100000 in
set_option maxHeartbeats 2000000 in
theorem find_any (head : Int) (nm : ByteArray) (f : Option RowD) (w : World) (hf : Hid (findD head nm.data.toList = f)) :
    Calls Tryz.prog 72 #[.int .i64 head, .string nm] w (FindPost f w) := by
  go_enter Tryz.func72, Tryz.ntmps72
  go_wp2_with fail
  refine (table_any _).mono ?_
  rintro e w1 ⟨g, rfl, hg, ht, hk⟩
  have hb : w1.heap[w.heap.size]? = some (.cells zeroRow 147 (0, 0)) := by
    rw [hk.block _ (by simp) id]
    exact heap_alloc_last w _
  have hb' := Lib.hid hb; have ht' := Lib.hid (show TableAt (w.heap.size + 1) w1 g by simpa using ht); have hk' := Lib.hid (((Keeps.refl (fun _ => False) w).alloc _).trans hk)
  have hgs : w.heap.size + 1 ≤ g := by simpa using hg
  clear hb ht hk hg
  go_wp2_with fail
  go_loopw [10] (fun i wr => ∃ k : Nat, k ≤ 12 ∧ i = .int .i64 k ∧ Hid (∀ (i : Nat) (q : RowD), i < k → tableD[i]? = some q → ¬ (q.head = head ∧ q.name = nm.data.toList)) ∧ Hid (TableAt (w.heap.size + 1) wr g) ∧ Hid (wr.heap[w.heap.size]? = some (.cells zeroRow 147 (0, 0))) ∧ Hid (Keeps (fun _ => False) w wr)) (fun i _ => 12 - (intOf i).toNat)
  case atStart => exact ⟨0, by omega, rfl, Lib.hid (fun _ _ h => by omega), ht', hb', hk'⟩
  case round =>
    obtain ⟨k, hk12, rfl, hno, htr, hbr, hkr⟩ := hrel
    by_cases hlt : k < 12
    · obtain ⟨r, hr⟩ : ∃ r, tableD[k]? = some r := ⟨_, List.getElem?_eq_getElem (show k < tableD.length from hlt)⟩
      obtain ⟨cv, hrange, hcs, hbk⟩ := htr.out k r hr
      obtain ⟨p, cc, rfl, hcs0⟩ := hcs
      have hbkeep := Lib.hid hbk; clear hbk
      have hcs' : Hid (StrsAt wr (.slice p r.cs.length cc) r.cs) := Lib.hid ⟨p, cc, rfl, hcs0⟩
      obtain ⟨N, hN⟩ : ∃ N : ByteArray, N = ⟨r.name.toArray⟩ := ⟨_, rfl⟩
      obtain ⟨F, hF⟩ : ∃ F : ByteArray, F = ⟨r.df.toArray⟩ := ⟨_, rfl⟩
      have hra : Hid (wr.rangeAt g (k * 8) [.int .i64 r.head, .string N, .int .i64 r.kind, .int .i64 r.lo, .int .i64 r.hi, .slice p r.cs.length cc, .string F, .int .i64 r.cl]) := Lib.hid (by rw [hN, hF]; exact hrange)
      have hNl : N.toList = r.name := by rw [hN, Lib.toList_data]
      have hN' := Lib.hid hN; have hF' := Lib.hid hF; have hr' := Lib.hid hr
      clear hcs0 hrange hN hF hr
      by_cases hh : r.head = head
      · have e1 : (r.head == head) = true := by simpa using hh
        by_cases hn : r.name = nm.data.toList
        · have e2 : (N.toList == nm.toList) = true := by rw [hNl, Lib.toList_data, hn]; simp
          have hfr : Hid (f = some r) := Lib.hid (by rw [← hf.out]; exact find_step hr'.out hno.out ⟨hh, hn⟩)
          have hNl' := Lib.hid hNl; clear hh hn hNl
          have hnew : Hid ((wr.alloc (.cells #[.int .i64 r.head, .string N, .int .i64 r.kind, .int .i64 r.lo, .int .i64 r.hi, .slice p r.cs.length cc, .string F, .int .i64 r.cl] 147)).rangeAt wr.heap.size 0 [.int .i64 r.head, .string N, .int .i64 r.kind, .int .i64 r.lo, .int .i64 r.hi, .slice p r.cs.length cc, .string F, .int .i64 r.cl]) := Lib.hid (fun j u hu => by
            have := cells_new (w := wr) (n := wr.heap.size) rfl [.int .i64 r.head, .string N, .int .i64 r.kind, .int .i64 r.lo, .int .i64 r.hi, .slice p r.cs.length cc, .string F, .int .i64 r.cl] 147 j u hu
            rw [Addr.add_mid] at this; exact this)
          have k1 : Keeps (fun _ => False) wr (wr.alloc (.cells #[.int .i64 r.head, .string N, .int .i64 r.kind, .int .i64 r.lo, .int .i64 r.hi, .slice p r.cs.length cc, .string F, .int .i64 r.cl] 147)) := (Keeps.refl _ _).alloc _
          have hbn : Hid ((wr.alloc (.cells #[.int .i64 r.head, .string N, .int .i64 r.kind, .int .i64 r.lo, .int .i64 r.hi, .slice p r.cs.length cc, .string F, .int .i64 r.cl] 147)).heap[w.heap.size]? = some (.cells zeroRow 147 (0, 0))) := Lib.hid ((k1.block _ (lt_of_block hbr.out) id).trans hbr.out)
          have k1' := Lib.hid k1; clear k1
          go_wp2_with (first | ((with_reducible refine at_slot 13 ?_); refine wpList_load_mid rfl 147 (.tmp 12) rfl g (k * 8) rfl _ _ hra.out Tryz.underlying147 rfl rowInfo ?_) | ((with_reducible refine at_store 7 ?_); refine wpList_store_new rfl 147 (.tmp 7) (.tmp 13) rfl _ #[.int .i64 r.head, .string N, .int .i64 r.kind, .int .i64 r.lo, .int .i64 r.hi, .slice p r.cs.length cc, .string F, .int .i64 r.cl] rfl rfl rowInfo rfl (row_one _ _ _ _ _ _ _ _ _ _) ?_) | ((with_reducible refine at_slot 24 ?_); refine wpList_load_mid rfl 147 (.tmp 7) rfl wr.heap.size 0 rfl [.int .i64 r.head, .string N, .int .i64 r.kind, .int .i64 r.lo, .int .i64 r.hi, .slice p r.cs.length cc, .string F, .int .i64 r.cl] _ hnew.out Tryz.underlying147 rfl rowInfo ?_) | ((with_reducible refine at_store 4 ?_); refine wpList_store_row_named rfl 147 (.tmp 4) (.tmp 24) rfl w.heap.size #[.int .i64 r.head, .string N, .int .i64 r.kind, .int .i64 r.lo, .int .i64 r.hi, .slice p r.cs.length cc, .string F, .int .i64 r.cl] rfl rfl 147 zeroRow hbn.out rowInfo rfl (row_one _ _ _ _ _ _ _ _ _ _) ?_; intro W2 hW2; have hW2' := Lib.hid hW2; clear hW2))
          have hcell : ∀ j, W2.cell? ⟨w.heap.size, j, none⟩ = (#[.int .i64 r.head, .string N, .int .i64 r.kind, .int .i64 r.lo, .int .i64 r.hi, .slice p r.cs.length cc, .string F, .int .i64 r.cl] : Array Value)[j]? := fun j => by rw [hW2'.out]; exact cell_setRow_same _ _ _ _ _ _ _ hbn.out
          have c0 := hcell 0; have c1 := hcell 1; have c2 := hcell 2; have c3 := hcell 3; have c4 := hcell 4; have c5 := hcell 5; have c6 := hcell 6; have c7 := hcell 7
          have kall : Keeps (fun _ => False) w W2 := by rw [hW2'.out]; exact (hkr.out.trans k1'.out).setRow (.inr (Nat.le_refl _)) _
          have hcsW : StrsAt W2 (.slice p r.cs.length cc) r.cs := by
            have h1 := hcs'.out.keep k1'.out (fun _ _ _ f => f)
            rw [hW2'.out]
            refine h1.keep ((Keeps.refl (fun k => k = w.heap.size) _).setRow (.inl rfl) _) (fun h0 i e f => ?_)
            have := hbkeep.out i e
            omega
          have hcell' := Lib.hid hcell; clear hcell
          rw [hfr.out]
          refine bodyPost_ret (v := .tuple #[.agg #[.int .i64 r.head, .string N, .int .i64 r.kind, .int .i64 r.lo, .int .i64 r.hi, .slice p r.cs.length cc, .string F, .int .i64 r.cl], .bool true]) (by simp [results, Tryz.results72, go_sem, c0, c1, c2, c3, c4, c5, c6, c7]) rfl ⟨p, cc, ?_, hcsW, kall⟩
          rw [hN'.out, hF'.out]; rfl
        · have e2 : (N.toList == nm.toList) = false := by rw [hNl, Lib.toList_data]; simpa using hn
          have hno' : Hid (∀ (i : Nat) (q : RowD), i < k + 1 → tableD[i]? = some q → ¬ (q.head = head ∧ q.name = nm.data.toList)) := Lib.hid (fun i q hi hq => by
            by_cases e : i = k
            · subst e
              have : q = r := by rw [hr'.out] at hq; injection hq with hq; exact hq.symm
              subst this
              exact fun ⟨_, b⟩ => hn b
            · exact hno.out i q (by omega) hq)
          have hNl' := Lib.hid hNl; clear hh hn hNl
          go_wp2_with (first | ((with_reducible refine at_slot 13 ?_); refine wpList_load_mid rfl 147 (.tmp 12) rfl g (k * 8) rfl _ _ hra.out Tryz.underlying147 rfl rowInfo ?_) | ((with_reducible refine at_store 7 ?_); refine wpList_store_new rfl 147 (.tmp 7) (.tmp 13) rfl _ #[.int .i64 r.head, .string N, .int .i64 r.kind, .int .i64 r.lo, .int .i64 r.hi, .slice p r.cs.length cc, .string F, .int .i64 r.cl] rfl rfl rowInfo rfl (row_one _ _ _ _ _ _ _ _ _ _) ?_))
          have kr := hkr.out.alloc (.cells #[.int .i64 r.head, .string N, .int .i64 r.kind, .int .i64 r.lo, .int .i64 r.hi, .slice p r.cs.length cc, .string F, .int .i64 r.cl] 147)
          have k1 : Keeps (fun _ => False) wr (wr.alloc (.cells #[.int .i64 r.head, .string N, .int .i64 r.kind, .int .i64 r.lo, .int .i64 r.hi, .slice p r.cs.length cc, .string F, .int .i64 r.cl] 147)) := (Keeps.refl _ _).alloc _
          exact ⟨⟨k + 1, by omega, by go_num, hno', Lib.hid (htr.out.keep k1), Lib.hid ((k1.block _ (lt_of_block hbr.out) id).trans hbr.out), Lib.hid kr⟩, by simp [intOf]; omega⟩
      · have e1 : (r.head == head) = false := by simpa using hh
        have hno' : Hid (∀ (i : Nat) (q : RowD), i < k + 1 → tableD[i]? = some q → ¬ (q.head = head ∧ q.name = nm.data.toList)) := Lib.hid (fun i q hi hq => by
          by_cases e : i = k
          · subst e
            have : q = r := by rw [hr'.out] at hq; injection hq with hq; exact hq.symm
            subst this
            exact fun ⟨a, _⟩ => hh a
          · exact hno.out i q (by omega) hq)
        have hNl' := Lib.hid hNl; clear hh hNl
        go_wp2_with (first | ((with_reducible refine at_slot 13 ?_); refine wpList_load_mid rfl 147 (.tmp 12) rfl g (k * 8) rfl _ _ hra.out Tryz.underlying147 rfl rowInfo ?_) | ((with_reducible refine at_store 7 ?_); refine wpList_store_new rfl 147 (.tmp 7) (.tmp 13) rfl _ #[.int .i64 r.head, .string N, .int .i64 r.kind, .int .i64 r.lo, .int .i64 r.hi, .slice p r.cs.length cc, .string F, .int .i64 r.cl] rfl rfl rowInfo rfl (row_one _ _ _ _ _ _ _ _ _ _) ?_))
        have kr := hkr.out.alloc (.cells #[.int .i64 r.head, .string N, .int .i64 r.kind, .int .i64 r.lo, .int .i64 r.hi, .slice p r.cs.length cc, .string F, .int .i64 r.cl] 147)
        have k1 : Keeps (fun _ => False) wr (wr.alloc (.cells #[.int .i64 r.head, .string N, .int .i64 r.kind, .int .i64 r.lo, .int .i64 r.hi, .slice p r.cs.length cc, .string F, .int .i64 r.cl] 147)) := (Keeps.refl _ _).alloc _
        exact ⟨⟨k + 1, by omega, by go_num, hno', Lib.hid (htr.out.keep k1), Lib.hid ((k1.block _ (lt_of_block hbr.out) id).trans hbr.out), Lib.hid kr⟩, by simp [intOf]; omega⟩
    · obtain rfl : k = 12 := by omega
      have hfn : Hid (f = none) := Lib.hid (by rw [← hf.out]; exact find_none hno.out)
      go_wp2_with ((with_reducible refine at_store 4 ?_); refine wpList_store_row_named rfl 147 (.tmp 4) (.tmp 26) rfl w.heap.size zeroRow rfl rfl 147 zeroRow hbr.out rowInfo rfl (row_one _ _ _ _ _ _ _ _ _ _) ?_; intro W2 hW2; have hW2' := Lib.hid hW2; clear hW2)
      have hcell : ∀ j, W2.cell? ⟨w.heap.size, j, none⟩ = zeroRow[j]? := fun j => by rw [hW2'.out]; exact cell_setRow_same _ _ _ _ _ _ _ hbr.out
      have c0 := hcell 0; have c1 := hcell 1; have c2 := hcell 2; have c3 := hcell 3; have c4 := hcell 4; have c5 := hcell 5; have c6 := hcell 6; have c7 := hcell 7
      have kall : Keeps (fun _ => False) w W2 := by rw [hW2'.out]; exact hkr.out.setRow (.inr (Nat.le_refl _)) _
      rw [hfn.out]
      refine bodyPost_ret (v := .tuple #[.agg zeroRow, .bool false]) (by simp [results, Tryz.results72, go_sem, c0, c1, c2, c3, c4, c5, c6, c7, zeroRow]) rfl ⟨rfl, kall⟩
end Go.Proofs.YtialookpnoaogaaGreat
/- The document's table and its Find, walked. -/
namespace Go.Proofs.YtialookpnoaogaaGreat
open Go.RowKit

theorem rowInfo4 : (Tryz.prog.info? 151).map (·.size) = some 8 := by kernel_rfl
set_option maxRecDepth 100000 in
set_option maxHeartbeats 4000000 in
theorem rTable_any (w : World) : Calls Tryz.prog 107 #[] w (TablePost w) := by
  go_enter Tryz.func107, Tryz.ntmps107
  go_wp2
  go_ret
  exact tablePost_of _ _ _ rfl rfl rfl

/-- what the document's Find answers; its row's choices lie in a new block -/
def FindPostF (f : Option RowD) (w : World) (e : Ending) (w' : World) : Prop :=
  match f with
  | some r => ∃ p cc, e = .returned (.tuple #[.agg #[.int .i64 r.head, strv r.name, .int .i64 r.kind, .int .i64 r.lo, .int .i64 r.hi, .slice p r.cs.length cc, strv r.df, .int .i64 r.cl], .bool true]) ∧ StrsAt w' (.slice p r.cs.length cc) r.cs ∧ (∀ i, (Value.slice p r.cs.length cc).ownBlock = some i → w.heap.size ≤ i) ∧ Keeps (fun _ => False) w w'
  | none => e = .returned (.tuple #[.agg zeroRow, .bool false]) ∧ Keeps (fun _ => False) w w'
set_option maxRecDepth 100000 in
set_option maxHeartbeats 2000000 in
theorem rFind_new (head : Int) (nm : ByteArray) (f : Option RowD) (w : World) (hf : Hid (findD head nm.data.toList = f)) :
    Calls Tryz.prog 74 #[.int .i64 head, .string nm] w (FindPostF f w) := by
  go_enter Tryz.func74, Tryz.ntmps74
  go_wp2_with fail
  refine (rTable_any _).mono ?_
  rintro e w1 ⟨g, rfl, hg, ht, hk⟩
  have hb : w1.heap[w.heap.size]? = some (.cells zeroRow 151 (0, 0)) := by
    rw [hk.block _ (by simp) id]
    exact heap_alloc_last w _
  have hb' := Lib.hid hb; have ht' := Lib.hid (show TableAt (w.heap.size + 1) w1 g by simpa using ht); have hk' := Lib.hid (((Keeps.refl (fun _ => False) w).alloc _).trans hk)
  have hgs : w.heap.size + 1 ≤ g := by simpa using hg
  clear hb ht hk hg
  go_wp2_with fail
  go_loopw [7] (fun i wr => ∃ k : Nat, k ≤ 12 ∧ i = .int .i64 k ∧ Hid (∀ (i : Nat) (q : RowD), i < k → tableD[i]? = some q → ¬ (q.head = head ∧ q.name = nm.data.toList)) ∧ Hid (TableAt (w.heap.size + 1) wr g) ∧ Hid (wr.heap[w.heap.size]? = some (.cells zeroRow 151 (0, 0))) ∧ Hid (Keeps (fun _ => False) w wr)) (fun i _ => 12 - (intOf i).toNat)
  case atStart => exact ⟨0, by omega, rfl, Lib.hid (fun _ _ h => by omega), ht', hb', hk'⟩
  case round =>
    obtain ⟨k, hk12, rfl, hno, htr, hbr, hkr⟩ := hrel
    by_cases hlt : k < 12
    · obtain ⟨r, hr⟩ : ∃ r, tableD[k]? = some r := ⟨_, List.getElem?_eq_getElem (show k < tableD.length from hlt)⟩
      obtain ⟨cv, hrange, hcs, hbk⟩ := htr.out k r hr
      obtain ⟨p, cc, rfl, hcs0⟩ := hcs
      have hbkeep := Lib.hid hbk; clear hbk
      have hcs' : Hid (StrsAt wr (.slice p r.cs.length cc) r.cs) := Lib.hid ⟨p, cc, rfl, hcs0⟩
      obtain ⟨N, hN⟩ : ∃ N : ByteArray, N = ⟨r.name.toArray⟩ := ⟨_, rfl⟩
      obtain ⟨F, hF⟩ : ∃ F : ByteArray, F = ⟨r.df.toArray⟩ := ⟨_, rfl⟩
      have hra : Hid (wr.rangeAt g (k * 8) [.int .i64 r.head, .string N, .int .i64 r.kind, .int .i64 r.lo, .int .i64 r.hi, .slice p r.cs.length cc, .string F, .int .i64 r.cl]) := Lib.hid (by rw [hN, hF]; exact hrange)
      have a0 : wr.cell? ⟨g, k * 8, none⟩ = some (.int .i64 r.head) := hra.out 0 _ rfl
      have a1 : wr.cell? ⟨g, k * 8 + 1, none⟩ = some (.string N) := hra.out 1 _ rfl
      have hNl : N.toList = r.name := by rw [hN, Lib.toList_data]
      have hN' := Lib.hid hN; have hF' := Lib.hid hF; have hr' := Lib.hid hr
      clear hcs0 hrange hN hF hr
      by_cases hh : r.head = head
      · have e1 : (r.head == head) = true := by simpa using hh
        by_cases hn : r.name = nm.data.toList
        · have e2 : (N.toList == nm.toList) = true := by rw [hNl, Lib.toList_data, hn]; simp
          have hfr : Hid (f = some r) := Lib.hid (by rw [← hf.out]; exact find_step hr'.out hno.out ⟨hh, hn⟩)
          have hNl' := Lib.hid hNl; clear hh hn hNl
          go_wp2_with (first | ((with_reducible refine at_slot 34 ?_); refine wpList_load_mid rfl 151 (.tmp 33) rfl g (k * 8) rfl _ _ hra.out Tryz.underlying151 rfl rowInfo4 ?_) | ((with_reducible refine at_store 4 ?_); refine wpList_store_row_named rfl 151 (.tmp 4) (.tmp 34) rfl w.heap.size #[.int .i64 r.head, .string N, .int .i64 r.kind, .int .i64 r.lo, .int .i64 r.hi, .slice p r.cs.length cc, .string F, .int .i64 r.cl] rfl rfl 151 zeroRow hbr.out rowInfo4 rfl (row_one _ _ _ _ _ _ _ _ _ _) ?_; intro W2 hW2; have hW2' := Lib.hid hW2; clear hW2))
          have hcell : ∀ j, W2.cell? ⟨w.heap.size, j, none⟩ = (#[.int .i64 r.head, .string N, .int .i64 r.kind, .int .i64 r.lo, .int .i64 r.hi, .slice p r.cs.length cc, .string F, .int .i64 r.cl] : Array Value)[j]? := fun j => by rw [hW2'.out]; exact cell_setRow_same _ _ _ _ _ _ _ hbr.out
          have c0 := hcell 0; have c1 := hcell 1; have c2 := hcell 2; have c3 := hcell 3; have c4 := hcell 4; have c5 := hcell 5; have c6 := hcell 6; have c7 := hcell 7
          have kall : Keeps (fun _ => False) w W2 := by rw [hW2'.out]; exact hkr.out.setRow (.inr (Nat.le_refl _)) _
          have hcsW : StrsAt W2 (.slice p r.cs.length cc) r.cs := by
            have h1 := hcs'.out
            rw [hW2'.out]
            refine h1.keep ((Keeps.refl (fun k => k = w.heap.size) _).setRow (.inl rfl) _) (fun h0 i e f => ?_)
            have := hbkeep.out i e
            omega
          have hcell' := Lib.hid hcell; clear hcell
          rw [hfr.out]
          refine bodyPost_ret (v := .tuple #[.agg #[.int .i64 r.head, .string N, .int .i64 r.kind, .int .i64 r.lo, .int .i64 r.hi, .slice p r.cs.length cc, .string F, .int .i64 r.cl], .bool true]) (by simp [results, Tryz.results74, go_sem, c0, c1, c2, c3, c4, c5, c6, c7]) rfl ⟨p, cc, ?_, hcsW, fun i e => by have := hbkeep.out i e; omega, kall⟩
          rw [hN'.out, hF'.out]; rfl
        · have e2 : (N.toList == nm.toList) = false := by rw [hNl, Lib.toList_data]; simpa using hn
          have hno' : Hid (∀ (i : Nat) (q : RowD), i < k + 1 → tableD[i]? = some q → ¬ (q.head = head ∧ q.name = nm.data.toList)) := Lib.hid (fun i q hi hq => by
            by_cases e : i = k
            · subst e
              have : q = r := by rw [hr'.out] at hq; injection hq with hq; exact hq.symm
              subst this
              exact fun ⟨_, b⟩ => hn b
            · exact hno.out i q (by omega) hq)
          have hNl' := Lib.hid hNl; clear hh hn hNl
          go_wp2
          exact ⟨⟨k + 1, by omega, by go_num, hno', htr, hbr, hkr⟩, by simp [intOf]; omega⟩
      · have e1 : (r.head == head) = false := by simpa using hh
        have hno' : Hid (∀ (i : Nat) (q : RowD), i < k + 1 → tableD[i]? = some q → ¬ (q.head = head ∧ q.name = nm.data.toList)) := Lib.hid (fun i q hi hq => by
          by_cases e : i = k
          · subst e
            have : q = r := by rw [hr'.out] at hq; injection hq with hq; exact hq.symm
            subst this
            exact fun ⟨a, _⟩ => hh a
          · exact hno.out i q (by omega) hq)
        have hNl' := Lib.hid hNl; clear hh hNl
        go_wp2
        exact ⟨⟨k + 1, by omega, by go_num, hno', htr, hbr, hkr⟩, by simp [intOf]; omega⟩
    · obtain rfl : k = 12 := by omega
      have hfn : Hid (f = none) := Lib.hid (by rw [← hf.out]; exact find_none hno.out)
      go_wp2_with ((with_reducible refine at_store 4 ?_); refine wpList_store_row_named rfl 151 (.tmp 4) (.tmp 35) rfl w.heap.size zeroRow rfl rfl 151 zeroRow hbr.out rowInfo4 rfl (row_one _ _ _ _ _ _ _ _ _ _) ?_; intro W2 hW2; have hW2' := Lib.hid hW2; clear hW2)
      have hcell : ∀ j, W2.cell? ⟨w.heap.size, j, none⟩ = zeroRow[j]? := fun j => by rw [hW2'.out]; exact cell_setRow_same _ _ _ _ _ _ _ hbr.out
      have c0 := hcell 0; have c1 := hcell 1; have c2 := hcell 2; have c3 := hcell 3; have c4 := hcell 4; have c5 := hcell 5; have c6 := hcell 6; have c7 := hcell 7
      have kall : Keeps (fun _ => False) w W2 := by rw [hW2'.out]; exact hkr.out.setRow (.inr (Nat.le_refl _)) _
      rw [hfn.out]
      refine bodyPost_ret (v := .tuple #[.agg zeroRow, .bool false]) (by simp [results, Tryz.results74, go_sem, c0, c1, c2, c3, c4, c5, c6, c7, zeroRow]) rfl ⟨rfl, kall⟩
theorem rFind_any (head : Int) (nm : ByteArray) (f : Option RowD) (w : World) (hf : Hid (findD head nm.data.toList = f)) :
    Calls Tryz.prog 74 #[.int .i64 head, .string nm] w (FindPost f w) :=
  (rFind_new head nm f w hf).mono fun e w' h => by
    cases f with
    | none => exact h
    | some r => obtain ⟨p, cc, he, hs, _, hk⟩ := h; exact ⟨p, cc, he, hs, hk⟩
end Go.Proofs.YtialookpnoaogaaGreat
/- Less, the code's and the document's, walked. -/
namespace Go.Proofs.YtialookpnoaogaaGreat
open Go.RowKit

/-- a line, plain -/
structure LineD where
  head : Int
  name : List UInt8
  leaf : List UInt8
  value : List UInt8
def lessB (a b : LineD) : Bool :=
  if a.head = b.head then (if a.name = b.name then Op.bytesLess a.leaf b.leaf else Op.bytesLess a.name b.name) else decide (a.head < b.head)

set_option maxRecDepth 100000 in
theorem less_any (h1 h2 : Int) (n1 l1 v1 n2 l2 v2 : ByteArray) (r : Bool) (w : World) (hr : Hid (lessB ⟨h1, n1.data.toList, l1.data.toList, v1.data.toList⟩ ⟨h2, n2.data.toList, l2.data.toList, v2.data.toList⟩ = r)) :
    Calls Tryz.prog 88 #[.agg #[.int .i64 h1, .string n1, .string l1, .string v1], .agg #[.int .i64 h2, .string n2, .string l2, .string v2]] w (NewRes (.bool r) w) := by
  have hq := hr.out
  unfold lessB at hq
  simp only at hq
  by_cases hh : h1 = h2
  · have e1 : (h1 != h2) = false := by simpa using hh
    rw [if_pos hh] at hq
    by_cases hn : n1.data.toList = n2.data.toList
    · have e2 : (n1.toList == n2.toList) = true := by rw [Lib.toList_data, Lib.toList_data, hn]; simp
      rw [if_pos hn, ← Lib.toList_data l1, ← Lib.toList_data l2] at hq
      have hq' := Lib.hid hq; clear hq hr hh hn
      go_enter Tryz.func88, Tryz.ntmps88
      go_wp2
      go_ret
      exact ⟨by rw [← hq'.out]; rfl, ((Keeps.refl _ _).alloc _).alloc _⟩
    · have e2 : (n1.toList == n2.toList) = false := by rw [Lib.toList_data, Lib.toList_data]; simpa using hn
      rw [if_neg hn, ← Lib.toList_data n1, ← Lib.toList_data n2] at hq
      have hq' := Lib.hid hq; clear hq hr hh hn
      go_enter Tryz.func88, Tryz.ntmps88
      go_wp2
      go_ret
      exact ⟨by rw [← hq'.out]; rfl, ((Keeps.refl _ _).alloc _).alloc _⟩
  · have e1 : (h1 != h2) = true := by simpa using hh
    rw [if_neg hh] at hq
    have hq' := Lib.hid hq; clear hq hr hh
    go_enter Tryz.func88, Tryz.ntmps88
    go_wp2
    go_ret
    exact ⟨by rw [← hq'.out]; rfl, ((Keeps.refl _ _).alloc _).alloc _⟩

set_option maxRecDepth 100000 in
theorem rLess_any (h1 h2 : Int) (n1 l1 v1 n2 l2 v2 : ByteArray) (r : Bool) (w : World) (hr : Hid (lessB ⟨h1, n1.data.toList, l1.data.toList, v1.data.toList⟩ ⟨h2, n2.data.toList, l2.data.toList, v2.data.toList⟩ = r)) :
    Calls Tryz.prog 44 #[.agg #[.int .i64 h1, .string n1, .string l1, .string v1], .agg #[.int .i64 h2, .string n2, .string l2, .string v2]] w (NewRes (.bool r) w) := by
  have hq := hr.out
  unfold lessB at hq
  simp only at hq
  by_cases hh : h1 = h2
  · have e1 : (h1 != h2) = false := by simpa using hh
    rw [if_pos hh] at hq
    by_cases hn : n1.data.toList = n2.data.toList
    · have e2 : (n1.toList == n2.toList) = true := by rw [Lib.toList_data, Lib.toList_data, hn]; simp
      rw [if_pos hn, ← Lib.toList_data l1, ← Lib.toList_data l2] at hq
      have hq' := Lib.hid hq; clear hq hr hh hn
      go_enter Tryz.func44, Tryz.ntmps44
      go_wp2
      go_ret
      exact ⟨by rw [← hq'.out]; rfl, ((Keeps.refl _ _).alloc _).alloc _⟩
    · have e2 : (n1.toList == n2.toList) = false := by rw [Lib.toList_data, Lib.toList_data]; simpa using hn
      rw [if_neg hn, ← Lib.toList_data n1, ← Lib.toList_data n2] at hq
      have hq' := Lib.hid hq; clear hq hr hh hn
      go_enter Tryz.func44, Tryz.ntmps44
      go_wp2
      go_ret
      exact ⟨by rw [← hq'.out]; rfl, ((Keeps.refl _ _).alloc _).alloc _⟩
  · have e1 : (h1 != h2) = true := by simpa using hh
    rw [if_neg hh] at hq
    have hq' := Lib.hid hq; clear hq hr hh
    go_enter Tryz.func44, Tryz.ntmps44
    go_wp2
    go_ret
    exact ⟨by rw [← hq'.out]; rfl, ((Keeps.refl _ _).alloc _).alloc _⟩
end Go.Proofs.YtialookpnoaogaaGreat
