/- schema.Addr, schema.Net, walked. -/
import Derived.Test.YtmclnamgihphcaaGreatMM02
import Derived.Test.YtmclnamgihphcaaGreatMM01
set_option linter.unusedVariables false
set_option linter.unusedSimpArgs false
namespace Go.Proofs.YtmclnamgihphcaaGreat
open Go.RowKit

theorem dec_none (s : ByteArray) (w : World) (h : Hid (decL s.data.toList = none)) :
    Calls Tryz.prog 92 #[.string s] w fun e w' => e = .returned (.tuple #[.int .i64 0, .bool false]) ∧ w = w' := dec_r s none w h
theorem dec_some (s : ByteArray) (n : Nat) (w : World) (h : Hid (decL s.data.toList = some n)) :
    Calls Tryz.prog 92 #[.string s] w fun e w' => e = .returned (.tuple #[.int .i64 (n : Nat), .bool true]) ∧ w = w' := dec_r s (some n) w h
theorem rDec_none (s : ByteArray) (w : World) (h : Hid (decL s.data.toList = none)) :
    Calls Tryz.prog 77 #[.string s] w fun e w' => e = .returned (.tuple #[.int .i64 0, .bool false]) ∧ w = w' := rDec_r s none w h
theorem rDec_some (s : ByteArray) (n : Nat) (w : World) (h : Hid (decL s.data.toList = some n)) :
    Calls Tryz.prog 77 #[.string s] w fun e w' => e = .returned (.tuple #[.int .i64 (n : Nat), .bool true]) ∧ w = w' := rDec_r s (some n) w h

def addrRes : Option Nat → Value
  | some n => .tuple #[.int .u32 (n : Nat), .bool true]
  | none => .tuple #[.int .u32 0, .bool false]
theorem or_low8 (m b : Nat) (h : b < 256) : (m * 256) ||| b = m * 256 + b := by
  have h := Nat.two_pow_add_eq_or_of_lt (i := 8) (b := b) h m
  rw [show (2 : Nat) ^ 8 * m = m * 256 by omega] at h
  exact h.symm

set_option maxRecDepth 100000 in
set_option maxHeartbeats 1000000 in
theorem addr_r (s : ByteArray) (r : Option Nat) (w : World) (hs : s.size ≤ 9223372036854775807) (hr : Hid (addrL s.data.toList = r)) :
    Calls Tryz.prog 88 #[.string s] w fun e w' => e = .returned (addrRes r) ∧ ∃ m, w' = w.drewN m := by
  go_enter Tryz.func88, Tryz.ntmps88
  go_wp2
  go_loopw [0, 4, 11] (fun sv nv iv wr => ∃ (R : ByteArray) (k n : Nat), k ≤ 4 ∧ sv = .string R ∧ nv = .int .u32 (n : Nat) ∧ iv = .int .i64 k ∧ R.size ≤ s.size ∧ Hid (n < 256 ^ k) ∧ Hid (addrGo (4 - k) n R.data.toList = r) ∧ Hid (∃ m, wr = w.drewN m)) (fun _ _ iv _ => 4 - (intOf iv).toNat)
  case atStart => exact ⟨s, 0, 0, by omega, rfl, rfl, rfl, by omega, Lib.hid (by simp), Lib.hid hr.out, Lib.hid ⟨0, rfl⟩⟩
  case round =>
    obtain ⟨R, k, n, hk, rfl, rfl, rfl, hRs, hn, hgo, hw⟩ := hrel
    by_cases hk4 : k < 4
    · obtain ⟨j, hj⟩ : ∃ j, 4 - k = j + 1 := ⟨3 - k, by omega⟩
      have hgo1 := hgo.out
      rw [hj] at hgo1
      have hn4 : n < 16777216 := by
        have h1 := hn.out
        have : 256 ^ k ≤ 256 ^ 3 := Nat.pow_le_pow_right (by omega) (by omega)
        omega
      by_cases hm : 46 ∈ R.data.toList
      · rw [addrGo_yes hm] at hgo1
        obtain ⟨X, Y, hC, -, -⟩ := cutAt_ex hm
        rw [← hC.2.1, ← hC.2.2.1] at hgo1
        have hYs : Y.size ≤ s.size := Nat.le_trans hC.2.2.2.2 hRs
        have hC' := Lib.hid hC; clear hC hm hgo
        cases hd : decL X.data.toList with
        | none =>
          have hd' := Lib.hid hd
          rw [hd] at hgo1
          have hr1 := Lib.hid hgo1; clear hgo1 hd hj
          go_wp2_with (first | (go_at_call 95; refine (stringsCut_at R 46 X Y _ (by omega) hC').mono ?_; rintro e w1 ⟨rfl, m1, rfl⟩) | (go_at_call 92; refine (dec_none X _ hd').mono ?_; rintro e w' ⟨rfl, rfl⟩))
          go_ret2
          exact ⟨by rw [← hr1.out]; rfl, by obtain ⟨m, hm⟩ := hw.out; exact ⟨m + m1, by rw [hm]; simp⟩⟩
        | some b =>
          have hd' := Lib.hid hd
          rw [hd] at hgo1
          simp only at hgo1
          have hb9 := decL_lt hd
          clear hd
          by_cases hb : b ≤ 255
          · by_cases hk3 : k < 3
            · rw [if_pos ⟨hb, by omega⟩] at hgo1
              have hg : Hid (addrGo (4 - (k + 1)) (n * 256 + b) Y.data.toList = r) := Lib.hid (by rw [show 4 - (k + 1) = j by omega]; exact hgo1)
              have hn' : Hid (n * 256 + b < 256 ^ (k + 1)) := Lib.hid (by have := hn.out; rw [Nat.pow_succ]; omega)
              clear hgo1 hj
              have hor := u32_or_nat (n * 256) b (by omega) (by omega)
              rw [or_low8 n b (by omega)] at hor
              have hor2 : bits .or .u32 ((n : Int) * 256) (b : Int) = ((n * 256 + b : Nat) : Int) := by rw [← hor]; push_cast; rfl
              clear hor
              have hor' := Lib.hid hor2; clear hor2
              have hk3' : decide ((k : Int) < 3) = true := by simp; omega
              go_wp2_with (first | (go_at_call 95; refine (stringsCut_at R 46 X Y _ (by omega) hC').mono ?_; rintro e w1 ⟨rfl, m1, rfl⟩) | (go_at_call 92; refine (dec_some X b _ hd').mono ?_; rintro e w' ⟨rfl, rfl⟩))
              all_goals exact ⟨⟨Y, k + 1, n * 256 + b, by omega, rfl, by rw [hor'.out], by go_num, hYs, hn', hg, by obtain ⟨m, hm⟩ := hw.out; exact Lib.hid ⟨m + m1, by rw [hm]; simp⟩⟩, by simp [intOf]; omega⟩
            · rw [if_neg (by omega)] at hgo1
              have hk3' : decide ((k : Int) < 3) = false := by simp; omega
              have hr1 := Lib.hid hgo1; clear hgo1 hj
              go_wp2_with (first | (go_at_call 95; refine (stringsCut_at R 46 X Y _ (by omega) hC').mono ?_; rintro e w1 ⟨rfl, m1, rfl⟩) | (go_at_call 92; refine (dec_some X b _ hd').mono ?_; rintro e w' ⟨rfl, rfl⟩))
              go_ret2
              exact ⟨by rw [← hr1.out]; rfl, by obtain ⟨m, hm⟩ := hw.out; exact ⟨m + m1, by rw [hm]; simp⟩⟩
          · rw [if_neg (by omega)] at hgo1
            have hr1 := Lib.hid hgo1; clear hgo1 hj
            go_wp2_with (first | (go_at_call 95; refine (stringsCut_at R 46 X Y _ (by omega) hC').mono ?_; rintro e w1 ⟨rfl, m1, rfl⟩) | (go_at_call 92; refine (dec_some X b _ hd').mono ?_; rintro e w' ⟨rfl, rfl⟩))
            go_ret2
            exact ⟨by rw [← hr1.out]; rfl, by obtain ⟨m, hm⟩ := hw.out; exact ⟨m + m1, by rw [hm]; simp⟩⟩
      · rw [addrGo_no hm] at hgo1
        have hm' := Lib.hid hm; clear hm hgo
        cases hd : decL R.data.toList with
        | none =>
          have hd' := Lib.hid hd
          rw [hd] at hgo1
          have hr1 := Lib.hid hgo1; clear hgo1 hd hj
          go_wp2_with (first | (go_at_call 95; refine (stringsCut_no R 46 _ hm').mono ?_; rintro e w' ⟨rfl, rfl⟩) | (go_at_call 92; refine (dec_none R _ hd').mono ?_; rintro e w' ⟨rfl, rfl⟩))
          go_ret2
          exact ⟨by rw [← hr1.out]; rfl, hw.out⟩
        | some b =>
          have hd' := Lib.hid hd
          rw [hd] at hgo1
          simp only at hgo1
          have hb9 := decL_lt hd
          clear hd
          by_cases hb : b ≤ 255
          · by_cases hk3 : k < 3
            · rw [if_neg (by omega)] at hgo1
              have hr1 := Lib.hid hgo1; clear hgo1 hj
              go_wp2_with (first | (go_at_call 95; refine (stringsCut_no R 46 _ hm').mono ?_; rintro e w' ⟨rfl, rfl⟩) | (go_at_call 92; refine (dec_some R b _ hd').mono ?_; rintro e w' ⟨rfl, rfl⟩))
              go_ret2
              exact ⟨by rw [← hr1.out]; rfl, hw.out⟩
            · obtain rfl : k = 3 := by omega
              obtain rfl : j = 0 := by omega
              rw [if_pos ⟨hb, rfl⟩] at hgo1
              have hg : Hid (addrGo (4 - (3 + 1)) (n * 256 + b) [] = r) := Lib.hid hgo1
              have hn' : Hid (n * 256 + b < 256 ^ (3 + 1)) := Lib.hid (by have := hn.out; rw [Nat.pow_succ]; omega)
              clear hgo1 hj
              have hor := u32_or_nat (n * 256) b (by omega) (by omega)
              rw [or_low8 n b (by omega)] at hor
              have hor2 : bits .or .u32 ((n : Int) * 256) (b : Int) = ((n * 256 + b : Nat) : Int) := by rw [← hor]; push_cast; rfl
              clear hor
              have hor' := Lib.hid hor2; clear hor2
              go_wp2_with (first | (go_at_call 95; refine (stringsCut_no R 46 _ hm').mono ?_; rintro e w' ⟨rfl, rfl⟩) | (go_at_call 92; refine (dec_some R b _ hd').mono ?_; rintro e w' ⟨rfl, rfl⟩))
              all_goals exact ⟨⟨_, 3 + 1, n * 256 + b, by omega, rfl, by rw [hor'.out], rfl, Nat.zero_le _, hn', hg, hw⟩, by simp [intOf]⟩
          · rw [if_neg (by omega)] at hgo1
            have hr1 := Lib.hid hgo1; clear hgo1 hj
            go_wp2_with (first | (go_at_call 95; refine (stringsCut_no R 46 _ hm').mono ?_; rintro e w' ⟨rfl, rfl⟩) | (go_at_call 92; refine (dec_some R b _ hd').mono ?_; rintro e w' ⟨rfl, rfl⟩))
            go_ret2
            exact ⟨by rw [← hr1.out]; rfl, hw.out⟩
    · obtain rfl : k = 4 := by omega
      have hr1 : Hid (some n = r) := Lib.hid hgo.out
      go_wp2
      go_ret2
      exact ⟨by rw [← hr1.out]; rfl, hw.out⟩
end Go.Proofs.YtmclnamgihphcaaGreat
/- schema.Net, walked. -/
namespace Go.Proofs.YtmclnamgihphcaaGreat
open Go.RowKit

theorem addr_none (s : ByteArray) (w : World) (hs : s.size ≤ 9223372036854775807) (h : Hid (addrL s.data.toList = none)) :
    Calls Tryz.prog 88 #[.string s] w fun e w' => e = .returned (.tuple #[.int .u32 0, .bool false]) ∧ ∃ m, w' = w.drewN m := addr_r s none w hs h
theorem addr_some (s : ByteArray) (n : Nat) (w : World) (hs : s.size ≤ 9223372036854775807) (h : Hid (addrL s.data.toList = some n)) :
    Calls Tryz.prog 88 #[.string s] w fun e w' => e = .returned (.tuple #[.int .u32 (n : Nat), .bool true]) ∧ ∃ m, w' = w.drewN m := addr_r s (some n) w hs h
def netRes : Option (Nat × Nat) → Value
  | some (a, n) => .tuple #[.int .u32 (a : Nat), .int .i64 (n : Nat), .bool true]
  | none => .tuple #[.int .u32 0, .int .i64 0, .bool false]
theorem addrL_nil : addrL [] = none := by rw [addrL_eq]; rfl
theorem decL_nil : decL [] = none := by decide

set_option maxRecDepth 100000 in
set_option maxHeartbeats 1000000 in
theorem net_r (s : ByteArray) (r : Option (Nat × Nat)) (w : World) (hs : s.size ≤ 9223372036854775807) (hr : Hid (netL s.data.toList = r)) :
    Calls Tryz.prog 91 #[.string s] w fun e w' => e = .returned (netRes r) ∧ ∃ m, w' = w.drewN m := by
  have hn := hr.out
  unfold netL at hn
  by_cases hm : 47 ∈ s.data.toList
  · rw [if_pos hm] at hn
    obtain ⟨X, Y, hC, -, -⟩ := cutAt_ex hm
    rw [← hC.2.1, ← hC.2.2.1] at hn
    have hXs : X.size ≤ s.size := hC.2.2.2.1
    have hC' := Lib.hid hC; clear hC hm hr
    cases ha : addrL X.data.toList with
    | none =>
      rw [ha] at hn
      have ha' := Lib.hid ha; clear ha
      obtain rfl : r = none := by cases hd : decL Y.data.toList <;> rw [hd] at hn <;> exact hn.symm
      clear hn
      cases hd : decL Y.data.toList with
      | none =>
        have hd' := Lib.hid hd; clear hd
        go_enter Tryz.func91, Tryz.ntmps91
        go_wp2_with (first | (go_at_call 95; refine (stringsCut_at s 47 X Y _ (by omega) hC').mono ?_; rintro e w1 ⟨rfl, m1, rfl⟩) | (go_at_call 88; refine (addr_none X _ (by omega) ha').mono ?_; rintro e w2 ⟨rfl, m2, rfl⟩) | (go_at_call 92; refine (dec_none Y _ hd').mono ?_; rintro e w' ⟨rfl, rfl⟩))
        go_ret3
        exact ⟨rfl, m1 + m2, by simp⟩
      | some n =>
        have hd' := Lib.hid hd; clear hd
        go_enter Tryz.func91, Tryz.ntmps91
        go_wp2_with (first | (go_at_call 95; refine (stringsCut_at s 47 X Y _ (by omega) hC').mono ?_; rintro e w1 ⟨rfl, m1, rfl⟩) | (go_at_call 88; refine (addr_none X _ (by omega) ha').mono ?_; rintro e w2 ⟨rfl, m2, rfl⟩) | (go_at_call 92; refine (dec_some Y n _ hd').mono ?_; rintro e w' ⟨rfl, rfl⟩))
        go_ret3
        exact ⟨rfl, m1 + m2, by simp⟩
    | some a =>
      rw [ha] at hn
      have ha' := Lib.hid ha; clear ha
      cases hd : decL Y.data.toList with
      | none =>
        rw [hd] at hn
        obtain rfl : r = none := hn.symm
        have hd' := Lib.hid hd; clear hd hn
        go_enter Tryz.func91, Tryz.ntmps91
        go_wp2_with (first | (go_at_call 95; refine (stringsCut_at s 47 X Y _ (by omega) hC').mono ?_; rintro e w1 ⟨rfl, m1, rfl⟩) | (go_at_call 88; refine (addr_some X a _ (by omega) ha').mono ?_; rintro e w2 ⟨rfl, m2, rfl⟩) | (go_at_call 92; refine (dec_none Y _ hd').mono ?_; rintro e w' ⟨rfl, rfl⟩))
        go_ret3
        exact ⟨rfl, m1 + m2, by simp⟩
      | some n =>
        rw [hd] at hn
        simp only at hn
        have hd' := Lib.hid hd; clear hd
        by_cases h1 : 1 ≤ n
        · by_cases h2 : n ≤ 32
          · rw [if_pos ⟨h1, h2⟩] at hn
            obtain rfl : r = some (a, n) := hn.symm
            clear hn
            go_enter Tryz.func91, Tryz.ntmps91
            go_wp2_with (first | (go_at_call 95; refine (stringsCut_at s 47 X Y _ (by omega) hC').mono ?_; rintro e w1 ⟨rfl, m1, rfl⟩) | (go_at_call 88; refine (addr_some X a _ (by omega) ha').mono ?_; rintro e w2 ⟨rfl, m2, rfl⟩) | (go_at_call 92; refine (dec_some Y n _ hd').mono ?_; rintro e w' ⟨rfl, rfl⟩))
            go_ret3
            exact ⟨rfl, m1 + m2, by simp⟩
          · rw [if_neg (by omega)] at hn
            obtain rfl : r = none := hn.symm
            clear hn
            go_enter Tryz.func91, Tryz.ntmps91
            go_wp2_with (first | (go_at_call 95; refine (stringsCut_at s 47 X Y _ (by omega) hC').mono ?_; rintro e w1 ⟨rfl, m1, rfl⟩) | (go_at_call 88; refine (addr_some X a _ (by omega) ha').mono ?_; rintro e w2 ⟨rfl, m2, rfl⟩) | (go_at_call 92; refine (dec_some Y n _ hd').mono ?_; rintro e w' ⟨rfl, rfl⟩))
            go_ret3
            exact ⟨rfl, m1 + m2, by simp⟩
        · rw [if_neg (by omega)] at hn
          obtain rfl : r = none := hn.symm
          clear hn
          go_enter Tryz.func91, Tryz.ntmps91
          go_wp2_with (first | (go_at_call 95; refine (stringsCut_at s 47 X Y _ (by omega) hC').mono ?_; rintro e w1 ⟨rfl, m1, rfl⟩) | (go_at_call 88; refine (addr_some X a _ (by omega) ha').mono ?_; rintro e w2 ⟨rfl, m2, rfl⟩) | (go_at_call 92; refine (dec_some Y n _ hd').mono ?_; rintro e w' ⟨rfl, rfl⟩))
          go_ret3
          exact ⟨rfl, m1 + m2, by simp⟩
  · rw [if_neg hm] at hn
    obtain rfl : r = none := hn.symm
    have hm' := Lib.hid hm; clear hm hn hr
    have hd0 := Lib.hid (show decL (ByteArray.mk #[]).data.toList = none from decL_nil)
    cases ha : addrL s.data.toList with
    | none =>
      have ha' := Lib.hid ha; clear ha
      go_enter Tryz.func91, Tryz.ntmps91
      go_wp2_with (first | (go_at_call 95; refine (stringsCut_no s 47 _ hm').mono ?_; rintro e w' ⟨rfl, rfl⟩) | (go_at_call 88; refine (addr_none s _ hs ha').mono ?_; rintro e w2 ⟨rfl, m2, rfl⟩) | (go_at_call 92; refine (dec_none ⟨#[]⟩ _ hd0).mono ?_; rintro e w' ⟨rfl, rfl⟩))
      go_ret3
      exact ⟨rfl, m2, by simp⟩
    | some a =>
      have ha' := Lib.hid ha; clear ha
      go_enter Tryz.func91, Tryz.ntmps91
      go_wp2_with (first | (go_at_call 95; refine (stringsCut_no s 47 _ hm').mono ?_; rintro e w' ⟨rfl, rfl⟩) | (go_at_call 88; refine (addr_some s a _ hs ha').mono ?_; rintro e w2 ⟨rfl, m2, rfl⟩) | (go_at_call 92; refine (dec_none ⟨#[]⟩ _ hd0).mono ?_; rintro e w' ⟨rfl, rfl⟩))
      go_ret3
      exact ⟨rfl, m2, by simp⟩
theorem net_none (s : ByteArray) (w : World) (hs : s.size ≤ 9223372036854775807) (h : Hid (netL s.data.toList = none)) :
    Calls Tryz.prog 91 #[.string s] w fun e w' => e = .returned (.tuple #[.int .u32 0, .int .i64 0, .bool false]) ∧ ∃ m, w' = w.drewN m := net_r s none w hs h
theorem net_some (s : ByteArray) (a n : Nat) (w : World) (hs : s.size ≤ 9223372036854775807) (h : Hid (netL s.data.toList = some (a, n))) :
    Calls Tryz.prog 91 #[.string s] w fun e w' => e = .returned (.tuple #[.int .u32 (a : Nat), .int .i64 (n : Nat), .bool true]) ∧ ∃ m, w' = w.drewN m := net_r s (some (a, n)) w hs h
end Go.Proofs.YtmclnamgihphcaaGreat
/- lex.Words, walked. -/
namespace Go.Proofs.YtmclnamgihphcaaGreat
open Go.RowKit

def strv (l : List UInt8) : Value := .string ⟨l.toArray⟩
theorem strv_one (xs : List (List UInt8)) : ∀ v ∈ xs.map strv, v.oneCell' = true := by
  intro v hv; obtain ⟨x, _, rfl⟩ := List.mem_map.1 hv; rfl
theorem strInfoAll : (Tryz.prog.info? 9).map (fun i => (i.zero, i.size, i.bytes)) = some (some (.string ⟨#[]⟩), 1, 16) := by kernel_rfl
theorem extract_strv (s : ByteArray) (a b : Nat) : Value.string (s.extract a b) = strv ((s.data.toList.drop a).take (b - a)) := by
  unfold strv; rw [Lib.extract_eq]

/-- a row of texts of the call's own: no older block is part of it -/
def OwnStrs (w0 w : World) (v : Value) (xs : List (List UInt8)) : Prop :=
  w.ownsRow 0 9 1 v xs.length (xs.map strv) ∧ ∀ k, v.ownBlock = some k → w0.heap.size ≤ k
theorem OwnStrs.nil (w0 w : World) : OwnStrs w0 w (.slice none 0 0) [] := ⟨⟨rfl, .inl ⟨rfl, rfl⟩⟩, by simp [Value.ownBlock]⟩
theorem OwnStrs.slice {w0 w : World} {v : Value} {xs : List (List UInt8)} (h : OwnStrs w0 w v xs) : ∃ p c, v = .slice p xs.length c := ownsRow_slice h.1
/-- what an append to it leaves -/
theorem OwnStrs.push {w0 wr wb w1 : World} {v : Value} {xs : List (List UInt8)} (h : OwnStrs w0 wr v xs) (x : List UInt8) {p : Option Addr} {c : Nat} (hk : Keeps (fun _ => False) w0 wb)
    (ho : wb.grownBy w1 v.ownBlock) (h2 : w1.ownsRow 0 9 1 (.slice p (xs.length + 1) c) (xs.length + 1) (xs.map strv ++ [strv x]))
    (hs : ∀ k, (Value.slice p (xs.length + 1) c).ownBlock = some k → v.ownBlock = some k ∨ wb.heap.size ≤ k) :
    OwnStrs w0 w1 (.slice p (xs.length + 1) c) (xs ++ [x]) ∧ Keeps (fun _ => False) w0 w1 := by
  refine ⟨⟨by simpa using h2, fun k e => ?_⟩, hk.grown ho (fun k e => .inr (h.2 k e))⟩
  rcases hs k e with e | e
  · exact h.2 k e
  · have := hk.size; omega

/-- what Words answers -/
def WordsPost (t : List UInt8) (w0 : World) (e : Ending) (w' : World) : Prop :=
  ∃ p c, e = .returned (.tuple #[.slice p (lexWords t).1.length c, .int .i64 ((lexWords t).2.1 : Nat), .int .i64 ((lexWords t).2.2 : Nat)]) ∧ OwnStrs w0 w' (.slice p (lexWords t).1.length c) (lexWords t).1 ∧ Keeps (fun _ => False) w0 w'

theorem WordsPost.good {t : List UInt8} {l : List (List UInt8)} (h : lexL t = .ok l) {n : Nat} (hn : n = t.length) {w0 w' : World} {v : Value} (ho : OwnStrs w0 w' v l) (hk : Keeps (fun _ => False) w0 w') :
    WordsPost t w0 (.returned (.tuple #[v, .int .i64 (n : Nat), .int .i64 0])) w' := by
  obtain ⟨p, c, rfl⟩ := ho.slice
  have e : lexWords t = (l, t.length, 0) := by unfold lexWords; rw [h]
  refine ⟨p, c, ?_, ?_, hk⟩
  · rw [e]; simp [hn]
  · rw [e]; exact ho
theorem WordsPost.bad {t : List UInt8} {m : Nat} (h : lexL t = .bad m) {n : Nat} (hn : n = t.length - m) {w0 w' : World} (hk : Keeps (fun _ => False) w0 w') :
    WordsPost t w0 (.returned (.tuple #[.slice none 0 0, .int .i64 (n : Nat), .int .i64 3])) w' := by
  have e : lexWords t = ([], t.length - m, 3) := by unfold lexWords; rw [h]
  refine ⟨none, 0, ?_, ?_, hk⟩
  · rw [e]; simp [hn]
  · rw [e]; exact OwnStrs.nil _ _

theorem fits_r (n : Int) (r : Bool) (w : World) (h0 : 0 ≤ n) (hr : Hid (decide (1 ≤ n ∧ n ≤ 31) = r)) :
    Calls Tryz.prog 96 #[.int .i64 n] w fun e w' => e = .returned (.bool r) ∧ w = w' :=
  (fits_any n w h0).mono fun e w' ⟨he, hw⟩ => ⟨by rw [he, hr.out], hw⟩
theorem lexL_hash' {c : UInt8} {r : List UInt8} (h : c = 35) : lexL (c :: r) = lexL (r.drop (clen r)) := by subst h; exact lexL_hash
end Go.Proofs.YtmclnamgihphcaaGreat
