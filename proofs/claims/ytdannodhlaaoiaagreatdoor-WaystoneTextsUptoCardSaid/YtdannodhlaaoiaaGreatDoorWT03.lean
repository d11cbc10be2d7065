/- schema.Decimal, and the document's, walked. -/
import Derived.Test.YtdannodhlaaoiaaGreatDoorWT02
set_option linter.unusedVariables false
set_option linter.unusedSimpArgs false
namespace Go.Proofs.YtdannodhlaaoiaaGreatDoor
open Go.RowKit

def decRes : Option Nat → Value
  | some n => .tuple #[.int .i64 (n : Nat), .bool true]
  | none => .tuple #[.int .i64 0, .bool false]

theorem dec_none_len (s : ByteArray) (w : World) (h : s.size < 1 ∨ 9 < s.size) :
    Calls Tryz.prog 114 #[.string s] w fun e w' => e = .returned (.tuple #[.int .i64 0, .bool false]) ∧ w = w' := by
  by_cases h1 : s.size < 1
  · have h2 : s.size ≤ 9 := by omega
    clear h
    go_enter Tryz.func114, Tryz.ntmps114
    go_wp2
    go_ret2
    exact ⟨rfl, rfl⟩
  · have h2 : 9 < s.size := by omega
    clear h
    go_enter Tryz.func114, Tryz.ntmps114
    go_wp2
    go_ret2
    exact ⟨rfl, rfl⟩
theorem dec_none_nought (s : ByteArray) (w : World) (h1 : 1 < s.size) (h9 : s.size ≤ 9) (h0 : Hid (s[0].toNat = 48)) :
    Calls Tryz.prog 114 #[.string s] w fun e w' => e = .returned (.tuple #[.int .i64 0, .bool false]) ∧ w = w' := by
  have d : ((s[0].toNat : Int) == 48) = true := by rw [h0.out]; rfl
  go_enter Tryz.func114, Tryz.ntmps114
  go_wp2
  go_ret2
  exact ⟨rfl, rfl⟩
set_option maxRecDepth 100000 in
theorem dec_shape (s : ByteArray) (r : Option Nat) (w : World) (h1 : 1 ≤ s.size) (h9 : s.size ≤ 9) (hsh : s.size = 1 ∨ ∃ h : 0 < s.size, s[0].toNat ≠ 48) (hr : Hid (r = if s.data.toList.all digB then some (decVal s.data.toList) else none)) :
    Calls Tryz.prog 114 #[.string s] w fun e w' => e = .returned (decRes r) ∧ w = w' := by
  have hA : s.size ≤ 1 ∨ (1 < s.size ∧ ∃ h : 0 < s.size, ((s[0].toNat : Int) == 48) = false) := by
    by_cases h : s.size ≤ 1
    · exact .inl h
    · refine .inr ⟨by omega, by omega, ?_⟩
      rcases hsh with hs | ⟨h0, hs⟩
      · omega
      · rw [beq_eq_false_iff_ne]; omega
  clear hsh
  rcases hA with hA | ⟨hA, _, hA2⟩
  all_goals
    go_enter Tryz.func114, Tryz.ntmps114
    go_wp2
    go_loop [4, 26] (fun nv iv => ∃ k : Nat, k ≤ s.size ∧ nv = .int .i64 (decVal (s.data.toList.take k) : Nat) ∧ iv = .int .i64 k ∧ Hid ((s.data.toList.take k).all digB = true)) (fun _ iv => s.size - (intOf iv).toNat)
    case atStart => exact ⟨0, by omega, by simp [decVal], rfl, Lib.hid (by simp)⟩
    case round =>
      obtain ⟨k, hk, rfl, rfl, hall⟩ := hrel
      by_cases hlt : k < s.size
      · have hl : k < s.data.toList.length := by simpa using hlt
        have hgk : s.data.toList[k] = s[k] := by rw [Array.getElem_toList]; rfl
        have hts : s.data.toList.take (k + 1) = s.data.toList.take k ++ [s[k]] := by rw [List.take_succ_eq_append_getElem hl, hgk]
        by_cases hd : digB s[k] = true
        · have hm : decVal (s.data.toList.take k) < 1000000000 := by
            have h1 := decVal_lt _ _ rfl hall.out
            have h2 : (s.data.toList.take k).length ≤ 9 := by simp; omega
            have : (10 : Nat) ^ (s.data.toList.take k).length ≤ 10 ^ 9 := Nat.pow_le_pow_right (by omega) h2
            omega
          have hv := decVal_snoc (s.data.toList.take k) s[k]
          rw [← hts] at hv
          have hall' : Hid ((s.data.toList.take (k + 1)).all digB = true) := Lib.hid (by rw [hts, List.all_append, hall.out]; simp [hd])
          have hdd := hd
          unfold digB at hdd
          rw [decide_eq_true_eq] at hdd
          obtain ⟨hd1, hd2⟩ := hdd
          obtain ⟨m, hme⟩ : ∃ m, m = decVal (s.data.toList.take k) := ⟨_, rfl⟩
          rw [← hme] at hm hv ⊢
          have hv' := Lib.hid hv; clear hv hme hts hgk hall hd
          go_wp2
          go_round
          case rel => exact ⟨k + 1, by omega, by rw [hv'.out]; congr 1; omega, by go_num, hall'⟩
          case measure => simp [intOf]; omega
        · have hr' : Hid (r = none) := Lib.hid (by
            rw [hr.out, if_neg]
            intro h
            apply hd
            have := List.all_eq_true.1 h s[k] (by rw [← hgk]; exact List.getElem_mem hl)
            exact this)
          have hdd : s[k].toNat < 48 ∨ (48 ≤ s[k].toNat ∧ 57 < s[k].toNat) := by
            unfold digB at hd
            rw [decide_eq_true_eq] at hd
            omega
          clear hd hts hgk
          rcases hdd with hd1 | ⟨hd1, hd2⟩
          · go_wp2
            go_ret2
            exact ⟨by rw [hr'.out]; rfl, rfl⟩
          · go_wp2
            go_ret2
            exact ⟨by rw [hr'.out]; rfl, rfl⟩
      · obtain rfl : k = s.size := by omega
        have ht : s.data.toList.take s.size = s.data.toList := List.take_of_length_le (by simp)
        have hr' : Hid (r = some (decVal s.data.toList)) := Lib.hid (by
          have := hall.out
          rw [ht] at this
          rw [hr.out, if_pos this])
        rw [ht]
        clear ht hall
        go_wp2
        go_ret2
        exact ⟨by rw [hr'.out]; rfl, rfl⟩
theorem dec_r (s : ByteArray) (r : Option Nat) (w : World) (hr : Hid (decL s.data.toList = r)) :
    Calls Tryz.prog 114 #[.string s] w fun e w' => e = .returned (decRes r) ∧ w = w' := by
  have hr := hr.out
  unfold decL decShape at hr
  have hl : s.data.toList.length = s.size := by simp
  rw [hl] at hr
  by_cases h : 1 ≤ s.size ∧ s.size ≤ 9
  · obtain ⟨h1, h9⟩ := h
    have h00 : 0 < s.size := by omega
    have hh : s.data.toList.head? = some s[0] := by
      have : s.data.toList[0]? = some s[0] := by
        rw [List.getElem?_eq_getElem (by simpa using h00), Array.getElem_toList]; rfl
      rw [List.head?_eq_getElem?, this]
    rw [hh] at hr
    by_cases h0 : 1 < s.size ∧ s[0].toNat = 48
    · have : r = none := by
        rw [← hr, if_neg]
        have : s[0] = 48 := UInt8.toNat_inj.mp h0.2
        simp [h0.1, this]
      subst this
      exact (dec_none_nought s w h0.1 h9 (Lib.hid h0.2)).mono fun e w' h => h
    · refine dec_shape s r w h1 h9 ?_ (Lib.hid ?_)
      · by_cases h1' : s.size = 1
        · exact .inl h1'
        · exact .inr ⟨h00, fun e => h0 ⟨by omega, e⟩⟩
      · rw [← hr]
        have hd : decide (1 ≤ s.size ∧ s.size ≤ 9 ∧ ¬ (1 < s.size ∧ some s[0] = some (48 : UInt8))) = true := by
          rw [decide_eq_true_eq]
          refine ⟨h1, h9, fun ⟨a, b⟩ => h0 ⟨a, ?_⟩⟩
          injection b with b
          rw [b]; rfl
        rw [hd, Bool.true_and]
  · have : r = none := by rw [← hr, if_neg]; simp; omega
    subst this
    exact (dec_none_len s w (by omega)).mono fun e w' h => h

theorem rDec_none_len (s : ByteArray) (w : World) (h : s.size < 1 ∨ 9 < s.size) :
    Calls Tryz.prog 125 #[.string s] w fun e w' => e = .returned (.tuple #[.int .i64 0, .bool false]) ∧ w = w' := by
  by_cases h1 : s.size < 1
  · have h2 : s.size ≤ 9 := by omega
    clear h
    go_enter Tryz.func125, Tryz.ntmps125
    go_wp2
    go_ret2
    exact ⟨rfl, rfl⟩
  · have h2 : 9 < s.size := by omega
    clear h
    go_enter Tryz.func125, Tryz.ntmps125
    go_wp2
    go_ret2
    exact ⟨rfl, rfl⟩
theorem rDec_none_nought (s : ByteArray) (w : World) (h1 : 1 < s.size) (h9 : s.size ≤ 9) (h0 : Hid (s[0].toNat = 48)) :
    Calls Tryz.prog 125 #[.string s] w fun e w' => e = .returned (.tuple #[.int .i64 0, .bool false]) ∧ w = w' := by
  have d : ((s[0].toNat : Int) == 48) = true := by rw [h0.out]; rfl
  go_enter Tryz.func125, Tryz.ntmps125
  go_wp2
  go_ret2
  exact ⟨rfl, rfl⟩
set_option maxRecDepth 100000 in
theorem rDec_shape (s : ByteArray) (r : Option Nat) (w : World) (h1 : 1 ≤ s.size) (h9 : s.size ≤ 9) (hsh : s.size = 1 ∨ ∃ h : 0 < s.size, s[0].toNat ≠ 48) (hr : Hid (r = if s.data.toList.all digB then some (decVal s.data.toList) else none)) :
    Calls Tryz.prog 125 #[.string s] w fun e w' => e = .returned (decRes r) ∧ w = w' := by
  have hA : s.size ≤ 1 ∨ (1 < s.size ∧ ∃ h : 0 < s.size, ((s[0].toNat : Int) == 48) = false) := by
    by_cases h : s.size ≤ 1
    · exact .inl h
    · refine .inr ⟨by omega, by omega, ?_⟩
      rcases hsh with hs | ⟨h0, hs⟩
      · omega
      · rw [beq_eq_false_iff_ne]; omega
  clear hsh
  rcases hA with hA | ⟨hA, _, hA2⟩
  all_goals
    go_enter Tryz.func125, Tryz.ntmps125
    go_wp2
    go_loop [4, 5] (fun nv iv => ∃ k : Nat, k ≤ s.size ∧ nv = .int .i64 (decVal (s.data.toList.take k) : Nat) ∧ iv = .int .i64 k ∧ Hid ((s.data.toList.take k).all digB = true)) (fun _ iv => s.size - (intOf iv).toNat)
    case atStart => exact ⟨0, by omega, by simp [decVal], rfl, Lib.hid (by simp)⟩
    case round =>
      obtain ⟨k, hk, rfl, rfl, hall⟩ := hrel
      by_cases hlt : k < s.size
      · have hl : k < s.data.toList.length := by simpa using hlt
        have hgk : s.data.toList[k] = s[k] := by rw [Array.getElem_toList]; rfl
        have hts : s.data.toList.take (k + 1) = s.data.toList.take k ++ [s[k]] := by rw [List.take_succ_eq_append_getElem hl, hgk]
        by_cases hd : digB s[k] = true
        · have hm : decVal (s.data.toList.take k) < 1000000000 := by
            have h1 := decVal_lt _ _ rfl hall.out
            have h2 : (s.data.toList.take k).length ≤ 9 := by simp; omega
            have : (10 : Nat) ^ (s.data.toList.take k).length ≤ 10 ^ 9 := Nat.pow_le_pow_right (by omega) h2
            omega
          have hv := decVal_snoc (s.data.toList.take k) s[k]
          rw [← hts] at hv
          have hall' : Hid ((s.data.toList.take (k + 1)).all digB = true) := Lib.hid (by rw [hts, List.all_append, hall.out]; simp [hd])
          have hdd := hd
          unfold digB at hdd
          rw [decide_eq_true_eq] at hdd
          obtain ⟨hd1, hd2⟩ := hdd
          obtain ⟨m, hme⟩ : ∃ m, m = decVal (s.data.toList.take k) := ⟨_, rfl⟩
          rw [← hme] at hm hv ⊢
          have hv' := Lib.hid hv; clear hv hme hts hgk hall hd
          go_wp2
          go_round
          case rel => exact ⟨k + 1, by omega, by rw [hv'.out]; congr 1; omega, by go_num, hall'⟩
          case measure => simp [intOf]; omega
        · have hr' : Hid (r = none) := Lib.hid (by
            rw [hr.out, if_neg]
            intro h
            apply hd
            have := List.all_eq_true.1 h s[k] (by rw [← hgk]; exact List.getElem_mem hl)
            exact this)
          have hdd : s[k].toNat < 48 ∨ (48 ≤ s[k].toNat ∧ 57 < s[k].toNat) := by
            unfold digB at hd
            rw [decide_eq_true_eq] at hd
            omega
          clear hd hts hgk
          rcases hdd with hd1 | ⟨hd1, hd2⟩
          · go_wp2
            go_ret2
            exact ⟨by rw [hr'.out]; rfl, rfl⟩
          · go_wp2
            go_ret2
            exact ⟨by rw [hr'.out]; rfl, rfl⟩
      · obtain rfl : k = s.size := by omega
        have ht : s.data.toList.take s.size = s.data.toList := List.take_of_length_le (by simp)
        have hr' : Hid (r = some (decVal s.data.toList)) := Lib.hid (by
          have := hall.out
          rw [ht] at this
          rw [hr.out, if_pos this])
        rw [ht]
        clear ht hall
        go_wp2
        go_ret2
        exact ⟨by rw [hr'.out]; rfl, rfl⟩
theorem rDec_r (s : ByteArray) (r : Option Nat) (w : World) (hr : Hid (decL s.data.toList = r)) :
    Calls Tryz.prog 125 #[.string s] w fun e w' => e = .returned (decRes r) ∧ w = w' := by
  have hr := hr.out
  unfold decL decShape at hr
  have hl : s.data.toList.length = s.size := by simp
  rw [hl] at hr
  by_cases h : 1 ≤ s.size ∧ s.size ≤ 9
  · obtain ⟨h1, h9⟩ := h
    have h00 : 0 < s.size := by omega
    have hh : s.data.toList.head? = some s[0] := by
      have : s.data.toList[0]? = some s[0] := by
        rw [List.getElem?_eq_getElem (by simpa using h00), Array.getElem_toList]; rfl
      rw [List.head?_eq_getElem?, this]
    rw [hh] at hr
    by_cases h0 : 1 < s.size ∧ s[0].toNat = 48
    · have : r = none := by
        rw [← hr, if_neg]
        have : s[0] = 48 := UInt8.toNat_inj.mp h0.2
        simp [h0.1, this]
      subst this
      exact (rDec_none_nought s w h0.1 h9 (Lib.hid h0.2)).mono fun e w' h => h
    · refine rDec_shape s r w h1 h9 ?_ (Lib.hid ?_)
      · by_cases h1' : s.size = 1
        · exact .inl h1'
        · exact .inr ⟨h00, fun e => h0 ⟨by omega, e⟩⟩
      · rw [← hr]
        have hd : decide (1 ≤ s.size ∧ s.size ≤ 9 ∧ ¬ (1 < s.size ∧ some s[0] = some (48 : UInt8))) = true := by
          rw [decide_eq_true_eq]
          refine ⟨h1, h9, fun ⟨a, b⟩ => h0 ⟨a, ?_⟩⟩
          injection b with b
          rw [b]; rfl
        rw [hd, Bool.true_and]
  · have : r = none := by rw [← hr, if_neg]; simp; omega
    subst this
    exact (rDec_none_len s w (by omega)).mono fun e w' h => h
end Go.Proofs.YtdannodhlaaoiaaGreatDoor
/- schema.Addr, schema.Net, walked. -/
namespace Go.Proofs.YtdannodhlaaoiaaGreatDoor
open Go.RowKit

theorem dec_none (s : ByteArray) (w : World) (h : Hid (decL s.data.toList = none)) :
    Calls Tryz.prog 114 #[.string s] w fun e w' => e = .returned (.tuple #[.int .i64 0, .bool false]) ∧ w = w' := dec_r s none w h
theorem dec_some (s : ByteArray) (n : Nat) (w : World) (h : Hid (decL s.data.toList = some n)) :
    Calls Tryz.prog 114 #[.string s] w fun e w' => e = .returned (.tuple #[.int .i64 (n : Nat), .bool true]) ∧ w = w' := dec_r s (some n) w h
theorem rDec_none (s : ByteArray) (w : World) (h : Hid (decL s.data.toList = none)) :
    Calls Tryz.prog 125 #[.string s] w fun e w' => e = .returned (.tuple #[.int .i64 0, .bool false]) ∧ w = w' := rDec_r s none w h
theorem rDec_some (s : ByteArray) (n : Nat) (w : World) (h : Hid (decL s.data.toList = some n)) :
    Calls Tryz.prog 125 #[.string s] w fun e w' => e = .returned (.tuple #[.int .i64 (n : Nat), .bool true]) ∧ w = w' := rDec_r s (some n) w h

def addrRes : Option Nat → Value
  | some n => .tuple #[.int .u32 (n : Nat), .bool true]
  | none => .tuple #[.int .u32 0, .bool false]
theorem or_low8 (m b : Nat) (h : b < 256) : (m * 256) ||| b = m * 256 + b := by
  have h := Nat.two_pow_add_eq_or_of_lt (i := 8) (b := b) h m
  rw [show (2 : Nat) ^ 8 * m = m * 256 by omega] at h
  exact h.symm

set_option maxRecDepth 100000 in
set_option maxHeartbeats 1000000 in
theorem addr_r (s : ByteArray) (r : Option Nat) (w : World) (hs : s.size ≤ 9223372036854775807) (hr : Hid (addrL s.data.toList = r)) :
    Calls Tryz.prog 115 #[.string s] w fun e w' => e = .returned (addrRes r) ∧ ∃ m, w' = w.drewN m := by
  go_enter Tryz.func115, Tryz.ntmps115
  go_wp2
  go_loopw [0, 4, 11] (fun sv nv iv wr => ∃ (R : ByteArray) (k n : Nat), k ≤ 4 ∧ sv = .string R ∧ nv = .int .u32 (n : Nat) ∧ iv = .int .i64 k ∧ R.size ≤ s.size ∧ Hid (n < 256 ^ k) ∧ Hid (addrGo (4 - k) n R.data.toList = r) ∧ Hid (∃ m, wr = w.drewN m)) (fun _ _ iv _ => 4 - (intOf iv).toNat)
  case atStart => exact ⟨s, 0, 0, by omega, rfl, rfl, rfl, by omega, Lib.hid (by simp), Lib.hid hr.out, Lib.hid ⟨0, rfl⟩⟩
  case round =>
    obtain ⟨R, k, n, hk, rfl, rfl, rfl, hRs, hn, hgo, hw⟩ := hrel
    by_cases hk4 : k < 4
    · obtain ⟨j, hj⟩ : ∃ j, 4 - k = j + 1 := ⟨3 - k, by omega⟩
      have hgo1 := hgo.out
      rw [hj] at hgo1
      have hn4 : n < 16777216 := by
        have h1 := hn.out
        have : 256 ^ k ≤ 256 ^ 3 := Nat.pow_le_pow_right (by omega) (by omega)
        omega
      by_cases hm : 46 ∈ R.data.toList
      · rw [addrGo_yes hm] at hgo1
        obtain ⟨X, Y, hC, -, -⟩ := cutAt_ex hm
        rw [← hC.2.1, ← hC.2.2.1] at hgo1
        have hYs : Y.size ≤ s.size := Nat.le_trans hC.2.2.2.2 hRs
        have hC' := Lib.hid hC; clear hC hm hgo
        cases hd : decL X.data.toList with
        | none =>
          have hd' := Lib.hid hd
          rw [hd] at hgo1
          have hr1 := Lib.hid hgo1; clear hgo1 hd hj
          go_wp2_with (first | (go_at_call 129; refine (stringsCut_at R 46 X Y _ (by omega) hC').mono ?_; rintro e w1 ⟨rfl, m1, rfl⟩) | (go_at_call 114; refine (dec_none X _ hd').mono ?_; rintro e w' ⟨rfl, rfl⟩))
          go_ret2
          exact ⟨by rw [← hr1.out]; rfl, by obtain ⟨m, hm⟩ := hw.out; exact ⟨m + m1, by rw [hm]; simp⟩⟩
        | some b =>
          have hd' := Lib.hid hd
          rw [hd] at hgo1
          simp only at hgo1
          have hb9 := decL_lt hd
          clear hd
          by_cases hb : b ≤ 255
          · by_cases hk3 : k < 3
            · rw [if_pos ⟨hb, by omega⟩] at hgo1
              have hg : Hid (addrGo (4 - (k + 1)) (n * 256 + b) Y.data.toList = r) := Lib.hid (by rw [show 4 - (k + 1) = j by omega]; exact hgo1)
              have hn' : Hid (n * 256 + b < 256 ^ (k + 1)) := Lib.hid (by have := hn.out; rw [Nat.pow_succ]; omega)
              clear hgo1 hj
              have hor := u32_or_nat (n * 256) b (by omega) (by omega)
              rw [or_low8 n b (by omega)] at hor
              have hor2 : bits .or .u32 ((n : Int) * 256) (b : Int) = ((n * 256 + b : Nat) : Int) := by rw [← hor]; push_cast; rfl
              clear hor
              have hor' := Lib.hid hor2; clear hor2
              have hk3' : decide ((k : Int) < 3) = true := by simp; omega
              go_wp2_with (first | (go_at_call 129; refine (stringsCut_at R 46 X Y _ (by omega) hC').mono ?_; rintro e w1 ⟨rfl, m1, rfl⟩) | (go_at_call 114; refine (dec_some X b _ hd').mono ?_; rintro e w' ⟨rfl, rfl⟩))
              all_goals exact ⟨⟨Y, k + 1, n * 256 + b, by omega, rfl, by rw [hor'.out], by go_num, hYs, hn', hg, by obtain ⟨m, hm⟩ := hw.out; exact Lib.hid ⟨m + m1, by rw [hm]; simp⟩⟩, by simp [intOf]; omega⟩
            · rw [if_neg (by omega)] at hgo1
              have hk3' : decide ((k : Int) < 3) = false := by simp; omega
              have hr1 := Lib.hid hgo1; clear hgo1 hj
              go_wp2_with (first | (go_at_call 129; refine (stringsCut_at R 46 X Y _ (by omega) hC').mono ?_; rintro e w1 ⟨rfl, m1, rfl⟩) | (go_at_call 114; refine (dec_some X b _ hd').mono ?_; rintro e w' ⟨rfl, rfl⟩))
              go_ret2
              exact ⟨by rw [← hr1.out]; rfl, by obtain ⟨m, hm⟩ := hw.out; exact ⟨m + m1, by rw [hm]; simp⟩⟩
          · rw [if_neg (by omega)] at hgo1
            have hr1 := Lib.hid hgo1; clear hgo1 hj
            go_wp2_with (first | (go_at_call 129; refine (stringsCut_at R 46 X Y _ (by omega) hC').mono ?_; rintro e w1 ⟨rfl, m1, rfl⟩) | (go_at_call 114; refine (dec_some X b _ hd').mono ?_; rintro e w' ⟨rfl, rfl⟩))
            go_ret2
            exact ⟨by rw [← hr1.out]; rfl, by obtain ⟨m, hm⟩ := hw.out; exact ⟨m + m1, by rw [hm]; simp⟩⟩
      · rw [addrGo_no hm] at hgo1
        have hm' := Lib.hid hm; clear hm hgo
        cases hd : decL R.data.toList with
        | none =>
          have hd' := Lib.hid hd
          rw [hd] at hgo1
          have hr1 := Lib.hid hgo1; clear hgo1 hd hj
          go_wp2_with (first | (go_at_call 129; refine (stringsCut_no R 46 _ hm').mono ?_; rintro e w' ⟨rfl, rfl⟩) | (go_at_call 114; refine (dec_none R _ hd').mono ?_; rintro e w' ⟨rfl, rfl⟩))
          go_ret2
          exact ⟨by rw [← hr1.out]; rfl, hw.out⟩
        | some b =>
          have hd' := Lib.hid hd
          rw [hd] at hgo1
          simp only at hgo1
          have hb9 := decL_lt hd
          clear hd
          by_cases hb : b ≤ 255
          · by_cases hk3 : k < 3
            · rw [if_neg (by omega)] at hgo1
              have hr1 := Lib.hid hgo1; clear hgo1 hj
              go_wp2_with (first | (go_at_call 129; refine (stringsCut_no R 46 _ hm').mono ?_; rintro e w' ⟨rfl, rfl⟩) | (go_at_call 114; refine (dec_some R b _ hd').mono ?_; rintro e w' ⟨rfl, rfl⟩))
              go_ret2
              exact ⟨by rw [← hr1.out]; rfl, hw.out⟩
            · obtain rfl : k = 3 := by omega
              obtain rfl : j = 0 := by omega
              rw [if_pos ⟨hb, rfl⟩] at hgo1
              have hg : Hid (addrGo (4 - (3 + 1)) (n * 256 + b) [] = r) := Lib.hid hgo1
              have hn' : Hid (n * 256 + b < 256 ^ (3 + 1)) := Lib.hid (by have := hn.out; rw [Nat.pow_succ]; omega)
              clear hgo1 hj
              have hor := u32_or_nat (n * 256) b (by omega) (by omega)
              rw [or_low8 n b (by omega)] at hor
              have hor2 : bits .or .u32 ((n : Int) * 256) (b : Int) = ((n * 256 + b : Nat) : Int) := by rw [← hor]; push_cast; rfl
              clear hor
              have hor' := Lib.hid hor2; clear hor2
              go_wp2_with (first | (go_at_call 129; refine (stringsCut_no R 46 _ hm').mono ?_; rintro e w' ⟨rfl, rfl⟩) | (go_at_call 114; refine (dec_some R b _ hd').mono ?_; rintro e w' ⟨rfl, rfl⟩))
              all_goals exact ⟨⟨_, 3 + 1, n * 256 + b, by omega, rfl, by rw [hor'.out], rfl, Nat.zero_le _, hn', hg, hw⟩, by simp [intOf]⟩
          · rw [if_neg (by omega)] at hgo1
            have hr1 := Lib.hid hgo1; clear hgo1 hj
            go_wp2_with (first | (go_at_call 129; refine (stringsCut_no R 46 _ hm').mono ?_; rintro e w' ⟨rfl, rfl⟩) | (go_at_call 114; refine (dec_some R b _ hd').mono ?_; rintro e w' ⟨rfl, rfl⟩))
            go_ret2
            exact ⟨by rw [← hr1.out]; rfl, hw.out⟩
    · obtain rfl : k = 4 := by omega
      have hr1 : Hid (some n = r) := Lib.hid hgo.out
      go_wp2
      go_ret2
      exact ⟨by rw [← hr1.out]; rfl, hw.out⟩
end Go.Proofs.YtdannodhlaaoiaaGreatDoor
/- schema.Net, walked. -/
namespace Go.Proofs.YtdannodhlaaoiaaGreatDoor
open Go.RowKit

theorem addr_none (s : ByteArray) (w : World) (hs : s.size ≤ 9223372036854775807) (h : Hid (addrL s.data.toList = none)) :
    Calls Tryz.prog 115 #[.string s] w fun e w' => e = .returned (.tuple #[.int .u32 0, .bool false]) ∧ ∃ m, w' = w.drewN m := addr_r s none w hs h
theorem addr_some (s : ByteArray) (n : Nat) (w : World) (hs : s.size ≤ 9223372036854775807) (h : Hid (addrL s.data.toList = some n)) :
    Calls Tryz.prog 115 #[.string s] w fun e w' => e = .returned (.tuple #[.int .u32 (n : Nat), .bool true]) ∧ ∃ m, w' = w.drewN m := addr_r s (some n) w hs h
def netRes : Option (Nat × Nat) → Value
  | some (a, n) => .tuple #[.int .u32 (a : Nat), .int .i64 (n : Nat), .bool true]
  | none => .tuple #[.int .u32 0, .int .i64 0, .bool false]
theorem addrL_nil : addrL [] = none := by rw [addrL_eq]; rfl
theorem decL_nil : decL [] = none := by decide

set_option maxRecDepth 100000 in
set_option maxHeartbeats 1000000 in
theorem net_r (s : ByteArray) (r : Option (Nat × Nat)) (w : World) (hs : s.size ≤ 9223372036854775807) (hr : Hid (netL s.data.toList = r)) :
    Calls Tryz.prog 118 #[.string s] w fun e w' => e = .returned (netRes r) ∧ ∃ m, w' = w.drewN m := by
  have hn := hr.out
  unfold netL at hn
  by_cases hm : 47 ∈ s.data.toList
  · rw [if_pos hm] at hn
    obtain ⟨X, Y, hC, -, -⟩ := cutAt_ex hm
    rw [← hC.2.1, ← hC.2.2.1] at hn
    have hXs : X.size ≤ s.size := hC.2.2.2.1
    have hC' := Lib.hid hC; clear hC hm hr
    cases ha : addrL X.data.toList with
    | none =>
      rw [ha] at hn
      have ha' := Lib.hid ha; clear ha
      obtain rfl : r = none := by cases hd : decL Y.data.toList <;> rw [hd] at hn <;> exact hn.symm
      clear hn
      cases hd : decL Y.data.toList with
      | none =>
        have hd' := Lib.hid hd; clear hd
        go_enter Tryz.func118, Tryz.ntmps118
        go_wp2_with (first | (go_at_call 129; refine (stringsCut_at s 47 X Y _ (by omega) hC').mono ?_; rintro e w1 ⟨rfl, m1, rfl⟩) | (go_at_call 115; refine (addr_none X _ (by omega) ha').mono ?_; rintro e w2 ⟨rfl, m2, rfl⟩) | (go_at_call 114; refine (dec_none Y _ hd').mono ?_; rintro e w' ⟨rfl, rfl⟩))
        go_ret3
        exact ⟨rfl, m1 + m2, by simp⟩
      | some n =>
        have hd' := Lib.hid hd; clear hd
        go_enter Tryz.func118, Tryz.ntmps118
        go_wp2_with (first | (go_at_call 129; refine (stringsCut_at s 47 X Y _ (by omega) hC').mono ?_; rintro e w1 ⟨rfl, m1, rfl⟩) | (go_at_call 115; refine (addr_none X _ (by omega) ha').mono ?_; rintro e w2 ⟨rfl, m2, rfl⟩) | (go_at_call 114; refine (dec_some Y n _ hd').mono ?_; rintro e w' ⟨rfl, rfl⟩))
        go_ret3
        exact ⟨rfl, m1 + m2, by simp⟩
    | some a =>
      rw [ha] at hn
      have ha' := Lib.hid ha; clear ha
      cases hd : decL Y.data.toList with
      | none =>
        rw [hd] at hn
        obtain rfl : r = none := hn.symm
        have hd' := Lib.hid hd; clear hd hn
        go_enter Tryz.func118, Tryz.ntmps118
        go_wp2_with (first | (go_at_call 129; refine (stringsCut_at s 47 X Y _ (by omega) hC').mono ?_; rintro e w1 ⟨rfl, m1, rfl⟩) | (go_at_call 115; refine (addr_some X a _ (by omega) ha').mono ?_; rintro e w2 ⟨rfl, m2, rfl⟩) | (go_at_call 114; refine (dec_none Y _ hd').mono ?_; rintro e w' ⟨rfl, rfl⟩))
        go_ret3
        exact ⟨rfl, m1 + m2, by simp⟩
      | some n =>
        rw [hd] at hn
        simp only at hn
        have hd' := Lib.hid hd; clear hd
        by_cases h1 : 1 ≤ n
        · by_cases h2 : n ≤ 32
          · rw [if_pos ⟨h1, h2⟩] at hn
            obtain rfl : r = some (a, n) := hn.symm
            clear hn
            go_enter Tryz.func118, Tryz.ntmps118
            go_wp2_with (first | (go_at_call 129; refine (stringsCut_at s 47 X Y _ (by omega) hC').mono ?_; rintro e w1 ⟨rfl, m1, rfl⟩) | (go_at_call 115; refine (addr_some X a _ (by omega) ha').mono ?_; rintro e w2 ⟨rfl, m2, rfl⟩) | (go_at_call 114; refine (dec_some Y n _ hd').mono ?_; rintro e w' ⟨rfl, rfl⟩))
            go_ret3
            exact ⟨rfl, m1 + m2, by simp⟩
          · rw [if_neg (by omega)] at hn
            obtain rfl : r = none := hn.symm
            clear hn
            go_enter Tryz.func118, Tryz.ntmps118
            go_wp2_with (first | (go_at_call 129; refine (stringsCut_at s 47 X Y _ (by omega) hC').mono ?_; rintro e w1 ⟨rfl, m1, rfl⟩) | (go_at_call 115; refine (addr_some X a _ (by omega) ha').mono ?_; rintro e w2 ⟨rfl, m2, rfl⟩) | (go_at_call 114; refine (dec_some Y n _ hd').mono ?_; rintro e w' ⟨rfl, rfl⟩))
            go_ret3
            exact ⟨rfl, m1 + m2, by simp⟩
        · rw [if_neg (by omega)] at hn
          obtain rfl : r = none := hn.symm
          clear hn
          go_enter Tryz.func118, Tryz.ntmps118
          go_wp2_with (first | (go_at_call 129; refine (stringsCut_at s 47 X Y _ (by omega) hC').mono ?_; rintro e w1 ⟨rfl, m1, rfl⟩) | (go_at_call 115; refine (addr_some X a _ (by omega) ha').mono ?_; rintro e w2 ⟨rfl, m2, rfl⟩) | (go_at_call 114; refine (dec_some Y n _ hd').mono ?_; rintro e w' ⟨rfl, rfl⟩))
          go_ret3
          exact ⟨rfl, m1 + m2, by simp⟩
  · rw [if_neg hm] at hn
    obtain rfl : r = none := hn.symm
    have hm' := Lib.hid hm; clear hm hn hr
    have hd0 := Lib.hid (show decL (ByteArray.mk #[]).data.toList = none from decL_nil)
    cases ha : addrL s.data.toList with
    | none =>
      have ha' := Lib.hid ha; clear ha
      go_enter Tryz.func118, Tryz.ntmps118
      go_wp2_with (first | (go_at_call 129; refine (stringsCut_no s 47 _ hm').mono ?_; rintro e w' ⟨rfl, rfl⟩) | (go_at_call 115; refine (addr_none s _ hs ha').mono ?_; rintro e w2 ⟨rfl, m2, rfl⟩) | (go_at_call 114; refine (dec_none ⟨#[]⟩ _ hd0).mono ?_; rintro e w' ⟨rfl, rfl⟩))
      go_ret3
      exact ⟨rfl, m2, by simp⟩
    | some a =>
      have ha' := Lib.hid ha; clear ha
      go_enter Tryz.func118, Tryz.ntmps118
      go_wp2_with (first | (go_at_call 129; refine (stringsCut_no s 47 _ hm').mono ?_; rintro e w' ⟨rfl, rfl⟩) | (go_at_call 115; refine (addr_some s a _ hs ha').mono ?_; rintro e w2 ⟨rfl, m2, rfl⟩) | (go_at_call 114; refine (dec_none ⟨#[]⟩ _ hd0).mono ?_; rintro e w' ⟨rfl, rfl⟩))
      go_ret3
      exact ⟨rfl, m2, by simp⟩
theorem net_none (s : ByteArray) (w : World) (hs : s.size ≤ 9223372036854775807) (h : Hid (netL s.data.toList = none)) :
    Calls Tryz.prog 118 #[.string s] w fun e w' => e = .returned (.tuple #[.int .u32 0, .int .i64 0, .bool false]) ∧ ∃ m, w' = w.drewN m := net_r s none w hs h
theorem net_some (s : ByteArray) (a n : Nat) (w : World) (hs : s.size ≤ 9223372036854775807) (h : Hid (netL s.data.toList = some (a, n))) :
    Calls Tryz.prog 118 #[.string s] w fun e w' => e = .returned (.tuple #[.int .u32 (a : Nat), .int .i64 (n : Nat), .bool true]) ∧ ∃ m, w' = w.drewN m := net_r s (some (a, n)) w hs h
end Go.Proofs.YtdannodhlaaoiaaGreatDoor
