/- schema.Decimal, and the document's, walked. -/
import Derived.Test.YtialookpnoaogaaGreatAA03
import Derived.Laws.IdiomStrings
set_option linter.unusedVariables false
set_option linter.unusedSimpArgs false
namespace Go.Proofs.YtialookpnoaogaaGreat
open Go.RowKit

def decRes : Option Nat → Value
  | some n => .tuple #[.int .i64 (n : Nat), .bool true]
  | none => .tuple #[.int .i64 0, .bool false]

theorem dec_none_len (s : ByteArray) (w : World) (h : s.size < 1 ∨ 9 < s.size) :
    Calls Tryz.prog 55 #[.string s] w fun e w' => e = .returned (.tuple #[.int .i64 0, .bool false]) ∧ w = w' := by
  by_cases h1 : s.size < 1
  · have h2 : s.size ≤ 9 := by omega
    clear h
    go_enter Tryz.func55, Tryz.ntmps55
    go_wp2
    go_ret2
    exact ⟨rfl, rfl⟩
  · have h2 : 9 < s.size := by omega
    clear h
    go_enter Tryz.func55, Tryz.ntmps55
    go_wp2
    go_ret2
    exact ⟨rfl, rfl⟩
theorem dec_none_nought (s : ByteArray) (w : World) (h1 : 1 < s.size) (h9 : s.size ≤ 9) (h0 : Hid (s[0].toNat = 48)) :
    Calls Tryz.prog 55 #[.string s] w fun e w' => e = .returned (.tuple #[.int .i64 0, .bool false]) ∧ w = w' := by
  have d : ((s[0].toNat : Int) == 48) = true := by rw [h0.out]; rfl
  go_enter Tryz.func55, Tryz.ntmps55
  go_wp2
  go_ret2
  exact ⟨rfl, rfl⟩
set_option maxRecDepth 100000 in
theorem dec_shape (s : ByteArray) (r : Option Nat) (w : World) (h1 : 1 ≤ s.size) (h9 : s.size ≤ 9) (hsh : s.size = 1 ∨ ∃ h : 0 < s.size, s[0].toNat ≠ 48) (hr : Hid (r = if s.data.toList.all digB then some (decVal s.data.toList) else none)) :
    Calls Tryz.prog 55 #[.string s] w fun e w' => e = .returned (decRes r) ∧ w = w' := by
  have hA : s.size ≤ 1 ∨ (1 < s.size ∧ ∃ h : 0 < s.size, ((s[0].toNat : Int) == 48) = false) := by
    by_cases h : s.size ≤ 1
    · exact .inl h
    · refine .inr ⟨by omega, by omega, ?_⟩
      rcases hsh with hs | ⟨h0, hs⟩
      · omega
      · rw [beq_eq_false_iff_ne]; omega
  clear hsh
  rcases hA with hA | ⟨hA, _, hA2⟩
  all_goals
    go_enter Tryz.func55, Tryz.ntmps55
    go_wp2
    go_loop [4, 26] (fun nv iv => ∃ k : Nat, k ≤ s.size ∧ nv = .int .i64 (decVal (s.data.toList.take k) : Nat) ∧ iv = .int .i64 k ∧ Hid ((s.data.toList.take k).all digB = true)) (fun _ iv => s.size - (intOf iv).toNat)
    case atStart => exact ⟨0, by omega, by simp [decVal], rfl, Lib.hid (by simp)⟩
    case round =>
      obtain ⟨k, hk, rfl, rfl, hall⟩ := hrel
      by_cases hlt : k < s.size
      · have hl : k < s.data.toList.length := by simpa using hlt
        have hgk : s.data.toList[k] = s[k] := by rw [Array.getElem_toList]; rfl
        have hts : s.data.toList.take (k + 1) = s.data.toList.take k ++ [s[k]] := by rw [List.take_succ_eq_append_getElem hl, hgk]
        by_cases hd : digB s[k] = true
        · have hm : decVal (s.data.toList.take k) < 1000000000 := by
            have h1 := decVal_lt _ _ rfl hall.out
            have h2 : (s.data.toList.take k).length ≤ 9 := by simp; omega
            have : (10 : Nat) ^ (s.data.toList.take k).length ≤ 10 ^ 9 := Nat.pow_le_pow_right (by omega) h2
            omega
          have hv := decVal_snoc (s.data.toList.take k) s[k]
          rw [← hts] at hv
          have hall' : Hid ((s.data.toList.take (k + 1)).all digB = true) := Lib.hid (by rw [hts, List.all_append, hall.out]; simp [hd])
          have hdd := hd
          unfold digB at hdd
          rw [decide_eq_true_eq] at hdd
          obtain ⟨hd1, hd2⟩ := hdd
          obtain ⟨m, hme⟩ : ∃ m, m = decVal (s.data.toList.take k) := ⟨_, rfl⟩
          rw [← hme] at hm hv ⊢
          have hv' := Lib.hid hv; clear hv hme hts hgk hall hd
          go_wp2
          go_round
          case rel => exact ⟨k + 1, by omega, by rw [hv'.out]; congr 1; omega, by go_num, hall'⟩
          case measure => simp [intOf]; omega
        · have hr' : Hid (r = none) := Lib.hid (by
            rw [hr.out, if_neg]
            intro h
            apply hd
            have := List.all_eq_true.1 h s[k] (by rw [← hgk]; exact List.getElem_mem hl)
            exact this)
          have hdd : s[k].toNat < 48 ∨ (48 ≤ s[k].toNat ∧ 57 < s[k].toNat) := by
            unfold digB at hd
            rw [decide_eq_true_eq] at hd
            omega
          clear hd hts hgk
          rcases hdd with hd1 | ⟨hd1, hd2⟩
          · go_wp2
            go_ret2
            exact ⟨by rw [hr'.out]; rfl, rfl⟩
          · go_wp2
            go_ret2
            exact ⟨by rw [hr'.out]; rfl, rfl⟩
      · obtain rfl : k = s.size := by omega
        have ht : s.data.toList.take s.size = s.data.toList := List.take_of_length_le (by simp)
        have hr' : Hid (r = some (decVal s.data.toList)) := Lib.hid (by
          have := hall.out
          rw [ht] at this
          rw [hr.out, if_pos this])
        rw [ht]
        clear ht hall
        go_wp2
        go_ret2
        exact ⟨by rw [hr'.out]; rfl, rfl⟩
theorem dec_r (s : ByteArray) (r : Option Nat) (w : World) (hr : Hid (decL s.data.toList = r)) :
    Calls Tryz.prog 55 #[.string s] w fun e w' => e = .returned (decRes r) ∧ w = w' := by
  have hr := hr.out
  unfold decL decShape at hr
  have hl : s.data.toList.length = s.size := by simp
  rw [hl] at hr
  by_cases h : 1 ≤ s.size ∧ s.size ≤ 9
  · obtain ⟨h1, h9⟩ := h
    have h00 : 0 < s.size := by omega
    have hh : s.data.toList.head? = some s[0] := by
      have : s.data.toList[0]? = some s[0] := by
        rw [List.getElem?_eq_getElem (by simpa using h00), Array.getElem_toList]; rfl
      rw [List.head?_eq_getElem?, this]
    rw [hh] at hr
    by_cases h0 : 1 < s.size ∧ s[0].toNat = 48
    · have : r = none := by
        rw [← hr, if_neg]
        have : s[0] = 48 := UInt8.toNat_inj.mp h0.2
        simp [h0.1, this]
      subst this
      exact (dec_none_nought s w h0.1 h9 (Lib.hid h0.2)).mono fun e w' h => h
    · refine dec_shape s r w h1 h9 ?_ (Lib.hid ?_)
      · by_cases h1' : s.size = 1
        · exact .inl h1'
        · exact .inr ⟨h00, fun e => h0 ⟨by omega, e⟩⟩
      · rw [← hr]
        have hd : decide (1 ≤ s.size ∧ s.size ≤ 9 ∧ ¬ (1 < s.size ∧ some s[0] = some (48 : UInt8))) = true := by
          rw [decide_eq_true_eq]
          refine ⟨h1, h9, fun ⟨a, b⟩ => h0 ⟨a, ?_⟩⟩
          injection b with b
          rw [b]; rfl
        rw [hd, Bool.true_and]
  · have : r = none := by rw [← hr, if_neg]; simp; omega
    subst this
    exact (dec_none_len s w (by omega)).mono fun e w' h => h

theorem rDec_none_len (s : ByteArray) (w : World) (h : s.size < 1 ∨ 9 < s.size) :
    Calls Tryz.prog 69 #[.string s] w fun e w' => e = .returned (.tuple #[.int .i64 0, .bool false]) ∧ w = w' := by
  by_cases h1 : s.size < 1
  · have h2 : s.size ≤ 9 := by omega
    clear h
    go_enter Tryz.func69, Tryz.ntmps69
    go_wp2
    go_ret2
    exact ⟨rfl, rfl⟩
  · have h2 : 9 < s.size := by omega
    clear h
    go_enter Tryz.func69, Tryz.ntmps69
    go_wp2
    go_ret2
    exact ⟨rfl, rfl⟩
theorem rDec_none_nought (s : ByteArray) (w : World) (h1 : 1 < s.size) (h9 : s.size ≤ 9) (h0 : Hid (s[0].toNat = 48)) :
    Calls Tryz.prog 69 #[.string s] w fun e w' => e = .returned (.tuple #[.int .i64 0, .bool false]) ∧ w = w' := by
  have d : ((s[0].toNat : Int) == 48) = true := by rw [h0.out]; rfl
  go_enter Tryz.func69, Tryz.ntmps69
  go_wp2
  go_ret2
  exact ⟨rfl, rfl⟩
set_option maxRecDepth 100000 in
theorem rDec_shape (s : ByteArray) (r : Option Nat) (w : World) (h1 : 1 ≤ s.size) (h9 : s.size ≤ 9) (hsh : s.size = 1 ∨ ∃ h : 0 < s.size, s[0].toNat ≠ 48) (hr : Hid (r = if s.data.toList.all digB then some (decVal s.data.toList) else none)) :
    Calls Tryz.prog 69 #[.string s] w fun e w' => e = .returned (decRes r) ∧ w = w' := by
  have hA : s.size ≤ 1 ∨ (1 < s.size ∧ ∃ h : 0 < s.size, ((s[0].toNat : Int) == 48) = false) := by
    by_cases h : s.size ≤ 1
    · exact .inl h
    · refine .inr ⟨by omega, by omega, ?_⟩
      rcases hsh with hs | ⟨h0, hs⟩
      · omega
      · rw [beq_eq_false_iff_ne]; omega
  clear hsh
  rcases hA with hA | ⟨hA, _, hA2⟩
  all_goals
    go_enter Tryz.func69, Tryz.ntmps69
    go_wp2
    go_loop [4, 5] (fun nv iv => ∃ k : Nat, k ≤ s.size ∧ nv = .int .i64 (decVal (s.data.toList.take k) : Nat) ∧ iv = .int .i64 k ∧ Hid ((s.data.toList.take k).all digB = true)) (fun _ iv => s.size - (intOf iv).toNat)
    case atStart => exact ⟨0, by omega, by simp [decVal], rfl, Lib.hid (by simp)⟩
    case round =>
      obtain ⟨k, hk, rfl, rfl, hall⟩ := hrel
      by_cases hlt : k < s.size
      · have hl : k < s.data.toList.length := by simpa using hlt
        have hgk : s.data.toList[k] = s[k] := by rw [Array.getElem_toList]; rfl
        have hts : s.data.toList.take (k + 1) = s.data.toList.take k ++ [s[k]] := by rw [List.take_succ_eq_append_getElem hl, hgk]
        by_cases hd : digB s[k] = true
        · have hm : decVal (s.data.toList.take k) < 1000000000 := by
            have h1 := decVal_lt _ _ rfl hall.out
            have h2 : (s.data.toList.take k).length ≤ 9 := by simp; omega
            have : (10 : Nat) ^ (s.data.toList.take k).length ≤ 10 ^ 9 := Nat.pow_le_pow_right (by omega) h2
            omega
          have hv := decVal_snoc (s.data.toList.take k) s[k]
          rw [← hts] at hv
          have hall' : Hid ((s.data.toList.take (k + 1)).all digB = true) := Lib.hid (by rw [hts, List.all_append, hall.out]; simp [hd])
          have hdd := hd
          unfold digB at hdd
          rw [decide_eq_true_eq] at hdd
          obtain ⟨hd1, hd2⟩ := hdd
          obtain ⟨m, hme⟩ : ∃ m, m = decVal (s.data.toList.take k) := ⟨_, rfl⟩
          rw [← hme] at hm hv ⊢
          have hv' := Lib.hid hv; clear hv hme hts hgk hall hd
          go_wp2
          go_round
          case rel => exact ⟨k + 1, by omega, by rw [hv'.out]; congr 1; omega, by go_num, hall'⟩
          case measure => simp [intOf]; omega
        · have hr' : Hid (r = none) := Lib.hid (by
            rw [hr.out, if_neg]
            intro h
            apply hd
            have := List.all_eq_true.1 h s[k] (by rw [← hgk]; exact List.getElem_mem hl)
            exact this)
          have hdd : s[k].toNat < 48 ∨ (48 ≤ s[k].toNat ∧ 57 < s[k].toNat) := by
            unfold digB at hd
            rw [decide_eq_true_eq] at hd
            omega
          clear hd hts hgk
          rcases hdd with hd1 | ⟨hd1, hd2⟩
          · go_wp2
            go_ret2
            exact ⟨by rw [hr'.out]; rfl, rfl⟩
          · go_wp2
            go_ret2
            exact ⟨by rw [hr'.out]; rfl, rfl⟩
      · obtain rfl : k = s.size := by omega
        have ht : s.data.toList.take s.size = s.data.toList := List.take_of_length_le (by simp)
        have hr' : Hid (r = some (decVal s.data.toList)) := Lib.hid (by
          have := hall.out
          rw [ht] at this
          rw [hr.out, if_pos this])
        rw [ht]
        clear ht hall
        go_wp2
        go_ret2
        exact ⟨by rw [hr'.out]; rfl, rfl⟩
theorem rDec_r (s : ByteArray) (r : Option Nat) (w : World) (hr : Hid (decL s.data.toList = r)) :
    Calls Tryz.prog 69 #[.string s] w fun e w' => e = .returned (decRes r) ∧ w = w' := by
  have hr := hr.out
  unfold decL decShape at hr
  have hl : s.data.toList.length = s.size := by simp
  rw [hl] at hr
  by_cases h : 1 ≤ s.size ∧ s.size ≤ 9
  · obtain ⟨h1, h9⟩ := h
    have h00 : 0 < s.size := by omega
    have hh : s.data.toList.head? = some s[0] := by
      have : s.data.toList[0]? = some s[0] := by
        rw [List.getElem?_eq_getElem (by simpa using h00), Array.getElem_toList]; rfl
      rw [List.head?_eq_getElem?, this]
    rw [hh] at hr
    by_cases h0 : 1 < s.size ∧ s[0].toNat = 48
    · have : r = none := by
        rw [← hr, if_neg]
        have : s[0] = 48 := UInt8.toNat_inj.mp h0.2
        simp [h0.1, this]
      subst this
      exact (rDec_none_nought s w h0.1 h9 (Lib.hid h0.2)).mono fun e w' h => h
    · refine rDec_shape s r w h1 h9 ?_ (Lib.hid ?_)
      · by_cases h1' : s.size = 1
        · exact .inl h1'
        · exact .inr ⟨h00, fun e => h0 ⟨by omega, e⟩⟩
      · rw [← hr]
        have hd : decide (1 ≤ s.size ∧ s.size ≤ 9 ∧ ¬ (1 < s.size ∧ some s[0] = some (48 : UInt8))) = true := by
          rw [decide_eq_true_eq]
          refine ⟨h1, h9, fun ⟨a, b⟩ => h0 ⟨a, ?_⟩⟩
          injection b with b
          rw [b]; rfl
        rw [hd, Bool.true_and]
  · have : r = none := by rw [← hr, if_neg]; simp; omega
    subst this
    exact (rDec_none_len s w (by omega)).mono fun e w' h => h
end Go.Proofs.YtialookpnoaogaaGreat
/- schema.Addr, schema.Net, walked. -/
namespace Go.Proofs.YtialookpnoaogaaGreat
open Go.RowKit

theorem dec_none (s : ByteArray) (w : World) (h : Hid (decL s.data.toList = none)) :
    Calls Tryz.prog 55 #[.string s] w fun e w' => e = .returned (.tuple #[.int .i64 0, .bool false]) ∧ w = w' := dec_r s none w h
theorem dec_some (s : ByteArray) (n : Nat) (w : World) (h : Hid (decL s.data.toList = some n)) :
    Calls Tryz.prog 55 #[.string s] w fun e w' => e = .returned (.tuple #[.int .i64 (n : Nat), .bool true]) ∧ w = w' := dec_r s (some n) w h
theorem rDec_none (s : ByteArray) (w : World) (h : Hid (decL s.data.toList = none)) :
    Calls Tryz.prog 69 #[.string s] w fun e w' => e = .returned (.tuple #[.int .i64 0, .bool false]) ∧ w = w' := rDec_r s none w h
theorem rDec_some (s : ByteArray) (n : Nat) (w : World) (h : Hid (decL s.data.toList = some n)) :
    Calls Tryz.prog 69 #[.string s] w fun e w' => e = .returned (.tuple #[.int .i64 (n : Nat), .bool true]) ∧ w = w' := rDec_r s (some n) w h

def addrRes : Option Nat → Value
  | some n => .tuple #[.int .u32 (n : Nat), .bool true]
  | none => .tuple #[.int .u32 0, .bool false]
theorem or_low8 (m b : Nat) (h : b < 256) : (m * 256) ||| b = m * 256 + b := by
  have h := Nat.two_pow_add_eq_or_of_lt (i := 8) (b := b) h m
  rw [show (2 : Nat) ^ 8 * m = m * 256 by omega] at h
  exact h.symm

set_option maxRecDepth 100000 in
set_option maxHeartbeats 1000000 in
theorem addr_r (s : ByteArray) (r : Option Nat) (w : World) (hs : s.size ≤ 9223372036854775807) (hr : Hid (addrL s.data.toList = r)) :
    Calls Tryz.prog 36 #[.string s] w fun e w' => e = .returned (addrRes r) ∧ ∃ m, w' = w.drewN m := by
  go_enter Tryz.func36, Tryz.ntmps36
  go_wp2
  go_loopw [0, 4, 11] (fun sv nv iv wr => ∃ (R : ByteArray) (k n : Nat), k ≤ 4 ∧ sv = .string R ∧ nv = .int .u32 (n : Nat) ∧ iv = .int .i64 k ∧ R.size ≤ s.size ∧ Hid (n < 256 ^ k) ∧ Hid (addrGo (4 - k) n R.data.toList = r) ∧ Hid (∃ m, wr = w.drewN m)) (fun _ _ iv _ => 4 - (intOf iv).toNat)
  case atStart => exact ⟨s, 0, 0, by omega, rfl, rfl, rfl, by omega, Lib.hid (by simp), Lib.hid hr.out, Lib.hid ⟨0, rfl⟩⟩
  case round =>
    obtain ⟨R, k, n, hk, rfl, rfl, rfl, hRs, hn, hgo, hw⟩ := hrel
    by_cases hk4 : k < 4
    · obtain ⟨j, hj⟩ : ∃ j, 4 - k = j + 1 := ⟨3 - k, by omega⟩
      have hgo1 := hgo.out
      rw [hj] at hgo1
      have hn4 : n < 16777216 := by
        have h1 := hn.out
        have : 256 ^ k ≤ 256 ^ 3 := Nat.pow_le_pow_right (by omega) (by omega)
        omega
      by_cases hm : 46 ∈ R.data.toList
      · rw [addrGo_yes hm] at hgo1
        obtain ⟨X, Y, hC, -, -⟩ := cutAt_ex hm
        rw [← hC.2.1, ← hC.2.2.1] at hgo1
        have hYs : Y.size ≤ s.size := Nat.le_trans hC.2.2.2.2 hRs
        have hC' := Lib.hid hC; clear hC hm hgo
        cases hd : decL X.data.toList with
        | none =>
          have hd' := Lib.hid hd
          rw [hd] at hgo1
          have hr1 := Lib.hid hgo1; clear hgo1 hd hj
          go_wp2_with (first | (go_at_call 70; refine (stringsCut_at R 46 X Y _ (by omega) hC').mono ?_; rintro e w1 ⟨rfl, m1, rfl⟩) | (go_at_call 55; refine (dec_none X _ hd').mono ?_; rintro e w' ⟨rfl, rfl⟩))
          go_ret2
          exact ⟨by rw [← hr1.out]; rfl, by obtain ⟨m, hm⟩ := hw.out; exact ⟨m + m1, by rw [hm]; simp⟩⟩
        | some b =>
          have hd' := Lib.hid hd
          rw [hd] at hgo1
          simp only at hgo1
          have hb9 := decL_lt hd
          clear hd
          by_cases hb : b ≤ 255
          · by_cases hk3 : k < 3
            · rw [if_pos ⟨hb, by omega⟩] at hgo1
              have hg : Hid (addrGo (4 - (k + 1)) (n * 256 + b) Y.data.toList = r) := Lib.hid (by rw [show 4 - (k + 1) = j by omega]; exact hgo1)
              have hn' : Hid (n * 256 + b < 256 ^ (k + 1)) := Lib.hid (by have := hn.out; rw [Nat.pow_succ]; omega)
              clear hgo1 hj
              have hor := u32_or_nat (n * 256) b (by omega) (by omega)
              rw [or_low8 n b (by omega)] at hor
              have hor2 : bits .or .u32 ((n : Int) * 256) (b : Int) = ((n * 256 + b : Nat) : Int) := by rw [← hor]; push_cast; rfl
              clear hor
              have hor' := Lib.hid hor2; clear hor2
              have hk3' : decide ((k : Int) < 3) = true := by simp; omega
              go_wp2_with (first | (go_at_call 70; refine (stringsCut_at R 46 X Y _ (by omega) hC').mono ?_; rintro e w1 ⟨rfl, m1, rfl⟩) | (go_at_call 55; refine (dec_some X b _ hd').mono ?_; rintro e w' ⟨rfl, rfl⟩))
              all_goals exact ⟨⟨Y, k + 1, n * 256 + b, by omega, rfl, by rw [hor'.out], by go_num, hYs, hn', hg, by obtain ⟨m, hm⟩ := hw.out; exact Lib.hid ⟨m + m1, by rw [hm]; simp⟩⟩, by simp [intOf]; omega⟩
            · rw [if_neg (by omega)] at hgo1
              have hk3' : decide ((k : Int) < 3) = false := by simp; omega
              have hr1 := Lib.hid hgo1; clear hgo1 hj
              go_wp2_with (first | (go_at_call 70; refine (stringsCut_at R 46 X Y _ (by omega) hC').mono ?_; rintro e w1 ⟨rfl, m1, rfl⟩) | (go_at_call 55; refine (dec_some X b _ hd').mono ?_; rintro e w' ⟨rfl, rfl⟩))
              go_ret2
              exact ⟨by rw [← hr1.out]; rfl, by obtain ⟨m, hm⟩ := hw.out; exact ⟨m + m1, by rw [hm]; simp⟩⟩
          · rw [if_neg (by omega)] at hgo1
            have hr1 := Lib.hid hgo1; clear hgo1 hj
            go_wp2_with (first | (go_at_call 70; refine (stringsCut_at R 46 X Y _ (by omega) hC').mono ?_; rintro e w1 ⟨rfl, m1, rfl⟩) | (go_at_call 55; refine (dec_some X b _ hd').mono ?_; rintro e w' ⟨rfl, rfl⟩))
            go_ret2
            exact ⟨by rw [← hr1.out]; rfl, by obtain ⟨m, hm⟩ := hw.out; exact ⟨m + m1, by rw [hm]; simp⟩⟩
      · rw [addrGo_no hm] at hgo1
        have hm' := Lib.hid hm; clear hm hgo
        cases hd : decL R.data.toList with
        | none =>
          have hd' := Lib.hid hd
          rw [hd] at hgo1
          have hr1 := Lib.hid hgo1; clear hgo1 hd hj
          go_wp2_with (first | (go_at_call 70; refine (stringsCut_no R 46 _ hm').mono ?_; rintro e w' ⟨rfl, rfl⟩) | (go_at_call 55; refine (dec_none R _ hd').mono ?_; rintro e w' ⟨rfl, rfl⟩))
          go_ret2
          exact ⟨by rw [← hr1.out]; rfl, hw.out⟩
        | some b =>
          have hd' := Lib.hid hd
          rw [hd] at hgo1
          simp only at hgo1
          have hb9 := decL_lt hd
          clear hd
          by_cases hb : b ≤ 255
          · by_cases hk3 : k < 3
            · rw [if_neg (by omega)] at hgo1
              have hr1 := Lib.hid hgo1; clear hgo1 hj
              go_wp2_with (first | (go_at_call 70; refine (stringsCut_no R 46 _ hm').mono ?_; rintro e w' ⟨rfl, rfl⟩) | (go_at_call 55; refine (dec_some R b _ hd').mono ?_; rintro e w' ⟨rfl, rfl⟩))
              go_ret2
              exact ⟨by rw [← hr1.out]; rfl, hw.out⟩
            · obtain rfl : k = 3 := by omega
              obtain rfl : j = 0 := by omega
              rw [if_pos ⟨hb, rfl⟩] at hgo1
              have hg : Hid (addrGo (4 - (3 + 1)) (n * 256 + b) [] = r) := Lib.hid hgo1
              have hn' : Hid (n * 256 + b < 256 ^ (3 + 1)) := Lib.hid (by have := hn.out; rw [Nat.pow_succ]; omega)
              clear hgo1 hj
              have hor := u32_or_nat (n * 256) b (by omega) (by omega)
              rw [or_low8 n b (by omega)] at hor
              have hor2 : bits .or .u32 ((n : Int) * 256) (b : Int) = ((n * 256 + b : Nat) : Int) := by rw [← hor]; push_cast; rfl
              clear hor
              have hor' := Lib.hid hor2; clear hor2
              go_wp2_with (first | (go_at_call 70; refine (stringsCut_no R 46 _ hm').mono ?_; rintro e w' ⟨rfl, rfl⟩) | (go_at_call 55; refine (dec_some R b _ hd').mono ?_; rintro e w' ⟨rfl, rfl⟩))
              all_goals exact ⟨⟨_, 3 + 1, n * 256 + b, by omega, rfl, by rw [hor'.out], rfl, Nat.zero_le _, hn', hg, hw⟩, by simp [intOf]⟩
          · rw [if_neg (by omega)] at hgo1
            have hr1 := Lib.hid hgo1; clear hgo1 hj
            go_wp2_with (first | (go_at_call 70; refine (stringsCut_no R 46 _ hm').mono ?_; rintro e w' ⟨rfl, rfl⟩) | (go_at_call 55; refine (dec_some R b _ hd').mono ?_; rintro e w' ⟨rfl, rfl⟩))
            go_ret2
            exact ⟨by rw [← hr1.out]; rfl, hw.out⟩
    · obtain rfl : k = 4 := by omega
      have hr1 : Hid (some n = r) := Lib.hid hgo.out
      go_wp2
      go_ret2
      exact ⟨by rw [← hr1.out]; rfl, hw.out⟩
end Go.Proofs.YtialookpnoaogaaGreat
/- schema.Net, walked. -/
namespace Go.Proofs.YtialookpnoaogaaGreat
open Go.RowKit

theorem addr_none (s : ByteArray) (w : World) (hs : s.size ≤ 9223372036854775807) (h : Hid (addrL s.data.toList = none)) :
    Calls Tryz.prog 36 #[.string s] w fun e w' => e = .returned (.tuple #[.int .u32 0, .bool false]) ∧ ∃ m, w' = w.drewN m := addr_r s none w hs h
theorem addr_some (s : ByteArray) (n : Nat) (w : World) (hs : s.size ≤ 9223372036854775807) (h : Hid (addrL s.data.toList = some n)) :
    Calls Tryz.prog 36 #[.string s] w fun e w' => e = .returned (.tuple #[.int .u32 (n : Nat), .bool true]) ∧ ∃ m, w' = w.drewN m := addr_r s (some n) w hs h
def netRes : Option (Nat × Nat) → Value
  | some (a, n) => .tuple #[.int .u32 (a : Nat), .int .i64 (n : Nat), .bool true]
  | none => .tuple #[.int .u32 0, .int .i64 0, .bool false]
theorem addrL_nil : addrL [] = none := by rw [addrL_eq]; rfl
theorem decL_nil : decL [] = none := by decide

set_option maxRecDepth 100000 in
set_option maxHeartbeats 1000000 in
theorem net_r (s : ByteArray) (r : Option (Nat × Nat)) (w : World) (hs : s.size ≤ 9223372036854775807) (hr : Hid (netL s.data.toList = r)) :
    Calls Tryz.prog 56 #[.string s] w fun e w' => e = .returned (netRes r) ∧ ∃ m, w' = w.drewN m := by
  have hn := hr.out
  unfold netL at hn
  by_cases hm : 47 ∈ s.data.toList
  · rw [if_pos hm] at hn
    obtain ⟨X, Y, hC, -, -⟩ := cutAt_ex hm
    rw [← hC.2.1, ← hC.2.2.1] at hn
    have hXs : X.size ≤ s.size := hC.2.2.2.1
    have hC' := Lib.hid hC; clear hC hm hr
    cases ha : addrL X.data.toList with
    | none =>
      rw [ha] at hn
      have ha' := Lib.hid ha; clear ha
      obtain rfl : r = none := by cases hd : decL Y.data.toList <;> rw [hd] at hn <;> exact hn.symm
      clear hn
      cases hd : decL Y.data.toList with
      | none =>
        have hd' := Lib.hid hd; clear hd
        go_enter Tryz.func56, Tryz.ntmps56
        go_wp2_with (first | (go_at_call 70; refine (stringsCut_at s 47 X Y _ (by omega) hC').mono ?_; rintro e w1 ⟨rfl, m1, rfl⟩) | (go_at_call 36; refine (addr_none X _ (by omega) ha').mono ?_; rintro e w2 ⟨rfl, m2, rfl⟩) | (go_at_call 55; refine (dec_none Y _ hd').mono ?_; rintro e w' ⟨rfl, rfl⟩))
        go_ret3
        exact ⟨rfl, m1 + m2, by simp⟩
      | some n =>
        have hd' := Lib.hid hd; clear hd
        go_enter Tryz.func56, Tryz.ntmps56
        go_wp2_with (first | (go_at_call 70; refine (stringsCut_at s 47 X Y _ (by omega) hC').mono ?_; rintro e w1 ⟨rfl, m1, rfl⟩) | (go_at_call 36; refine (addr_none X _ (by omega) ha').mono ?_; rintro e w2 ⟨rfl, m2, rfl⟩) | (go_at_call 55; refine (dec_some Y n _ hd').mono ?_; rintro e w' ⟨rfl, rfl⟩))
        go_ret3
        exact ⟨rfl, m1 + m2, by simp⟩
    | some a =>
      rw [ha] at hn
      have ha' := Lib.hid ha; clear ha
      cases hd : decL Y.data.toList with
      | none =>
        rw [hd] at hn
        obtain rfl : r = none := hn.symm
        have hd' := Lib.hid hd; clear hd hn
        go_enter Tryz.func56, Tryz.ntmps56
        go_wp2_with (first | (go_at_call 70; refine (stringsCut_at s 47 X Y _ (by omega) hC').mono ?_; rintro e w1 ⟨rfl, m1, rfl⟩) | (go_at_call 36; refine (addr_some X a _ (by omega) ha').mono ?_; rintro e w2 ⟨rfl, m2, rfl⟩) | (go_at_call 55; refine (dec_none Y _ hd').mono ?_; rintro e w' ⟨rfl, rfl⟩))
        go_ret3
        exact ⟨rfl, m1 + m2, by simp⟩
      | some n =>
        rw [hd] at hn
        simp only at hn
        have hd' := Lib.hid hd; clear hd
        by_cases h1 : 1 ≤ n
        · by_cases h2 : n ≤ 32
          · rw [if_pos ⟨h1, h2⟩] at hn
            obtain rfl : r = some (a, n) := hn.symm
            clear hn
            go_enter Tryz.func56, Tryz.ntmps56
            go_wp2_with (first | (go_at_call 70; refine (stringsCut_at s 47 X Y _ (by omega) hC').mono ?_; rintro e w1 ⟨rfl, m1, rfl⟩) | (go_at_call 36; refine (addr_some X a _ (by omega) ha').mono ?_; rintro e w2 ⟨rfl, m2, rfl⟩) | (go_at_call 55; refine (dec_some Y n _ hd').mono ?_; rintro e w' ⟨rfl, rfl⟩))
            go_ret3
            exact ⟨rfl, m1 + m2, by simp⟩
          · rw [if_neg (by omega)] at hn
            obtain rfl : r = none := hn.symm
            clear hn
            go_enter Tryz.func56, Tryz.ntmps56
            go_wp2_with (first | (go_at_call 70; refine (stringsCut_at s 47 X Y _ (by omega) hC').mono ?_; rintro e w1 ⟨rfl, m1, rfl⟩) | (go_at_call 36; refine (addr_some X a _ (by omega) ha').mono ?_; rintro e w2 ⟨rfl, m2, rfl⟩) | (go_at_call 55; refine (dec_some Y n _ hd').mono ?_; rintro e w' ⟨rfl, rfl⟩))
            go_ret3
            exact ⟨rfl, m1 + m2, by simp⟩
        · rw [if_neg (by omega)] at hn
          obtain rfl : r = none := hn.symm
          clear hn
          go_enter Tryz.func56, Tryz.ntmps56
          go_wp2_with (first | (go_at_call 70; refine (stringsCut_at s 47 X Y _ (by omega) hC').mono ?_; rintro e w1 ⟨rfl, m1, rfl⟩) | (go_at_call 36; refine (addr_some X a _ (by omega) ha').mono ?_; rintro e w2 ⟨rfl, m2, rfl⟩) | (go_at_call 55; refine (dec_some Y n _ hd').mono ?_; rintro e w' ⟨rfl, rfl⟩))
          go_ret3
          exact ⟨rfl, m1 + m2, by simp⟩
  · rw [if_neg hm] at hn
    obtain rfl : r = none := hn.symm
    have hm' := Lib.hid hm; clear hm hn hr
    have hd0 := Lib.hid (show decL (ByteArray.mk #[]).data.toList = none from decL_nil)
    cases ha : addrL s.data.toList with
    | none =>
      have ha' := Lib.hid ha; clear ha
      go_enter Tryz.func56, Tryz.ntmps56
      go_wp2_with (first | (go_at_call 70; refine (stringsCut_no s 47 _ hm').mono ?_; rintro e w' ⟨rfl, rfl⟩) | (go_at_call 36; refine (addr_none s _ hs ha').mono ?_; rintro e w2 ⟨rfl, m2, rfl⟩) | (go_at_call 55; refine (dec_none ⟨#[]⟩ _ hd0).mono ?_; rintro e w' ⟨rfl, rfl⟩))
      go_ret3
      exact ⟨rfl, m2, by simp⟩
    | some a =>
      have ha' := Lib.hid ha; clear ha
      go_enter Tryz.func56, Tryz.ntmps56
      go_wp2_with (first | (go_at_call 70; refine (stringsCut_no s 47 _ hm').mono ?_; rintro e w' ⟨rfl, rfl⟩) | (go_at_call 36; refine (addr_some s a _ hs ha').mono ?_; rintro e w2 ⟨rfl, m2, rfl⟩) | (go_at_call 55; refine (dec_none ⟨#[]⟩ _ hd0).mono ?_; rintro e w' ⟨rfl, rfl⟩))
      go_ret3
      exact ⟨rfl, m2, by simp⟩
theorem net_none (s : ByteArray) (w : World) (hs : s.size ≤ 9223372036854775807) (h : Hid (netL s.data.toList = none)) :
    Calls Tryz.prog 56 #[.string s] w fun e w' => e = .returned (.tuple #[.int .u32 0, .int .i64 0, .bool false]) ∧ ∃ m, w' = w.drewN m := net_r s none w hs h
theorem net_some (s : ByteArray) (a n : Nat) (w : World) (hs : s.size ≤ 9223372036854775807) (h : Hid (netL s.data.toList = some (a, n))) :
    Calls Tryz.prog 56 #[.string s] w fun e w' => e = .returned (.tuple #[.int .u32 (a : Nat), .int .i64 (n : Nat), .bool true]) ∧ ∃ m, w' = w.drewN m := net_r s (some (a, n)) w hs h
end Go.Proofs.YtialookpnoaogaaGreat
/- The document's Words, walked. -/
namespace Go.Proofs.YtialookpnoaogaaGreat
open Go.RowKit

theorem row_len : wordRow.length = 66 := by decide +kernel
theorem getD_at (s : ByteArray) (j : Nat) (h : j < s.size) : s.data.toList.getD j 0 = s[j] := by
  have hl : j < s.data.toList.length := by simpa using h
  rw [List.getD_eq_getElem?_getD, List.getElem?_eq_getElem hl, Option.getD_some, Array.getElem_toList]; rfl
theorem nat_beq_no {a b : Nat} (h : a ≠ b) : (a == b) = false := by simpa using h
set_option maxRecDepth 100000 in
theorem rIn_any (c : UInt8) (w : World) :
    Calls Tryz.prog 145 #[.int .u8 (c.toNat : Nat)] w fun e w' => e = .returned (.bool (wordB c)) ∧ w = w' := by
  go_enter Tryz.func145, Tryz.ntmps145
  go_wp2
  generalize hS0 : ByteArray.mk _ = S
  have hrow : Hid (S.data.toList = wordRow) := Lib.hid (by rw [← hS0]; unfold wordRow; decide +kernel)
  have hS1 : Hid (S.size = 66) := Lib.hid (by rw [← hS0]; rfl)
  clear hS0
  go_loop [4] (fun iv => ∃ (j : Nat), j ≤ 66 ∧ iv = .int .i64 j ∧ Hid (∀ m, m < j → wordRow[m]? ≠ some c)) (fun iv => 66 - (intOf iv).toNat)
  case atStart => exact ⟨0, by omega, rfl, Lib.hid (by omega)⟩
  case round =>
    obtain ⟨j, hj, rfl, hno⟩ := hrel
    have hS := hS1.out
    by_cases hlt : j < 66
    · have hjs : j < S.size := by omega
      have hget : wordRow[j]? = some S[j] := by
        rw [← hrow.out, List.getElem?_eq_getElem (by simp; omega), Array.getElem_toList]; rfl
      by_cases he : S[j] = c
      · have h1 : (S[j].toNat == c.toNat) = true := by rw [he]; simp
        have h2 : ((S[j].toNat : Int) == (c.toNat : Int)) = true := by rw [he]; simp
        have hw : Hid (wordB c = true) := by
          refine Lib.hid ?_
          rw [← wordRow_has]
          rw [he] at hget
          simpa using List.mem_of_getElem? hget
        clear hS he hget
        go_wp2
        go_ret
        exact ⟨by rw [hw.out]; rfl, rfl⟩
      · have hne : S[j].toNat ≠ c.toNat := fun h => he (UInt8.toNat_inj.mp h)
        have h1 : (S[j].toNat == c.toNat) = false := by simpa using hne
        have h2 : ((S[j].toNat : Int) == (c.toNat : Int)) = false := by rw [beq_eq_false_iff_ne]; omega
        have hno' : Hid (∀ m, m < j + 1 → wordRow[m]? ≠ some c) := by
          refine Lib.hid fun m hm => ?_
          by_cases e : m = j
          · subst e; rw [hget]; intro h; injection h with h; exact he h
          · exact hno.out m (by omega)
        clear hS he hget hno hne
        go_wp2
        go_round
        case rel => exact ⟨j + 1, by omega, by go_num, hno'⟩
        case measure => simp [intOf]; omega
    · have hw : Hid (wordB c = false) := by
        refine Lib.hid ?_
        rw [← wordRow_has, ← Bool.not_eq_true]
        intro h
        have h : c ∈ wordRow := by simpa using h
        obtain ⟨m, hm⟩ := List.getElem?_of_mem h
        have hm2 := (List.getElem?_eq_some_iff.1 hm).1
        rw [row_len] at hm2
        exact hno.out m (by omega) hm
      have hS' : ¬ j < S.size := by omega
      clear hS hlt
      go_wp2
      go_ret
      exact ⟨by rw [hw.out]; rfl, rfl⟩
theorem rIn_r (c : UInt8) (r : Bool) (w : World) (hr : Hid (wordB c = r)) :
    Calls Tryz.prog 145 #[.int .u8 (c.toNat : Nat)] w fun e w' => e = .returned (.bool r) ∧ w = w' :=
  (rIn_any c w).mono fun e w' ⟨he, hw⟩ => ⟨by rw [he, hr.out], hw⟩

/-- string([]byte{c}), as the walk meets it -/
theorem conv_one (W : World) (c : Int) (x : UInt8) (hx : c = x.toNat) : (convert 215 9 (.slice (some ⟨W.heap.size, 0, none⟩) 1 1)).run Tryz.prog (W.alloc (.cells #[.int .u8 c] 5)) = .ok (.string ⟨#[x]⟩) (W.alloc (.cells #[.int .u8 c] 5)) := by
  have := run_convert_bytes_back (P := Tryz.prog) (W.alloc (.cells #[.int .u8 c] 5)) 215 9 5 ⟨W.heap.size, 0, none⟩ 1 [x] Tryz.underlying215 Tryz.underlying5 Tryz.underlying9 (fun j hj => by
    have hj0 : j = 0 := by simp at hj; exact hj
    subst hj0; subst hx
    rw [Addr.add_mid, cell_of_row _ _ _ _ _ _ (heap_alloc_last W _)]; simp)
  exact this

set_option maxRecDepth 100000 in
set_option maxHeartbeats 2000000 in
theorem rWords_any (s : ByteArray) (w : World) (hs : s.size ≤ 8796093022208) :
    Calls Tryz.prog 132 #[.string s] w (WordsPost s.data.toList w) := by
  obtain ⟨i0, hi, hz0, hz1, hz2⟩ := info_parts strInfoAll
  go_enter Tryz.func132, Tryz.ntmps132
  go_wp2
  go_loopw [5, 6] (fun v i wr => ∃ (k : Nat) (acc : List (List UInt8)), k ≤ s.size ∧ acc.length ≤ k ∧ i = .int .i64 k ∧ Hid (OwnStrs w wr v acc) ∧ Hid (Keeps (fun _ => False) w wr) ∧ Hid (lexL s.data.toList = (lexL (s.data.toList.drop k)).app acc)) (fun _ i _ => s.size - (intOf i).toNat)
  case atStart => exact ⟨0, [], by omega, by simp, rfl, Lib.hid (OwnStrs.nil _ _), Lib.hid (Keeps.refl _ _), Lib.hid (by rw [List.drop_zero, LexR.app_nil])⟩
  case round =>
    obtain ⟨k, acc, hk, hal, rfl, hown, hkeep, hlex⟩ := hrel
    by_cases hlt : k < s.size
    · have hd := drop_at s k hlt
      by_cases hb : blankB s[k] = true
      · have hlex' : Hid (lexL s.data.toList = (lexL (s.data.toList.drop (k + 1))).app acc) := by
          have := hlex.out
          rw [hd, lexL_blank hb] at this
          exact Lib.hid this
        clear hlex hd
        rw [blank_dec, decide_eq_true_eq] at hb
        rcases hb with h | h | h
        · have d1 : ((s[k].toNat : Int) == 32) = true := by rw [h]; rfl
          clear h
          go_wp2
          go_roundw
          case rel => exact ⟨k + 1, acc, by omega, by omega, by go_num, hown, hkeep, hlex'⟩
          case measure => simp [intOf]; omega
        · have d1 : ((s[k].toNat : Int) == 32) = false := by rw [h]; rfl
          have d2 : ((s[k].toNat : Int) == 9) = true := by rw [h]; rfl
          clear h
          go_wp2
          go_roundw
          case rel => exact ⟨k + 1, acc, by omega, by omega, by go_num, hown, hkeep, hlex'⟩
          case measure => simp [intOf]; omega
        · have d1 : ((s[k].toNat : Int) == 32) = false := by rw [h]; rfl
          have d2 : ((s[k].toNat : Int) == 9) = false := by rw [h]; rfl
          have d3 : ((s[k].toNat : Int) == 10) = true := by rw [h]; rfl
          clear h
          go_wp2
          go_roundw
          case rel => exact ⟨k + 1, acc, by omega, by omega, by go_num, hown, hkeep, hlex'⟩
          case measure => simp [intOf]; omega
      have hb' : blankB s[k] = false := by simpa using hb
      have hbn := hb'
      rw [blank_dec, decide_eq_false_iff_not] at hbn
      have d1 : ((s[k].toNat : Int) == 32) = false := by rw [beq_eq_false_iff_ne]; omega
      have d2 : ((s[k].toNat : Int) == 9) = false := by rw [beq_eq_false_iff_ne]; omega
      have d3 : ((s[k].toNat : Int) == 10) = false := by rw [beq_eq_false_iff_ne]; omega
      clear hb hbn
      by_cases hc : s[k] = 35
      · have hcl := clen_le (s.data.toList.drop k)
        simp at hcl
        have hlex' : Hid (lexL s.data.toList = (lexL (s.data.toList.drop (k + clen (s.data.toList.drop k)))).app acc) := by
          have := hlex.out
          rw [hd, lexL_hash' hc] at this
          refine Lib.hid (this.trans ?_)
          have e : k + clen (s.data.toList.drop k) = k + 1 + clen (s.data.toList.drop (k + 1)) := by
            rw [hd, clen_cons (by rw [hc]; decide)]; omega
          rw [e, List.drop_drop]
        have hpos : 0 < clen (s.data.toList.drop k) := by rw [hd, clen_cons (by rw [hc]; decide)]; omega
        have d4 : ((s[k].toNat : Int) == 35) = true := by rw [hc]; rfl
        obtain ⟨r, hr⟩ : ∃ r, k + clen (s.data.toList.drop k) = r := ⟨_, rfl⟩
        rw [hr] at hlex'
        have hr1 : k < r := by omega
        have hr2 : r ≤ s.size := by omega
        have hr' := Lib.hid hr; clear hr hcl hpos hc hlex hd hb'
        obtain ⟨wo, hwo⟩ : ∃ wo : World, wo = wr := ⟨_, rfl⟩
        go_wp2
        go_loop [6] (fun i => ∃ j : Nat, k ≤ j ∧ j ≤ s.size ∧ i = .int .i64 j ∧ Hid (j + clen (s.data.toList.drop j) = r)) (fun i => s.size - (intOf i).toNat)
        case atStart => exact ⟨k, by omega, hk, rfl, hr'⟩
        case round =>
          obtain ⟨j, hj1, hj2, rfl, hrel⟩ := hrel
          by_cases hjlt : j < s.size
          · have hd := drop_at s j hjlt
            by_cases hw : s[j] = 10
            · have hrel' : j = r := by
                have := hrel.out
                rw [hd, hw, clen_cons_no] at this
                omega
              have hN : ((s[j].toNat : Int) != 10) = false := by rw [hw]; rfl
              have hre := Lib.hid hrel'; clear hrel hrel' hd hw
              go_wp2
              go_roundw
              case rel => exact ⟨j, acc, by omega, by omega, rfl, hown, hkeep, by rw [hre.out]; exact hlex'⟩
              case measure => have := hre.out; simp [intOf]; omega
            · have hrel' : Hid (j + 1 + clen (s.data.toList.drop (j + 1)) = r) := by
                have := hrel.out
                rw [hd, clen_cons hw] at this
                exact Lib.hid (by omega)
              clear hrel hd
              have hN : ((s[j].toNat : Int) != 10) = true := by
                rw [bne_iff_ne]; intro h; apply hw; apply UInt8.toNat_inj.mp; show s[j].toNat = 10; omega
              clear hw
              go_wp2
              go_round
              case rel => exact ⟨j + 1, by omega, by omega, by go_num, hrel'⟩
              case measure => simp [intOf]; omega
          · have hrel' : j = r := by
              have := hrel.out
              obtain rfl : j = s.size := by omega
              rw [drop_end] at this
              simpa [clen] using this
            have hre := Lib.hid hrel'; clear hrel hrel'
            go_wp2
            go_roundw
            case rel => exact ⟨j, acc, by omega, by omega, rfl, hown, hkeep, by rw [hre.out]; exact hlex'⟩
            case measure => have := hre.out; simp [intOf]; omega
      have d4 : ((s[k].toNat : Int) == 35) = false := by
        rw [beq_eq_false_iff_ne]; intro h; apply hc; apply UInt8.toNat_inj.mp; show s[k].toNat = 35; omega
      by_cases hsg : signB s[k] = true
      · have hlex' : Hid (lexL s.data.toList = (lexL (s.data.toList.drop (k + 1))).app (acc ++ [[s[k]]])) := by
          have := hlex.out
          rw [hd, lexL_sign hsg, LexR.app_app] at this
          exact Lib.hid this
        clear hlex hc hd hb'
        have hcv := conv_one wr (s[k].toNat : Nat) s[k] rfl
        rw [sign_dec, decide_eq_true_eq] at hsg
        rcases hsg with h | h | h
        · skip
          have d5 : ((s[k].toNat : Int) == 123) = true := by rw [h]; rfl
          clear h
          go_wp2_with ((with_reducible refine at_slot 61 ?_); refine wpList_append_sep rfl (.tmp 56) (.tmp 60) 57 rfl 9 i0 (.string ⟨#[]⟩) 1 16 Tryz.underlying57 hi hz0 hz1 hz2 rfl (by decide) _ acc.length (acc.map strv) rfl ((hown.out.1.alloc _).alloc _) ⟨wr.heap.size + 1, 0, none⟩ 1 1 [.string ⟨#[s[k]]⟩] rfl rfl (cells_one (by simp) _ _) (by simp [Value.oneCell']) (by unfold maxLen; omega) (by omega) ?_; intro q d w1 ho1 hg1 hs1; have ho := Lib.hid ho1; clear ho1; have hg := Lib.hid hg1; clear hg1)
          have hR := OwnStrs.push hown.out [s[k]] ((hkeep.out.alloc _).alloc _) hg.out ho.out hs1.out
          go_roundw
          case rel => exact ⟨k + 1, acc ++ [[s[k]]], by omega, by simp; omega, by go_num, Lib.hid hR.1, Lib.hid hR.2, hlex'⟩
          case measure => simp [intOf]; omega
        · skip
          have d5 : ((s[k].toNat : Int) == 123) = false := by rw [h]; rfl
          have d6 : ((s[k].toNat : Int) == 125) = true := by rw [h]; rfl
          clear h
          go_wp2_with ((with_reducible refine at_slot 61 ?_); refine wpList_append_sep rfl (.tmp 56) (.tmp 60) 57 rfl 9 i0 (.string ⟨#[]⟩) 1 16 Tryz.underlying57 hi hz0 hz1 hz2 rfl (by decide) _ acc.length (acc.map strv) rfl ((hown.out.1.alloc _).alloc _) ⟨wr.heap.size + 1, 0, none⟩ 1 1 [.string ⟨#[s[k]]⟩] rfl rfl (cells_one (by simp) _ _) (by simp [Value.oneCell']) (by unfold maxLen; omega) (by omega) ?_; intro q d w1 ho1 hg1 hs1; have ho := Lib.hid ho1; clear ho1; have hg := Lib.hid hg1; clear hg1)
          have hR := OwnStrs.push hown.out [s[k]] ((hkeep.out.alloc _).alloc _) hg.out ho.out hs1.out
          go_roundw
          case rel => exact ⟨k + 1, acc ++ [[s[k]]], by omega, by simp; omega, by go_num, Lib.hid hR.1, Lib.hid hR.2, hlex'⟩
          case measure => simp [intOf]; omega
        · skip
          have d5 : ((s[k].toNat : Int) == 123) = false := by rw [h]; rfl
          have d6 : ((s[k].toNat : Int) == 125) = false := by rw [h]; rfl
          have d7 : ((s[k].toNat : Int) == 59) = true := by rw [h]; rfl
          clear h
          go_wp2_with ((with_reducible refine at_slot 61 ?_); refine wpList_append_sep rfl (.tmp 56) (.tmp 60) 57 rfl 9 i0 (.string ⟨#[]⟩) 1 16 Tryz.underlying57 hi hz0 hz1 hz2 rfl (by decide) _ acc.length (acc.map strv) rfl ((hown.out.1.alloc _).alloc _) ⟨wr.heap.size + 1, 0, none⟩ 1 1 [.string ⟨#[s[k]]⟩] rfl rfl (cells_one (by simp) _ _) (by simp [Value.oneCell']) (by unfold maxLen; omega) (by omega) ?_; intro q d w1 ho1 hg1 hs1; have ho := Lib.hid ho1; clear ho1; have hg := Lib.hid hg1; clear hg1)
          have hR := OwnStrs.push hown.out [s[k]] ((hkeep.out.alloc _).alloc _) hg.out ho.out hs1.out
          go_roundw
          case rel => exact ⟨k + 1, acc ++ [[s[k]]], by omega, by simp; omega, by go_num, Lib.hid hR.1, Lib.hid hR.2, hlex'⟩
          case measure => simp [intOf]; omega
      have hsg' : signB s[k] = false := by simpa using hsg
      have hsn := hsg'
      rw [sign_dec, decide_eq_false_iff_not] at hsn
      have d5 : ((s[k].toNat : Int) == 123) = false := by rw [beq_eq_false_iff_ne]; omega
      have d6 : ((s[k].toNat : Int) == 125) = false := by rw [beq_eq_false_iff_ne]; omega
      have d7 : ((s[k].toNat : Int) == 59) = false := by rw [beq_eq_false_iff_ne]; omega
      clear hsg hsn
      by_cases hwb : wordB s[k] = true
      · have hwl := wlen_le (s.data.toList.drop k)
        simp at hwl
        have hpos : 1 ≤ wlen (s.data.toList.drop k) := by rw [hd, wlen_cons hwb]; omega
        have hlexd := hlex.out
        obtain ⟨r, hr⟩ : ∃ r, k + wlen (s.data.toList.drop k) = r := ⟨_, rfl⟩
        have hx : Hid (Value.string (s.extract k r) = strv ((s.data.toList.drop k).take (wlen (s.data.toList.drop k)))) := by
          refine Lib.hid ?_
          rw [extract_strv, ← hr, Nat.add_sub_cancel_left]
        have hr1 : k + 1 ≤ r := by omega
        have hr2 : r ≤ s.size := by omega
        have hlex1 : Hid (r - k ≤ 31 → lexL s.data.toList = (lexL (s.data.toList.drop r)).app (acc ++ [(s.data.toList.drop k).take (wlen (s.data.toList.drop k))])) := by
          refine Lib.hid fun h31 => ?_
          rw [hd, lexL_word hb' hc hsg' (by rw [← hd]; exact hpos) (by rw [← hd]; omega), ← hd, List.drop_drop, LexR.app_app] at hlexd
          rw [hlexd, hr]
        have hlex2 : Hid (31 < r - k → lexL s.data.toList = .bad (s.data.toList.length - k)) := by
          refine Lib.hid fun h31 => ?_
          rw [hd, lexL_bad hb' hc hsg' (by rw [← hd]; omega)] at hlexd
          refine hlexd.trans ?_
          unfold LexR.app
          congr 1
          simp; omega
        have hB := Lib.hid hwb
        have hr' := Lib.hid hr; clear hr hwl hc hlex hlexd hd hb' hsg' hwb hpos
        obtain ⟨x, hxe⟩ : ∃ x, x = (s.data.toList.drop k).take (wlen (s.data.toList.drop k)) := ⟨_, rfl⟩
        rw [← hxe] at hlex1 hx
        clear hxe
        go_wp2_with (go_at_call 145; refine (rIn_r _ true _ hB).mono ?_; rintro e w' ⟨rfl, rfl⟩)
        go_loop [8] (fun i => ∃ j : Nat, k ≤ j ∧ j ≤ s.size ∧ i = .int .i64 j ∧ Hid (j + wlen (s.data.toList.drop j) = r)) (fun i => s.size - (intOf i).toNat)
        case atStart => exact ⟨k, by omega, hk, rfl, hr'⟩
        case round =>
          obtain ⟨j, hj1, hj2, rfl, hrel⟩ := hrel
          by_cases hjlt : j < s.size ∧ wordB (s.data.toList.getD j 0) = true
          · obtain ⟨hjs, hw⟩ := hjlt
            have hd := drop_at s j hjs
            have hg : s.data.toList.getD j 0 = s[j] := getD_at s j hjs
            rw [hg] at hw
            have hrel' : Hid (j + 1 + wlen (s.data.toList.drop (j + 1)) = r) := by
              have := hrel.out
              rw [hd, wlen_cons hw] at this
              exact Lib.hid (by omega)
            have hW := Lib.hid hw
            clear hrel hd hg hw
            go_wp2_with (go_at_call 145; refine (rIn_r _ true _ hW).mono ?_; rintro e w' ⟨rfl, rfl⟩)
            go_round
            case rel => exact ⟨j + 1, by omega, by omega, by go_num, hrel'⟩
            case measure => simp [intOf]; omega
          · have hre : Hid (j = r) := by
              have := hrel.out
              by_cases hjs : j < s.size
              · have hd := drop_at s j hjs
                have hg : s.data.toList.getD j 0 = s[j] := getD_at s j hjs
                rw [hd, wlen_cons_no (by rw [← hg]; simpa [hjs] using hjlt)] at this
                exact Lib.hid (by omega)
              · obtain rfl : j = s.size := by omega
                rw [drop_end] at this
                exact Lib.hid (by simpa [wlen] using this)
            have hW : j < s.size → Hid (∃ h : j < s.size, wordB s[j] = false) := fun hjs => Lib.hid ⟨hjs, by
              have hg : s.data.toList.getD j 0 = s[j] := getD_at s j hjs
              rw [← hg]; simpa [hjs] using hjlt⟩
            have hjr : j = r := hre.out
            subst hjr
            clear hre hrel hjlt
            by_cases hjs : j < s.size
            · have hW1 : Hid (wordB s[j] = false) := Lib.hid (hW hjs).out.2
              have hW' := Lib.hid hW; clear hW
              by_cases h31 : j - k ≤ 31
              · have hlex' := Lib.hid (hlex1.out h31)
                have h31' : (j : Int) - k ≤ 31 := by omega
                go_wp2_with (first | (go_at_call 145; refine (rIn_r _ false _ hW1).mono ?_; rintro e w' ⟨rfl, rfl⟩) | ((with_reducible refine at_slot 91 ?_); refine wpList_append_sep rfl (.tmp 85) (.tmp 90) 57 rfl 9 i0 (.string ⟨#[]⟩) 1 16 Tryz.underlying57 hi hz0 hz1 hz2 rfl (by decide) _ acc.length (acc.map strv) rfl (hown.out.1.alloc _) ⟨wr.heap.size, 0, none⟩ 1 1 [.string (s.extract k j)] rfl rfl (cells_one rfl _ _) (by simp [Value.oneCell']) (by unfold maxLen; omega) (by omega) ?_; intro q d w1 ho1 hg1 hs1; have ho := Lib.hid ho1; clear ho1; have hg := Lib.hid hg1; clear hg1))
                have hR := OwnStrs.push hown.out x (hkeep.out.alloc _) hg.out (hx.out ▸ ho.out) hs1.out
                go_roundw
                case rel => exact ⟨j, acc ++ [x], by omega, by simp; omega, rfl, Lib.hid hR.1, Lib.hid hR.2, hlex'⟩
                case measure => simp [intOf]; omega
              · have hbad := Lib.hid (hlex2.out (by omega))
                have h31' : 31 < (j : Int) - k := by omega
                go_wp2_with (go_at_call 145; refine (rIn_r _ false _ hW1).mono ?_; rintro e w' ⟨rfl, rfl⟩)
                go_ret3
                exact WordsPost.bad hbad.out (by simp; omega) hkeep.out
            · have hW' := Lib.hid hW; clear hW
              by_cases h31 : j - k ≤ 31
              · have hlex' := Lib.hid (hlex1.out h31)
                have h31' : (j : Int) - k ≤ 31 := by omega
                go_wp2_with ((with_reducible refine at_slot 91 ?_); refine wpList_append_sep rfl (.tmp 85) (.tmp 90) 57 rfl 9 i0 (.string ⟨#[]⟩) 1 16 Tryz.underlying57 hi hz0 hz1 hz2 rfl (by decide) _ acc.length (acc.map strv) rfl (hown.out.1.alloc _) ⟨wr.heap.size, 0, none⟩ 1 1 [.string (s.extract k j)] rfl rfl (cells_one rfl _ _) (by simp [Value.oneCell']) (by unfold maxLen; omega) (by omega) ?_; intro q d w1 ho1 hg1 hs1; have ho := Lib.hid ho1; clear ho1; have hg := Lib.hid hg1; clear hg1)
                have hR := OwnStrs.push hown.out x (hkeep.out.alloc _) hg.out (hx.out ▸ ho.out) hs1.out
                go_roundw
                case rel => exact ⟨j, acc ++ [x], by omega, by simp; omega, rfl, Lib.hid hR.1, Lib.hid hR.2, hlex'⟩
                case measure => simp [intOf]; omega
              · have hbad := Lib.hid (hlex2.out (by omega))
                have h31' : 31 < (j : Int) - k := by omega
                go_wp2
                go_ret3
                exact WordsPost.bad hbad.out (by simp; omega) hkeep.out
      · have hbad : Hid (lexL s.data.toList = .bad (s.data.toList.length - k)) := by
          have := hlex.out
          rw [hd, lexL_bad hb' hc hsg' (by rw [wlen_cons_no (by simpa using hwb)]; omega)] at this
          refine Lib.hid (this.trans ?_)
          unfold LexR.app
          congr 1
          simp; omega
        have hB := Lib.hid (show wordB s[k] = false by simpa using hwb)
        clear hc hlex hd hb' hsg' hwb
        go_wp2_with (go_at_call 145; refine (rIn_r _ false _ hB).mono ?_; rintro e w' ⟨rfl, rfl⟩)
        go_ret3
        exact WordsPost.bad hbad.out (by simp; omega) hkeep.out
    · have hlex' : Hid (lexL s.data.toList = .ok acc) := by
        have := hlex.out
        obtain rfl : k = s.size := by omega
        rw [drop_end, lexL_nil] at this
        exact Lib.hid (by rw [this]; simp [LexR.app])
      clear hlex
      go_wp2
      go_ret3
      exact WordsPost.good hlex'.out (by simp) hown.out hkeep.out
end Go.Proofs.YtialookpnoaogaaGreat
/- Rows of texts; IsWord. -/
namespace Go.Proofs.YtialookpnoaogaaGreat
open Go.RowKit

def StrsAt (w : World) (v : Value) (xs : List (List UInt8)) : Prop := ∃ p c, v = .slice p xs.length c ∧ (0 < xs.length → ∃ g o, p = some ⟨g, o, none⟩ ∧ w.rangeAt g o (xs.map strv))
theorem OwnStrs.at {w0 w : World} {v : Value} {xs : List (List UInt8)} (h : OwnStrs w0 w v xs) : StrsAt w v xs := by
  obtain ⟨p, c, rfl⟩ := h.slice
  refine ⟨p, c, rfl, fun h0 => ?_⟩
  rcases h.1.2 with ⟨_, h2⟩ | ⟨g, cap, cur, he, _⟩
  · first | omega | (simp at h2; subst h2; simp at h0)
  · injection he with e1 e2 e3
    subst e1
    refine ⟨g, 0, rfl, fun j u hu => ?_⟩
    have := h.1.cells (g := g) rfl j u hu
    rw [Addr.add_mid] at this
    exact this
theorem StrsAt.keep {F : Nat → Prop} {w w' : World} {v : Value} {xs : List (List UInt8)} (h : StrsAt w v xs) (k : Keeps F w w') (hF : 0 < xs.length → ∀ i, v.ownBlock = some i → ¬ F i) : StrsAt w' v xs := by
  obtain ⟨p, c, rfl, h⟩ := h
  refine ⟨p, c, rfl, fun h0 => ?_⟩
  obtain ⟨g, o, rfl, hr⟩ := h h0
  exact ⟨g, o, rfl, k.rangeAt hr (hF h0 g rfl)⟩

theorem ba_toList (x : List UInt8) : (⟨x.toArray⟩ : ByteArray).toList = x := by simp

set_option maxRecDepth 100000 in
theorem isWord_any (s : ByteArray) (r : Bool) (w : World) (hs : s.size ≤ 9223372036854775807) (hr : Hid (isWordB s.data.toList = r)) :
    Calls Tryz.prog 134 #[.string s] w fun e w' => e = .returned (.bool r) ∧ w = w' := by
  have hiff := isWord_iff (s := s.data.toList)
  rw [hr.out] at hiff
  have hl : s.data.toList.length = s.size := by simp
  rw [hl] at hiff
  by_cases h1 : 1 ≤ s.size ∧ s.size ≤ 31
  · have hf : Hid (decide ((1 : Int) ≤ (s.size : Int) ∧ (s.size : Int) ≤ 31) = true) := Lib.hid (by simp; omega)
    obtain ⟨m, hm⟩ : ∃ m, 0 + wlen (s.data.toList.drop 0) = m := ⟨_, rfl⟩
    have hm2 : wlen s.data.toList = m := by simpa using hm
    rw [hm2] at hiff
    by_cases h2 : m = s.size
    · obtain rfl : r = true := by rw [hiff]; simp [h1, h2]
      have h3 : ((m : Int) == (s.size : Int)) = true := by rw [h2]; simp
      have h4 : (m == s.size) = true := by simp [h2]
      have hm' := Lib.hid hm; clear hm hm2 hiff hl h1 h2
      go_enter Tryz.func134, Tryz.ntmps134
      go_wp2_with (first | (go_at_call 146; refine (fits_r _ true _ (by omega) hf).mono ?_; rintro e w' ⟨rfl, rfl⟩) | (go_at_call 147; refine (wordEnd_any s 0 m _ hm' hs (by omega)).mono ?_; rintro e w' ⟨rfl, rfl⟩))
      go_ret
      exact ⟨rfl, rfl⟩
    · obtain rfl : r = false := by rw [hiff]; simp [h2]
      have h3 : ((m : Int) == (s.size : Int)) = false := by rw [beq_eq_false_iff_ne]; omega
      have h4 : (m == s.size) = false := by simpa using h2
      have hm' := Lib.hid hm; clear hm hm2 hiff hl h1 h2
      go_enter Tryz.func134, Tryz.ntmps134
      go_wp2_with (first | (go_at_call 146; refine (fits_r _ true _ (by omega) hf).mono ?_; rintro e w' ⟨rfl, rfl⟩) | (go_at_call 147; refine (wordEnd_any s 0 m _ hm' hs (by omega)).mono ?_; rintro e w' ⟨rfl, rfl⟩))
      go_ret
      exact ⟨rfl, rfl⟩
  · have hf : Hid (decide ((1 : Int) ≤ (s.size : Int) ∧ (s.size : Int) ≤ 31) = false) := Lib.hid (by simp; omega)
    obtain rfl : r = false := by rw [hiff, decide_eq_false_iff_not]; rintro ⟨a, b, _⟩; exact h1 ⟨a, b⟩
    clear hiff hl h1
    go_enter Tryz.func134, Tryz.ntmps134
    go_wp2_with (go_at_call 146; refine (fits_r _ false _ (by omega) hf).mono ?_; rintro e w' ⟨rfl, rfl⟩)
    go_ret
    exact ⟨rfl, rfl⟩

theorem strs_lit (w w1 : World) (xs : List (List UInt8)) (n : Nat) (hn : n = xs.length) (hc : ∀ j u, (xs.map strv)[j]? = some u → w.cell? ⟨w1.heap.size, j, none⟩ = some u) : StrsAt w (.slice (some ⟨w1.heap.size, 0, none⟩) n n) xs := by
  subst hn
  exact ⟨_, _, rfl, fun _ => ⟨_, _, rfl, fun j u hu => by rw [Nat.zero_add]; exact hc j u hu⟩⟩
theorem OwnStrs.after {w0 w w' : World} {v : Value} {xs : List (List UInt8)} (h : OwnStrs w0 w v xs) {F : Nat → Prop} (k : Keeps F w w') (hF : ∀ i, F i → i < w0.heap.size) : StrsAt w' v xs :=
  h.at.keep k (fun _ i e f => by have := h.2 i e; have := hF i f; omega)

end Go.Proofs.YtialookpnoaogaaGreat
