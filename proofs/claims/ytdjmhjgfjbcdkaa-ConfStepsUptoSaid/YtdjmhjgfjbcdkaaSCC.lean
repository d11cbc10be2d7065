/- schema.Decimal, and the document's, walked. -/
import Derived.Test.YtdjmhjgfjbcdkaaSCB
namespace Go.Proofs.Ytdjmhjgfjbcdkaa
open Go.RowKit

def decRes : Option Nat → Value
  | some n => .tuple #[.int .i64 (n : Nat), .bool true]
  | none => .tuple #[.int .i64 0, .bool false]

theorem dec_none_len (s : ByteArray) (w : World) (h : s.size < 1 ∨ 9 < s.size) :
    Calls Try.prog 62 #[.string s] w fun e w' => e = .returned (.tuple #[.int .i64 0, .bool false]) ∧ w = w' := by
  by_cases h1 : s.size < 1
  · have h2 : s.size ≤ 9 := by omega
    clear h
    go_enter Try.func62, Try.ntmps62
    go_wp2
    go_ret2
    exact ⟨rfl, rfl⟩
  · have h2 : 9 < s.size := by omega
    clear h
    go_enter Try.func62, Try.ntmps62
    go_wp2
    go_ret2
    exact ⟨rfl, rfl⟩
theorem dec_none_nought (s : ByteArray) (w : World) (h1 : 1 < s.size) (h9 : s.size ≤ 9) (h0 : Hid (s[0].toNat = 48)) :
    Calls Try.prog 62 #[.string s] w fun e w' => e = .returned (.tuple #[.int .i64 0, .bool false]) ∧ w = w' := by
  have d : ((s[0].toNat : Int) == 48) = true := by rw [h0.out]; rfl
  go_enter Try.func62, Try.ntmps62
  go_wp2
  go_ret2
  exact ⟨rfl, rfl⟩
set_option maxRecDepth 100000 in
theorem dec_shape (s : ByteArray) (r : Option Nat) (w : World) (h1 : 1 ≤ s.size) (h9 : s.size ≤ 9) (hsh : s.size = 1 ∨ ∃ h : 0 < s.size, s[0].toNat ≠ 48) (hr : Hid (r = if s.data.toList.all digB then some (decVal s.data.toList) else none)) :
    Calls Try.prog 62 #[.string s] w fun e w' => e = .returned (decRes r) ∧ w = w' := by
  have hA : s.size ≤ 1 ∨ (1 < s.size ∧ ∃ h : 0 < s.size, ((s[0].toNat : Int) == 48) = false) := by
    by_cases h : s.size ≤ 1
    · exact .inl h
    · refine .inr ⟨by omega, by omega, ?_⟩
      rcases hsh with hs | ⟨h0, hs⟩
      · omega
      · rw [beq_eq_false_iff_ne]; omega
  clear hsh
  rcases hA with hA | ⟨hA, _, hA2⟩
  all_goals
    go_enter Try.func62, Try.ntmps62
    go_wp2
    go_loop [4, 26] (fun nv iv => ∃ k : Nat, k ≤ s.size ∧ nv = .int .i64 (decVal (s.data.toList.take k) : Nat) ∧ iv = .int .i64 k ∧ Hid ((s.data.toList.take k).all digB = true)) (fun _ iv => s.size - (intOf iv).toNat)
    case atStart => exact ⟨0, by omega, by simp [decVal], rfl, Lib.hid (by simp)⟩
    case round =>
      obtain ⟨k, hk, rfl, rfl, hall⟩ := hrel
      by_cases hlt : k < s.size
      · have hl : k < s.data.toList.length := by simpa using hlt
        have hgk : s.data.toList[k] = s[k] := by rw [Array.getElem_toList]; rfl
        have hts : s.data.toList.take (k + 1) = s.data.toList.take k ++ [s[k]] := by rw [List.take_succ_eq_append_getElem hl, hgk]
        by_cases hd : digB s[k] = true
        · have hm : decVal (s.data.toList.take k) < 1000000000 := by
            have h1 := decVal_lt _ _ rfl hall.out
            have h2 : (s.data.toList.take k).length ≤ 9 := by simp; omega
            have : (10 : Nat) ^ (s.data.toList.take k).length ≤ 10 ^ 9 := Nat.pow_le_pow_right (by omega) h2
            omega
          have hv := decVal_snoc (s.data.toList.take k) s[k]
          rw [← hts] at hv
          have hall' : Hid ((s.data.toList.take (k + 1)).all digB = true) := Lib.hid (by rw [hts, List.all_append, hall.out]; simp [hd])
          have hdd := hd
          unfold digB at hdd
          rw [decide_eq_true_eq] at hdd
          obtain ⟨hd1, hd2⟩ := hdd
          obtain ⟨m, hme⟩ : ∃ m, m = decVal (s.data.toList.take k) := ⟨_, rfl⟩
          rw [← hme] at hm hv ⊢
          have hv' := Lib.hid hv; clear hv hme hts hgk hall hd
          go_wp2
          go_round
          case rel => exact ⟨k + 1, by omega, by rw [hv'.out]; congr 1; omega, by go_num, hall'⟩
          case measure => simp [intOf]; omega
        · have hr' : Hid (r = none) := Lib.hid (by
            rw [hr.out, if_neg]
            intro h
            apply hd
            have := List.all_eq_true.1 h s[k] (by rw [← hgk]; exact List.getElem_mem hl)
            exact this)
          have hdd : s[k].toNat < 48 ∨ (48 ≤ s[k].toNat ∧ 57 < s[k].toNat) := by
            unfold digB at hd
            rw [decide_eq_true_eq] at hd
            omega
          clear hd hts hgk
          rcases hdd with hd1 | ⟨hd1, hd2⟩
          · go_wp2
            go_ret2
            exact ⟨by rw [hr'.out]; rfl, rfl⟩
          · go_wp2
            go_ret2
            exact ⟨by rw [hr'.out]; rfl, rfl⟩
      · obtain rfl : k = s.size := by omega
        have ht : s.data.toList.take s.size = s.data.toList := List.take_of_length_le (by simp)
        have hr' : Hid (r = some (decVal s.data.toList)) := Lib.hid (by
          have := hall.out
          rw [ht] at this
          rw [hr.out, if_pos this])
        rw [ht]
        clear ht hall
        go_wp2
        go_ret2
        exact ⟨by rw [hr'.out]; rfl, rfl⟩
theorem dec_r (s : ByteArray) (r : Option Nat) (w : World) (hr : Hid (decL s.data.toList = r)) :
    Calls Try.prog 62 #[.string s] w fun e w' => e = .returned (decRes r) ∧ w = w' := by
  have hr := hr.out
  unfold decL decShape at hr
  have hl : s.data.toList.length = s.size := by simp
  rw [hl] at hr
  by_cases h : 1 ≤ s.size ∧ s.size ≤ 9
  · obtain ⟨h1, h9⟩ := h
    have h00 : 0 < s.size := by omega
    have hh : s.data.toList.head? = some s[0] := by
      have : s.data.toList[0]? = some s[0] := by
        rw [List.getElem?_eq_getElem (by simpa using h00), Array.getElem_toList]; rfl
      rw [List.head?_eq_getElem?, this]
    rw [hh] at hr
    by_cases h0 : 1 < s.size ∧ s[0].toNat = 48
    · have : r = none := by
        rw [← hr, if_neg]
        have : s[0] = 48 := UInt8.toNat_inj.mp h0.2
        simp [h0.1, this]
      subst this
      exact (dec_none_nought s w h0.1 h9 (Lib.hid h0.2)).mono fun e w' h => h
    · refine dec_shape s r w h1 h9 ?_ (Lib.hid ?_)
      · by_cases h1' : s.size = 1
        · exact .inl h1'
        · exact .inr ⟨h00, fun e => h0 ⟨by omega, e⟩⟩
      · rw [← hr]
        have hd : decide (1 ≤ s.size ∧ s.size ≤ 9 ∧ ¬ (1 < s.size ∧ some s[0] = some (48 : UInt8))) = true := by
          rw [decide_eq_true_eq]
          refine ⟨h1, h9, fun ⟨a, b⟩ => h0 ⟨a, ?_⟩⟩
          injection b with b
          rw [b]; rfl
        rw [hd, Bool.true_and]
  · have : r = none := by rw [← hr, if_neg]; simp; omega
    subst this
    exact (dec_none_len s w (by omega)).mono fun e w' h => h

theorem rDec_none_len (s : ByteArray) (w : World) (h : s.size < 1 ∨ 9 < s.size) :
    Calls Try.prog 57 #[.string s] w fun e w' => e = .returned (.tuple #[.int .i64 0, .bool false]) ∧ w = w' := by
  by_cases h1 : s.size < 1
  · have h2 : s.size ≤ 9 := by omega
    clear h
    go_enter Try.func57, Try.ntmps57
    go_wp2
    go_ret2
    exact ⟨rfl, rfl⟩
  · have h2 : 9 < s.size := by omega
    clear h
    go_enter Try.func57, Try.ntmps57
    go_wp2
    go_ret2
    exact ⟨rfl, rfl⟩
theorem rDec_none_nought (s : ByteArray) (w : World) (h1 : 1 < s.size) (h9 : s.size ≤ 9) (h0 : Hid (s[0].toNat = 48)) :
    Calls Try.prog 57 #[.string s] w fun e w' => e = .returned (.tuple #[.int .i64 0, .bool false]) ∧ w = w' := by
  have d : ((s[0].toNat : Int) == 48) = true := by rw [h0.out]; rfl
  go_enter Try.func57, Try.ntmps57
  go_wp2
  go_ret2
  exact ⟨rfl, rfl⟩
set_option maxRecDepth 100000 in
theorem rDec_shape (s : ByteArray) (r : Option Nat) (w : World) (h1 : 1 ≤ s.size) (h9 : s.size ≤ 9) (hsh : s.size = 1 ∨ ∃ h : 0 < s.size, s[0].toNat ≠ 48) (hr : Hid (r = if s.data.toList.all digB then some (decVal s.data.toList) else none)) :
    Calls Try.prog 57 #[.string s] w fun e w' => e = .returned (decRes r) ∧ w = w' := by
  have hA : s.size ≤ 1 ∨ (1 < s.size ∧ ∃ h : 0 < s.size, ((s[0].toNat : Int) == 48) = false) := by
    by_cases h : s.size ≤ 1
    · exact .inl h
    · refine .inr ⟨by omega, by omega, ?_⟩
      rcases hsh with hs | ⟨h0, hs⟩
      · omega
      · rw [beq_eq_false_iff_ne]; omega
  clear hsh
  rcases hA with hA | ⟨hA, _, hA2⟩
  all_goals
    go_enter Try.func57, Try.ntmps57
    go_wp2
    go_loop [4, 5] (fun nv iv => ∃ k : Nat, k ≤ s.size ∧ nv = .int .i64 (decVal (s.data.toList.take k) : Nat) ∧ iv = .int .i64 k ∧ Hid ((s.data.toList.take k).all digB = true)) (fun _ iv => s.size - (intOf iv).toNat)
    case atStart => exact ⟨0, by omega, by simp [decVal], rfl, Lib.hid (by simp)⟩
    case round =>
      obtain ⟨k, hk, rfl, rfl, hall⟩ := hrel
      by_cases hlt : k < s.size
      · have hl : k < s.data.toList.length := by simpa using hlt
        have hgk : s.data.toList[k] = s[k] := by rw [Array.getElem_toList]; rfl
        have hts : s.data.toList.take (k + 1) = s.data.toList.take k ++ [s[k]] := by rw [List.take_succ_eq_append_getElem hl, hgk]
        by_cases hd : digB s[k] = true
        · have hm : decVal (s.data.toList.take k) < 1000000000 := by
            have h1 := decVal_lt _ _ rfl hall.out
            have h2 : (s.data.toList.take k).length ≤ 9 := by simp; omega
            have : (10 : Nat) ^ (s.data.toList.take k).length ≤ 10 ^ 9 := Nat.pow_le_pow_right (by omega) h2
            omega
          have hv := decVal_snoc (s.data.toList.take k) s[k]
          rw [← hts] at hv
          have hall' : Hid ((s.data.toList.take (k + 1)).all digB = true) := Lib.hid (by rw [hts, List.all_append, hall.out]; simp [hd])
          have hdd := hd
          unfold digB at hdd
          rw [decide_eq_true_eq] at hdd
          obtain ⟨hd1, hd2⟩ := hdd
          obtain ⟨m, hme⟩ : ∃ m, m = decVal (s.data.toList.take k) := ⟨_, rfl⟩
          rw [← hme] at hm hv ⊢
          have hv' := Lib.hid hv; clear hv hme hts hgk hall hd
          go_wp2
          go_round
          case rel => exact ⟨k + 1, by omega, by rw [hv'.out]; congr 1; omega, by go_num, hall'⟩
          case measure => simp [intOf]; omega
        · have hr' : Hid (r = none) := Lib.hid (by
            rw [hr.out, if_neg]
            intro h
            apply hd
            have := List.all_eq_true.1 h s[k] (by rw [← hgk]; exact List.getElem_mem hl)
            exact this)
          have hdd : s[k].toNat < 48 ∨ (48 ≤ s[k].toNat ∧ 57 < s[k].toNat) := by
            unfold digB at hd
            rw [decide_eq_true_eq] at hd
            omega
          clear hd hts hgk
          rcases hdd with hd1 | ⟨hd1, hd2⟩
          · go_wp2
            go_ret2
            exact ⟨by rw [hr'.out]; rfl, rfl⟩
          · go_wp2
            go_ret2
            exact ⟨by rw [hr'.out]; rfl, rfl⟩
      · obtain rfl : k = s.size := by omega
        have ht : s.data.toList.take s.size = s.data.toList := List.take_of_length_le (by simp)
        have hr' : Hid (r = some (decVal s.data.toList)) := Lib.hid (by
          have := hall.out
          rw [ht] at this
          rw [hr.out, if_pos this])
        rw [ht]
        clear ht hall
        go_wp2
        go_ret2
        exact ⟨by rw [hr'.out]; rfl, rfl⟩
theorem rDec_r (s : ByteArray) (r : Option Nat) (w : World) (hr : Hid (decL s.data.toList = r)) :
    Calls Try.prog 57 #[.string s] w fun e w' => e = .returned (decRes r) ∧ w = w' := by
  have hr := hr.out
  unfold decL decShape at hr
  have hl : s.data.toList.length = s.size := by simp
  rw [hl] at hr
  by_cases h : 1 ≤ s.size ∧ s.size ≤ 9
  · obtain ⟨h1, h9⟩ := h
    have h00 : 0 < s.size := by omega
    have hh : s.data.toList.head? = some s[0] := by
      have : s.data.toList[0]? = some s[0] := by
        rw [List.getElem?_eq_getElem (by simpa using h00), Array.getElem_toList]; rfl
      rw [List.head?_eq_getElem?, this]
    rw [hh] at hr
    by_cases h0 : 1 < s.size ∧ s[0].toNat = 48
    · have : r = none := by
        rw [← hr, if_neg]
        have : s[0] = 48 := UInt8.toNat_inj.mp h0.2
        simp [h0.1, this]
      subst this
      exact (rDec_none_nought s w h0.1 h9 (Lib.hid h0.2)).mono fun e w' h => h
    · refine rDec_shape s r w h1 h9 ?_ (Lib.hid ?_)
      · by_cases h1' : s.size = 1
        · exact .inl h1'
        · exact .inr ⟨h00, fun e => h0 ⟨by omega, e⟩⟩
      · rw [← hr]
        have hd : decide (1 ≤ s.size ∧ s.size ≤ 9 ∧ ¬ (1 < s.size ∧ some s[0] = some (48 : UInt8))) = true := by
          rw [decide_eq_true_eq]
          refine ⟨h1, h9, fun ⟨a, b⟩ => h0 ⟨a, ?_⟩⟩
          injection b with b
          rw [b]; rfl
        rw [hd, Bool.true_and]
  · have : r = none := by rw [← hr, if_neg]; simp; omega
    subst this
    exact (rDec_none_len s w (by omega)).mono fun e w' h => h
end Go.Proofs.Ytdjmhjgfjbcdkaa
