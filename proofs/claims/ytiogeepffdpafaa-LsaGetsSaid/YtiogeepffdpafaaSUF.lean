/- The document's Fletcher, walked; known. -/
import Derived.Test.YtiogeepffdpafaaSUE
namespace Go.Proofs.Ytiogeepffdpafaa
open Go.RowKit

set_option maxRecDepth 100000 in
set_option maxHeartbeats 2000000 in
theorem r9Fletcher_yes (g o c : Nat) (l : List UInt8) (k : Nat) (hk : k + 2 ≤ l.length) (hl : l.length ≤ 1000000) (w : World) (hr : Hid (w.rangeAt g o (l.map bv))) (X Z : Nat) (hXe : Hid (X = flX (zed l k) l.length k)) (hZe : Hid (Z = flY (zed l k) l.length k)) :
    Calls Try.prog 61 #[.slice (some ⟨g, o, none⟩) l.length c, .int .i64 k] w fun e w' => e = .returned (.tuple #[.int .u8 X, .int .u8 Z]) ∧ w = w' := by
  have hzl := Lib.hid (zed_len l k)
  go_enter Try.func61, Try.ntmps61
  go_wp2
  go_loop [6, 7, 8] (fun a b iv => ∃ i : Nat, i ≤ l.length ∧ a = .int .i64 (s0 ((zed l k).take i) % 255 : Nat) ∧ b = .int .i64 (tsum (zed l k) i % 255 : Nat) ∧ iv = .int .i64 i) (fun _ _ iv => l.length - (intOf iv).toNat)
  case atStart => exact ⟨0, by omega, by simp [s0], by rw [tsum_zero]; rfl, rfl⟩
  case round =>
    obtain ⟨i, hi, rfl, rfl, rfl⟩ := hrel
    by_cases hlk : i < l.length
    · have hcell := drop_cell hr.out i hlk
      have hx := (l[i]).toNat_lt
      have hz := zed_get (k := k) hlk
      have ht := tsum_succ (zed l k) i (by rw [hzl.out]; exact hlk)
      have hs := s0_snoc (zed l k) i (by rw [hzl.out]; exact hlk)
      rw [hz, hzl.out] at ht
      rw [hz] at hs
      obtain ⟨S, hS⟩ : ∃ S, S = s0 ((zed l k).take i) % 255 := ⟨_, rfl⟩
      obtain ⟨T, hT⟩ : ∃ T, T = tsum (zed l k) i % 255 := ⟨_, rfl⟩
      have lS : S < 255 := by rw [hS]; exact Nat.mod_lt _ (by omega)
      have lT : T < 255 := by rw [hT]; exact Nat.mod_lt _ (by omega)
      by_cases he : i = k ∨ i = k + 1
      · rw [if_pos he] at ht hs
        have hs2 : Hid (s0 ((zed l k).take (i + 1)) % 255 = S) := Lib.hid (by rw [hs, hS]; simp)
        have ht2 : Hid (tsum (zed l k) (i + 1) % 255 = T) := Lib.hid (by rw [ht, hT]; simp)
        rw [← hS, ← hT]
        clear hS hT hs ht hz
        rcases he with he | he
        · have e1 : ((i : Int) == (k : Int)) = true := by rw [beq_iff_eq]; omega
          clear he
          go_wp2
          go_round
          case rel => exact ⟨i + 1, by omega, by rw [hs2.out], by rw [ht2.out], by go_num⟩
          case measure => simp [intOf]; omega
        · have e1 : ((i : Int) == (k : Int)) = false := by rw [beq_eq_false_iff_ne]; omega
          have e2 : ((i : Int) == (k : Int) + 1) = true := by rw [beq_iff_eq]; omega
          clear he
          go_wp2
          go_round
          case rel => exact ⟨i + 1, by omega, by rw [hs2.out], by rw [ht2.out], by go_num⟩
          case measure => simp [intOf]; omega
      · rw [if_neg he] at ht hs
        obtain ⟨R, hR⟩ : ∃ R, R = (l.length - i) % 255 := ⟨_, rfl⟩
        have hRi : ((l.length : Int) - i) % 255 = (R : Int) := by omega
        have lR : R < 255 := by rw [hR]; exact Nat.mod_lt _ (by omega)
        obtain ⟨M, hM⟩ : ∃ M, M = l[i].toNat * R := ⟨_, rfl⟩
        have lM : M ≤ 255 * 254 := by rw [hM]; exact Nat.mul_le_mul (by omega) (by omega)
        have hMi : (l[i].toNat : Int) * (R : Int) = (M : Int) := by rw [hM]; exact (Int.natCast_mul _ _).symm
        have hs2 : Hid (s0 ((zed l k).take (i + 1)) % 255 = (S + l[i].toNat) % 255) := Lib.hid (by rw [hs, hS]; omega)
        have ht2 : Hid (tsum (zed l k) (i + 1) % 255 = (T + M) % 255) := Lib.hid (by
          rw [ht, hT, hM, hR, Nat.add_mod, Nat.mul_mod, ← Nat.mul_mod l[i].toNat]
          have : l[i].toNat * ((l.length - i) % 255) % 255 = l[i].toNat * (l.length - i) % 255 := by rw [Nat.mul_mod_mod]
          omega)
        rw [← hS, ← hT]
        have e1 : ((i : Int) == (k : Int)) = false := by rw [beq_eq_false_iff_ne]; omega
        have e2 : ((i : Int) == (k : Int) + 1) = false := by rw [beq_eq_false_iff_ne]; omega
        clear hS hT hs ht hz he hR hM
        go_wp2
        go_round
        case rel => exact ⟨i + 1, by omega, by rw [hs2.out]; go_num, by rw [ht2.out]; go_num, by go_num⟩
        case measure => simp [intOf]; omega
    · obtain rfl : i = l.length := by omega
      have e1 : (zed l k).take l.length = zed l k := List.take_of_length_le (by rw [hzl.out]; omega)
      have e2 := tsum_all (zed l k)
      rw [hzl.out] at e2
      rw [e1, e2]
      obtain ⟨S, hS⟩ : ∃ S, S = s0 (zed l k) % 255 := ⟨_, rfl⟩
      obtain ⟨T, hT⟩ : ∃ T, T = s1 (zed l k) % 255 := ⟨_, rfl⟩
      have lS : S < 255 := by rw [hS]; exact Nat.mod_lt _ (by omega)
      have lT : T < 255 := by rw [hT]; exact Nat.mod_lt _ (by omega)
      obtain ⟨P, hP⟩ : ∃ P, P = (l.length - k) % 255 := ⟨_, rfl⟩
      obtain ⟨Qq, hQ⟩ : ∃ Qq, Qq = (l.length - k - 1) % 255 := ⟨_, rfl⟩
      have hPi : ((l.length : Int) - k) % 255 = (P : Int) := by omega
      have hQi : ((l.length : Int) - k - 1) % 255 = (Qq : Int) := by omega
      have lP : P < 255 := by rw [hP]; exact Nat.mod_lt _ (by omega)
      have lQ : Qq < 255 := by rw [hQ]; exact Nat.mod_lt _ (by omega)
      have hPQ : P % 255 = (Qq + 1) % 255 := by omega
      have hX : flX (zed l k) l.length k = (Qq * S + 255 - T) % 255 := by rw [hQ, hS, hT]; rfl
      have hY : flY (zed l k) l.length k = (510 - S - flX (zed l k) l.length k) % 255 := by rw [hS]; rfl
      have lX : X < 255 := by rw [hXe.out]; exact flX_lt ..
      rw [← hXe.out] at hX hY
      rw [← hZe.out] at hY
      rw [← hS, ← hT]
      have hX' := Lib.hid hX; have hPQ' := Lib.hid hPQ; have hY' := Lib.hid hY
      clear e1 e2 hS hT hP hQ hX hY hPQ
      go_wp2
      go_loop [11] (fun xv => ∃ x : Nat, x ≤ X ∧ xv = .int .i64 x) (fun xv => 255 - (intOf xv).toNat)
      case atStart => exact ⟨0, by omega, rfl⟩
      case round =>
        obtain ⟨x, hx, rfl⟩ := hrel
        have lx : x < 255 := by omega
        have hcond := fl_cond (s := S) (t := T) (q := Qq) (p := P) (x := x) lS lT lx hPQ'.out
        obtain ⟨Y, hYe⟩ : ∃ Y, Y = (510 - S - x) % 255 := ⟨_, rfl⟩
        have lY : Y < 255 := by rw [hYe]; exact Nat.mod_lt _ (by omega)
        have hYi : (510 - (S : Int) - x) % 255 = (Y : Int) := by omega
        obtain ⟨M1, hM1⟩ : ∃ M, M = x * P := ⟨_, rfl⟩
        obtain ⟨M2, hM2⟩ : ∃ M, M = Y * Qq := ⟨_, rfl⟩
        have lM1 : M1 ≤ 254 * 254 := by rw [hM1]; exact Nat.mul_le_mul (by omega) (by omega)
        have lM2 : M2 ≤ 254 * 254 := by rw [hM2]; exact Nat.mul_le_mul (by omega) (by omega)
        have hM1i : (x : Int) * (P : Int) = (M1 : Int) := by rw [hM1]; exact (Int.natCast_mul _ _).symm
        have hM2i : (Y : Int) * (Qq : Int) = (M2 : Int) := by rw [hM2]; exact (Int.natCast_mul _ _).symm
        rw [← hYe, ← hM1, ← hM2, ← hX'.out] at hcond
        by_cases hxx : x = X
        · have hz : (((T : Int) + M1 + M2) % 255 == 0) = true := by rw [beq_iff_eq]; have := hcond.2 hxx; omega
          have hYe' := Lib.hid hYe; have hxx' := Lib.hid hxx
          clear hcond hM1 hM2 hYe hxx
          go_wp2
          go_ret2
          exact ⟨ret_pair (by rw [hxx'.out]) (by rw [hY'.out, ← hxx'.out, hYe'.out]), rfl⟩
        · have hz : (((T : Int) + M1 + M2) % 255 == 0) = false := by
            rw [beq_eq_false_iff_ne]; intro h; exact hxx (hcond.1 (by omega))
          clear hcond hM1 hM2 hYe
          go_wp2
          go_round
          case rel => exact ⟨x + 1, by omega, by go_num⟩
          case measure => simp [intOf]; omega
theorem r9Fletcher_no (sl : Value) (l : List UInt8) (k : Int) (hk : k < 0 ∨ (l.length : Int) - 2 < k) (hk1 : -9223372036854775808 ≤ k) (hk2 : k ≤ 9223372036854775807) (hl : l.length ≤ 1000000) (w : World) (h : Hid (BytesAt w sl l)) :
    Calls Try.prog 61 #[sl, .int .i64 k] w fun e w' => e = .returned (.tuple #[.int .u8 0, .int .u8 0]) ∧ w = w' := by
  obtain ⟨p, c, rfl, -, -, -⟩ := h.out
  clear h
  rcases hk with hk | hk
  · go_enter Try.func61, Try.ntmps61
    go_wp2
    go_ret2
    exact ⟨rfl, rfl⟩
  · by_cases h0 : k < 0
    · go_enter Try.func61, Try.ntmps61
      go_wp2
      go_ret2
      exact ⟨rfl, rfl⟩
    · go_enter Try.func61, Try.ntmps61
      go_wp2
      go_ret2
      exact ⟨rfl, rfl⟩

def knownB : List UInt8 := [0, 1, 242, 3, 244, 245, 246, 247]
end Go.Proofs.Ytiogeepffdpafaa
