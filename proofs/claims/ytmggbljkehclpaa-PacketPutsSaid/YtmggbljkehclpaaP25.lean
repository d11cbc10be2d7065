/- SUE SUF -/
import Derived.Test.YtmggbljkehclpaaP08
set_option linter.unusedVariables false
set_option linter.unusedSimpArgs false
namespace Go.Proofs.Ytmggbljkehclpaa
open Go.RowKit
theorem q0g (l : List UInt8) (k : Nat) (h : k < l.length) (n : Nat) (hn : n = f06 (isum true (l.take k))) (x : Nat) (hx : x = if k % 2 = 0 then l[k].toNat * 256 else l[k].toNat) :
 f06 (isum true (l.take (k + 1))) = if n + x > 65535 then n + x - 65535 else n + x := by
 have h1 : (l.take k).length = k := by simp; omega
 rw [List.take_succ_eq_append_getElem h, i0h, h1]
 have e : (if (if par k = true then true else !true) = true then l[k].toNat * 256 else l[k].toNat) = x := by
  rw [hx]; unfold par
  by_cases hk : k % 2 = 0 <;> simp [hk]
 rw [e]
 have hc := p0b (isum true (l.take k))
 have hb := (l[k]).toNat_lt
 have hxl : x ≤ 65280 := by rw [hx]; split <;> omega
 rw [← r0r, ← hn]
 rw [← hn] at hc
 unfold f06; split <;> split <;> omega
set_option maxRecDepth 100000 in
set_option maxHeartbeats 1000000 in
theorem h0k (sl : Value) (l : List UInt8) (hl : l.length ≤ 1000000) (w : World) (h : Hid (a0b w sl l)) :
 Calls Try.prog 28 #[sl] w fun e w' => e = .returned (.int .u16 (inet l : Nat)) ∧ w = w' := by
 obtain ⟨p, c, rfl, -, -, hb⟩ := h.out
 have hb' := Hi hb; clear hb h
 go_enter Try.func28, Try.ntmps28
 go_wp2
 go_loop [3, 4] (fun nv iv => ∃ k : Nat, k ≤ l.length ∧ nv = .int .i64 (f06 (isum true (l.take k)) : Nat) ∧ iv = .int .i64 k) (fun _ iv => l.length - (intOf iv).toNat)
 case atStart => exact ⟨0, by omega, by simp [isum, f06], rfl⟩
 case round =>
  obtain ⟨k, hk, rfl, rfl⟩ := hrel
  have hc := p0b (isum true (l.take k))
  obtain ⟨n, hn⟩ : ∃ n, n = f06 (isum true (l.take k)) := ⟨_, rfl⟩
  by_cases hlk : k < l.length
  ·obtain ⟨g, o, rfl, hr⟩ := hb'.out (by omega)
   have hcell := a0k hr k hlk
   have hx := (l[k]).toNat_lt
   have hnx := q0g l k hlk n hn
   rw [← hn] at hc ⊢
   have hn' := Hi hn
   have hnx' := Hi hnx
   clear hn hnx hr
   by_cases he : k % 2 = 0
   ·have hev : ((k : Int) % 2 == 0) = true := by rw [beq_iff_eq]; omega
    have hq := Hi (hnx'.out (l[k].toNat * 256) (by rw [if_pos he]))
    have he' := Hi he; clear he
    by_cases hbig : n + l[k].toNat * 256 > 65535
    ·have hbig' : (65535 : Int) < (n : Int) + (l[k].toNat : Int) * 256 := by omega
     go_wp2
     go_round
     case rel => exact ⟨k + 1, by omega, by rw [hq.out, if_pos hbig]; go_num, by go_num⟩
     case measure => simp [intOf]; omega
    ·have hbig' : ¬ (65535 : Int) < (n : Int) + (l[k].toNat : Int) * 256 := by omega
     go_wp2
     go_round
     case rel => exact ⟨k + 1, by omega, by rw [hq.out, if_neg hbig]; go_num, by go_num⟩
     case measure => simp [intOf]; omega
   ·have hev : ((k : Int) % 2 == 0) = false := by rw [beq_eq_false_iff_ne]; omega
    have hq := Hi (hnx'.out (l[k].toNat) (by rw [if_neg he]))
    have he' := Hi he; clear he
    by_cases hbig : n + l[k].toNat > 65535
    ·have hbig' : (65535 : Int) < (n : Int) + (l[k].toNat : Int) := by omega
     go_wp2
     go_round
     case rel => exact ⟨k + 1, by omega, by rw [hq.out, if_pos hbig]; go_num, by go_num⟩
     case measure => simp [intOf]; omega
    ·have hbig' : ¬ (65535 : Int) < (n : Int) + (l[k].toNat : Int) := by omega
     go_wp2
     go_round
     case rel => exact ⟨k + 1, by omega, by rw [hq.out, if_neg hbig]; go_num, by go_num⟩
     case measure => simp [intOf]; omega
  ·obtain rfl : k = l.length := by omega
   rw [List.take_length] at hn hc ⊢
   have hin : inet l = 65535 - n := by rw [hn]; rfl
   rw [← hn] at hc ⊢
   have hin' := Hi hin
   clear hn hin
   go_wp2
   go_ret
   exact ⟨ret_int (by rw [hin'.out]; omega), rfl⟩
theorem n0w (sl : Value) (l : List UInt8) (hl : l.length ≤ 9223372036854775807) (w : World) (h : Hid (a0b w sl l)) :
 Calls Try.prog 59 #[sl] w fun e w' => e = .returned (.bool (b0h l)) ∧ w = w' := by
 obtain ⟨p, c, rfl, -, -, hb⟩ := h.out
 have hb' := Hi hb; clear hb h
 go_enter Try.func59, Try.ntmps59
 go_wp2
 go_loop [3, 4, 5] (fun a b iv => ∃ k : Nat, k ≤ l.length ∧ a = .int .i64 ((fl (0, 0) (l.take k)).1 : Nat) ∧ b = .int .i64 ((fl (0, 0) (l.take k)).2 : Nat) ∧ iv = .int .i64 k) (fun _ _ iv => l.length - (intOf iv).toNat)
 case atStart => exact ⟨0, by omega, rfl, rfl, rfl⟩
 case round =>
  obtain ⟨k, hk, rfl, rfl, rfl⟩ := hrel
  by_cases hlk : k < l.length
  ·obtain ⟨g, o, rfl, hr⟩ := hb'.out (by omega)
   have hc := a0k hr k hlk
   have hx := (l[k]).toNat_lt
   obtain ⟨q, hq⟩ : ∃ q, q = fl (0, 0) (l.take k) := ⟨_, rfl⟩
   have hlt := fl_lt (l.take k) (0, 0) (by decide) (by decide)
   have hs : fl (0, 0) (l.take (k + 1)) = ((q.1 + (l[k]).toNat) % 255, (q.2 + (q.1 + (l[k]).toNat) % 255) % 255) := by
    rw [List.take_succ_eq_append_getElem hlk, i0l, ← hq]; rfl
   rw [← hq] at hlt ⊢
   obtain ⟨q1, q2⟩ := q
   obtain ⟨hl1, hl2⟩ := hlt
   simp only at hl1 hl2 hs ⊢
   have hs' := Hi hs; have hq' := Hi hq; clear hs hr hq
   go_wp2
   go_round
   case rel => exact ⟨k + 1, by omega, by rw [hs'.out]; go_num, by rw [hs'.out]; go_num, by go_num⟩
   case measure => simp [intOf]; omega
  ·obtain rfl : k = l.length := by omega
   rw [List.take_length]
   have hr : b0h l = decide ((fl (0, 0) l).1 = 0 ∧ (fl (0, 0) l).2 = 0) := by rw [o0h]; rfl
   obtain ⟨q, hq⟩ : ∃ q, q = fl (0, 0) l := ⟨_, rfl⟩
   rw [← hq] at hr ⊢
   have hr' := Hi hr
   clear hq hr
   obtain ⟨q1, q2⟩ := q
   simp only at hr' ⊢
   by_cases a : q1 = 0
   ·by_cases b : q2 = 0
    ·subst a; subst b
     go_wp2
     go_ret
     exact ⟨by rw [hr'.out]; rfl, rfl⟩
    ·have e1 : ((q2 : Int) == 0) = false := by rw [beq_eq_false_iff_ne]; omega
     subst a
     have hz : Hid (b0h l = false) := Hi (by rw [hr'.out]; simp [b])
     clear b
     go_wp2
     go_ret
     exact ⟨by rw [hz.out]; rfl, rfl⟩
   ·have e1 : ((q1 : Int) == 0) = false := by rw [beq_eq_false_iff_ne]; omega
    have hz : Hid (b0h l = false) := Hi (by rw [hr'.out]; simp [a])
    clear a
    go_wp2
    go_ret
    exact ⟨by rw [hz.out]; rfl, rfl⟩
set_option maxRecDepth 100000 in
set_option maxHeartbeats 2000000 in
theorem k0n (g o c : Nat) (l : List UInt8) (k : Nat) (hk : k + 2 ≤ l.length) (hl : l.length ≤ 1000000) (w : World) (hr : Hid (w.rangeAt g o (l.map bv))) (X Z : Nat) (hXe : Hid (X = flX (zed l k) l.length k)) (hZe : Hid (Z = flY (zed l k) l.length k)) :
 Calls Try.prog 54 #[.slice (some ⟨g, o, none⟩) l.length c, .int .i64 k] w fun e w' => e = .returned (.tuple #[.int .u8 X, .int .u8 Z]) ∧ w = w' := by
 have hzl := Hi (j0s l k)
 go_enter Try.func54, Try.ntmps54
 go_wp2
 go_loop [6, 7, 8] (fun a b iv => ∃ i : Nat, i ≤ l.length ∧ a = .int .i64 (s0 ((zed l k).take i) % 255 : Nat) ∧ b = .int .i64 (tsum (zed l k) i % 255 : Nat) ∧ iv = .int .i64 i) (fun _ _ iv => l.length - (intOf iv).toNat)
 case atStart => exact ⟨0, by omega, by simp [s0], by rw [q0n]; rfl, rfl⟩
 case round =>
  obtain ⟨i, hi, rfl, rfl, rfl⟩ := hrel
  by_cases hlk : i < l.length
  ·have hcell := a0k hr.out i hlk
   have hx := (l[i]).toNat_lt
   have hz := n0n (k := k) hlk
   have ht := q0o (zed l k) i (by rw [hzl.out]; exact hlk)
   have hs := s0_snoc (zed l k) i (by rw [hzl.out]; exact hlk)
   rw [hz, hzl.out] at ht
   rw [hz] at hs
   obtain ⟨S, hS⟩ : ∃ S, S = s0 ((zed l k).take i) % 255 := ⟨_, rfl⟩
   obtain ⟨T, hT⟩ : ∃ T, T = tsum (zed l k) i % 255 := ⟨_, rfl⟩
   have lS : S < 255 := by rw [hS]; exact Nat.mod_lt _ (by omega)
   have lT : T < 255 := by rw [hT]; exact Nat.mod_lt _ (by omega)
   by_cases he : i = k ∨ i = k + 1
   ·rw [if_pos he] at ht hs
    have hs2 : Hid (s0 ((zed l k).take (i + 1)) % 255 = S) := Hi (by rw [hs, hS]; simp)
    have ht2 : Hid (tsum (zed l k) (i + 1) % 255 = T) := Hi (by rw [ht, hT]; simp)
    rw [← hS, ← hT]
    clear hS hT hs ht hz
    rcases he with he | he
    ·have e1 : ((i : Int) == (k : Int)) = true := by rw [beq_iff_eq]; omega
     clear he
     go_wp2
     go_round
     case rel => exact ⟨i + 1, by omega, by rw [hs2.out], by rw [ht2.out], by go_num⟩
     case measure => simp [intOf]; omega
    ·have e1 : ((i : Int) == (k : Int)) = false := by rw [beq_eq_false_iff_ne]; omega
     have e2 : ((i : Int) == (k : Int) + 1) = true := by rw [beq_iff_eq]; omega
     clear he
     go_wp2
     go_round
     case rel => exact ⟨i + 1, by omega, by rw [hs2.out], by rw [ht2.out], by go_num⟩
     case measure => simp [intOf]; omega
   ·rw [if_neg he] at ht hs
    obtain ⟨R, hR⟩ : ∃ R, R = (l.length - i) % 255 := ⟨_, rfl⟩
    have hRi : ((l.length : Int) - i) % 255 = (R : Int) := by omega
    have lR : R < 255 := by rw [hR]; exact Nat.mod_lt _ (by omega)
    obtain ⟨M, hM⟩ : ∃ M, M = l[i].toNat * R := ⟨_, rfl⟩
    have lM : M ≤ 255 * 254 := by rw [hM]; exact Nat.mul_le_mul (by omega) (by omega)
    have hMi : (l[i].toNat : Int) * (R : Int) = (M : Int) := by rw [hM]; exact (Int.natCast_mul _ _).symm
    have hs2 : Hid (s0 ((zed l k).take (i + 1)) % 255 = (S + l[i].toNat) % 255) := Hi (by rw [hs, hS]; omega)
    have ht2 : Hid (tsum (zed l k) (i + 1) % 255 = (T + M) % 255) := Hi (by
     rw [ht, hT, hM, hR, Nat.add_mod, Nat.mul_mod, ← Nat.mul_mod l[i].toNat]
     have : l[i].toNat * ((l.length - i) % 255) % 255 = l[i].toNat * (l.length - i) % 255 := by rw [Nat.mul_mod_mod]
     omega)
    rw [← hS, ← hT]
    have e1 : ((i : Int) == (k : Int)) = false := by rw [beq_eq_false_iff_ne]; omega
    have e2 : ((i : Int) == (k : Int) + 1) = false := by rw [beq_eq_false_iff_ne]; omega
    clear hS hT hs ht hz he hR hM
    go_wp2
    go_round
    case rel => exact ⟨i + 1, by omega, by rw [hs2.out]; go_num, by rw [ht2.out]; go_num, by go_num⟩
    case measure => simp [intOf]; omega
  ·obtain rfl : i = l.length := by omega
   have e1 : (zed l k).take l.length = zed l k := List.take_of_length_le (by rw [hzl.out]; omega)
   have e2 := tsum_all (zed l k)
   rw [hzl.out] at e2
   rw [e1, e2]
   obtain ⟨S, hS⟩ : ∃ S, S = s0 (zed l k) % 255 := ⟨_, rfl⟩
   obtain ⟨T, hT⟩ : ∃ T, T = s1 (zed l k) % 255 := ⟨_, rfl⟩
   have lS : S < 255 := by rw [hS]; exact Nat.mod_lt _ (by omega)
   have lT : T < 255 := by rw [hT]; exact Nat.mod_lt _ (by omega)
   obtain ⟨P, hP⟩ : ∃ P, P = (l.length - k) % 255 := ⟨_, rfl⟩
   obtain ⟨Qq, hQ⟩ : ∃ Qq, Qq = (l.length - k - 1) % 255 := ⟨_, rfl⟩
   have hPi : ((l.length : Int) - k) % 255 = (P : Int) := by omega
   have hQi : ((l.length : Int) - k - 1) % 255 = (Qq : Int) := by omega
   have lP : P < 255 := by rw [hP]; exact Nat.mod_lt _ (by omega)
   have lQ : Qq < 255 := by rw [hQ]; exact Nat.mod_lt _ (by omega)
   have hPQ : P % 255 = (Qq + 1) % 255 := by omega
   have hX : flX (zed l k) l.length k = (Qq * S + 255 - T) % 255 := by rw [hQ, hS, hT]; rfl
   have hY : flY (zed l k) l.length k = (510 - S - flX (zed l k) l.length k) % 255 := by rw [hS]; rfl
   have lX : X < 255 := by rw [hXe.out]; exact k0g ..
   rw [← hXe.out] at hX hY
   rw [← hZe.out] at hY
   rw [← hS, ← hT]
   have hX' := Hi hX; have hPQ' := Hi hPQ; have hY' := Hi hY
   clear e1 e2 hS hT hP hQ hX hY hPQ
   go_wp2
   go_loop [11] (fun xv => ∃ x : Nat, x ≤ X ∧ xv = .int .i64 x) (fun xv => 255 - (intOf xv).toNat)
   case atStart => exact ⟨0, by omega, rfl⟩
   case round =>
    obtain ⟨x, hx, rfl⟩ := hrel
    have lx : x < 255 := by omega
    have hcond := r0o (s := S) (t := T) (q := Qq) (p := P) (x := x) lS lT lx hPQ'.out
    obtain ⟨Y, hYe⟩ : ∃ Y, Y = (510 - S - x) % 255 := ⟨_, rfl⟩
    have lY : Y < 255 := by rw [hYe]; exact Nat.mod_lt _ (by omega)
    have hYi : (510 - (S : Int) - x) % 255 = (Y : Int) := by omega
    obtain ⟨M1, hM1⟩ : ∃ M, M = x * P := ⟨_, rfl⟩
    obtain ⟨M2, hM2⟩ : ∃ M, M = Y * Qq := ⟨_, rfl⟩
    have lM1 : M1 ≤ 254 * 254 := by rw [hM1]; exact Nat.mul_le_mul (by omega) (by omega)
    have lM2 : M2 ≤ 254 * 254 := by rw [hM2]; exact Nat.mul_le_mul (by omega) (by omega)
    have hM1i : (x : Int) * (P : Int) = (M1 : Int) := by rw [hM1]; exact (Int.natCast_mul _ _).symm
    have hM2i : (Y : Int) * (Qq : Int) = (M2 : Int) := by rw [hM2]; exact (Int.natCast_mul _ _).symm
    rw [← hYe, ← hM1, ← hM2, ← hX'.out] at hcond
    by_cases hxx : x = X
    ·have hz : (((T : Int) + M1 + M2) % 255 == 0) = true := by rw [beq_iff_eq]; have := hcond.2 hxx; omega
     have hYe' := Hi hYe; have hxx' := Hi hxx
     clear hcond hM1 hM2 hYe hxx
     go_wp2
     go_ret2
     exact ⟨l0o (by rw [hxx'.out]) (by rw [hY'.out, ← hxx'.out, hYe'.out]), rfl⟩
    ·have hz : (((T : Int) + M1 + M2) % 255 == 0) = false := by
      rw [beq_eq_false_iff_ne]; intro h; exact hxx (hcond.1 (by omega))
     clear hcond hM1 hM2 hYe
     go_wp2
     go_round
     case rel => exact ⟨x + 1, by omega, by go_num⟩
     case measure => simp [intOf]; omega
end Go.Proofs.Ytmggbljkehclpaa
