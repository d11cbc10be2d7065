/- SUC SUD -/
import Derived.Test.YtmggbljkehclpaaP03
set_option linter.unusedVariables false
set_option linter.unusedSimpArgs false
namespace Go.Proofs.Ytmggbljkehclpaa
open Go.RowKit
theorem or_pair (x y : UInt8) : bits .or .u64 ((x.toNat : Int) * 256) (y.toNat : Int) = (x.toNat : Int) * 256 + y.toNat := by
 have hx := x.toNat_lt
 have hy := y.toNat_lt
 have h := u64_or_nat (x.toNat * 256) y.toNat (by omega) (by omega)
 rw [r08] at h
 have e : ((x.toNat * 256 : Nat) : Int) = (x.toNat : Int) * 256 := by omega
 rw [e] at h
 refine h.trans ?_
 rw [Int.natCast_add, e]
theorem o0m (s : Nat) (h : s < 18446744073709551616) : bits .and .u64 (s : Int) 65535 = ((s % 65536 : Nat) : Int) := by
 have := u64_and_nat s 65535 h (by omega)
 rw [show (65535 : Nat) = 2 ^ 16 - 1 from rfl, Nat.and_two_pow_sub_one_eq_mod] at this
 exact this
theorem xor_ones (s : Nat) (h : s < 65536) : 65535 ^^^ s = 65535 - s := by
 apply Nat.eq_of_testBit_eq
 intro i
 have h1 := Nat.testBit_two_pow_sub_succ (x := s) (n := 16) h i
 have h2 := Nat.testBit_two_pow_sub_one 16 i
 rw [show 2 ^ 16 - (s + 1) = 65535 - s by omega] at h1
 rw [show 2 ^ 16 - 1 = 65535 from rfl] at h2
 rw [Nat.testBit_xor, h2, h1]
 by_cases hi : i < 16
 ·simp [hi]
 ·have hge : 16 ≤ i := by omega
  have : s.testBit i = false := Nat.testBit_lt_two_pow (Nat.lt_of_lt_of_le h (Nat.pow_le_pow_right (n := 2) (by omega) hge))
  simp [hi, this]
theorem o06 (s : Nat) (h : s < 65536) : bits .xor .u16 65535 (s : Int) = ((65535 - s : Nat) : Int) := by
 have := u16_xor_nat 65535 s (by omega) h
 rw [xor_ones s h] at this
 exact this
theorem isum_two (l : List UInt8) (j : Nat) (h : 2 * j + 1 < l.length) : isum true (l.take (2 * j + 2)) = isum true (l.take (2 * j)) + (l[2 * j].toNat * 256 + l[2 * j + 1].toNat) := by
 rw [List.take_succ_eq_append_getElem h, List.take_succ_eq_append_getElem (by omega), i0h, i0h]
 have h1 : (l.take (2 * j)).length = 2 * j := by simp; omega
 have p1 : par (l.take (2 * j)).length = true := by rw [h1]; unfold par; simp
 have p2 : par (l.take (2 * j) ++ [l[2 * j]]).length = false := by rw [List.length_append, h1]; unfold par; simp
 rw [p1, p2]; simp; omega
theorem isum_one (l : List UInt8) (j : Nat) (h : 2 * j + 1 = l.length) : isum true l = isum true (l.take (2 * j)) + l[2 * j].toNat * 256 := by
 have h1 : (l.take (2 * j)).length = 2 * j := by simp; omega
 have e : l = l.take (2 * j) ++ [l[2 * j]] := by rw [← List.take_succ_eq_append_getElem (by omega), h, List.take_length]
 have p1 : par (l.take (2 * j)).length = true := by rw [h1]; unfold par; simp
 conv => lhs; rw [e]
 rw [i0h, p1]; simp
set_option maxRecDepth 100000 in
set_option maxHeartbeats 1000000 in
theorem j0u (g o c : Nat) (l : List UInt8) (hl0 : 0 < l.length) (hl : l.length ≤ 1000000) (hc : l.length ≤ c) (w : World) (hr : Hid (w.rangeAt g o (l.map bv))) :
 Calls Try.prog 50 #[.slice (some ⟨g, o, none⟩) l.length c] w fun e w' => e = .returned (.int .u16 (inet l : Nat)) ∧ ∃ n, w' = w.drewN n := by
 go_enter Try.func50, Try.ntmps50
 go_wp2
 go_loopw [0, 3] (fun bw s wr => ∃ j a : Nat, 2 * j ≤ l.length ∧ Hid (2 * j < l.length → a = o + 2 * j) ∧ bw = .slice (some ⟨g, a, none⟩) (l.length - 2 * j) (c - 2 * j) ∧ s = .int .u64 (isum true (l.take (2 * j)) : Nat) ∧ Hid (∃ m, wr = w.drewN m)) (fun bw _ _ => match bw with | .slice _ n _ => n | _ => 0)
 case atStart => exact ⟨0, o, by omega, Hi (fun _ => rfl), rfl, by simp [isum], Hi ⟨0, rfl⟩⟩
 case round =>
  obtain ⟨j, a, hj, ha, rfl, rfl, hm⟩ := hrel
  have hsl := r0e (l.take (2 * j)) true
  have hsl2 : isum true (l.take (2 * j)) ≤ 65280 * 1000000 := by
   have : (l.take (2 * j)).length ≤ 1000000 := by simp; omega
   omega
  have hrw : Hid (wr.rangeAt g o (l.map bv)) := by obtain ⟨m, rfl⟩ := hm.out; exact hr
  by_cases h2 : 2 * j + 1 < l.length
  ·obtain rfl : a = o + 2 * j := ha.out (by omega)
   have c0 := a0k hrw.out (2 * j) (by omega)
   have c1 := a0k hrw.out (2 * j + 1) h2
   have hor := or_pair l[2 * j] l[2 * j + 1]
   have hs' := Hi (isum_two l j h2)
   have hx := (l[2 * j]).toNat_lt
   have hy := (l[2 * j + 1]).toNat_lt
   obtain ⟨s, hs⟩ : ∃ s, s = isum true (l.take (2 * j)) := ⟨_, rfl⟩
   rw [← hs] at hs' hsl2 ⊢
   rw [show o + (2 * j + 1) = o + 2 * j + 1 by omega] at c1
   clear hs hsl
   go_wp2
   go_quiet (fail)
   go_wp2
   go_roundw
   case rel =>
    refine ⟨j + 1, if c - 2 * j = 2 then o + 2 * j else o + 2 * j + 2, by omega, Hi (fun h => by rw [if_neg (by omega)]; omega), ?_, ?_, ?_⟩
    ·rw [show l.length - 2 * (j + 1) = l.length - 2 * j - 2 by omega, show c - 2 * (j + 1) = c - 2 * j - 2 by omega]; split <;> rfl
    ·rw [show 2 * (j + 1) = 2 * j + 2 by omega, hs'.out]; go_num
    ·obtain ⟨m, rfl⟩ := hm.out; exact Hi ⟨m + nq, by rw [World.drewN_drewN]⟩
   case measure => show l.length - 2 * j - 2 < l.length - 2 * j; omega
  ·obtain ⟨s, hs⟩ : ∃ s, s = isum true l := ⟨_, rfl⟩
   have hfin : s ≤ 65280 * 1000000 := by have := r0e l true; omega
   have hin : inet l = 65535 - f06 s := by rw [hs]; rfl
   by_cases h1 : 2 * j + 1 = l.length
   ·obtain rfl : a = o + 2 * j := ha.out (by omega)
    have c0 := a0k hrw.out (2 * j) (by omega)
    have hs1 := isum_one l j h1
    rw [← hs] at hs1
    have hx := (l[2 * j]).toNat_lt
    obtain ⟨s1, he⟩ : ∃ s1, s1 = isum true (l.take (2 * j)) := ⟨_, rfl⟩
    rw [← he] at hs1 hsl2 ⊢
    have hin' := Hi hin
    clear he hsl hs hin ha hrw
    go_wp2
    go_loop [3] (fun sv => ∃ s1 : Nat, s1 ≤ 65280 * 1000000 ∧ sv = .int .u64 (s1 : Nat) ∧ Hid (inet l = 65535 - f06 s1)) (fun sv => (intOf sv).toNat)
    case atStart => exact ⟨_, hfin, by first | rfl | (congr 1; omega), hin'⟩
    case round =>
     obtain ⟨s2, hs2, rfl, hc2⟩ := hrel
     by_cases hbig : 65536 ≤ s2
     ·have hand := o0m s2 (by omega)
      have hc3 : Hid (inet l = 65535 - f06 (s2 % 65536 + s2 / 65536)) := Hi (by rw [l0i hbig]; exact hc2.out)
      go_wp2
      go_round
      case rel => exact ⟨s2 % 65536 + s2 / 65536, by omega, by go_num, hc3⟩
      case measure => simp [intOf]; omega
     ·have hc3 : Hid (inet l = 65535 - s2) := Hi (by rw [← k0h (s := s2) (by omega)]; exact hc2.out)
      have hnot := o06 s2 (by omega)
      have hu2 : IntKind.u16.max = 65535 := rfl
      have hu : IntKind.u16.signed = false := rfl
      go_wp2
      go_ret
      obtain ⟨m, rfl⟩ := hm.out
      exact ⟨by rw [hc3.out]; rfl, _, rfl⟩
   ·have hlen : l.length = 2 * j := by omega
    have hin' := Hi hin
    have hsl3 : isum true (l.take (2 * j)) = s := by rw [hs, ← hlen, List.take_length]
    rw [hsl3]
    clear hs hsl hsl2 hsl3 hin ha hrw
    go_wp2
    go_loop [3] (fun sv => ∃ s1 : Nat, s1 ≤ 65280 * 1000000 ∧ sv = .int .u64 (s1 : Nat) ∧ Hid (inet l = 65535 - f06 s1)) (fun sv => (intOf sv).toNat)
    case atStart => exact ⟨_, hfin, by first | rfl | (congr 1; omega), hin'⟩
    case round =>
     obtain ⟨s2, hs2, rfl, hc2⟩ := hrel
     by_cases hbig : 65536 ≤ s2
     ·have hand := o0m s2 (by omega)
      have hc3 : Hid (inet l = 65535 - f06 (s2 % 65536 + s2 / 65536)) := Hi (by rw [l0i hbig]; exact hc2.out)
      go_wp2
      go_round
      case rel => exact ⟨s2 % 65536 + s2 / 65536, by omega, by go_num, hc3⟩
      case measure => simp [intOf]; omega
     ·have hc3 : Hid (inet l = 65535 - s2) := Hi (by rw [← k0h (s := s2) (by omega)]; exact hc2.out)
      have hnot := o06 s2 (by omega)
      have hu2 : IntKind.u16.max = 65535 := rfl
      have hu : IntKind.u16.signed = false := rfl
      go_wp2
      go_ret
      obtain ⟨m, rfl⟩ := hm.out
      exact ⟨by rw [hc3.out]; rfl, _, rfl⟩
theorem j0v (p : Option Addr) (c : Nat) (w : World) : Calls Try.prog 50 #[.slice p 0 c] w fun e w' => e = .returned (.int .u16 (inet [] : Nat)) ∧ ∃ n, w' = w.drewN n := by
 have hn := o06 0 (by omega)
 have hu2 : IntKind.u16.max = 65535 := rfl
 have hu : IntKind.u16.signed = false := rfl
 have ha := o0m 0 (by omega)
 go_enter Try.func50, Try.ntmps50
 go_wp2
 go_loop [0, 3] (fun bw s => bw = .slice p 0 c ∧ s = .int .u64 0) (fun _ _ => 0)
 case atStart => exact ⟨rfl, rfl⟩
 case round =>
  obtain ⟨rfl, rfl⟩ := hrel
  go_wp2
  go_loop [3] (fun s => s = .int .u64 0) (fun _ => 0)
  case atStart => rfl
  case round =>
   obtain rfl := hrel
   go_wp2
   go_ret
   exact ⟨rfl, 0, rfl⟩
theorem h0j (sl : Value) (l : List UInt8) (hl : l.length ≤ 1000000) (w : World) (h : Hid (a0b w sl l)) :
 Calls Try.prog 50 #[sl] w fun e w' => e = .returned (.int .u16 (inet l : Nat)) ∧ ∃ n, w' = w.drewN n := by
 obtain ⟨p, c, rfl, -, hc, hb⟩ := h.out
 cases l with
 | nil => exact j0v p c w
 | cons x l =>
  obtain ⟨g, o, rfl, hr⟩ := hb (by simp)
  exact j0u g o c (x :: l) (by simp) hl hc w (Hi hr)
theorem i05 (c0 c1 r0 r1 : Nat) (h0 : c0 < 255) (h1 : c1 < 255) (sl : Value) (l : List UInt8) (hl : l.length ≤ 9223372036854775807) (w : World) (h : Hid (a0b w sl l)) (hr : Hid (fl (c0, c1) l = (r0, r1))) :
 Calls Try.prog 80 #[.int .i64 c0, .int .i64 c1, sl] w fun e w' => e = .returned (.tuple #[.int .i64 r0, .int .i64 r1]) ∧ w = w' :=
 (k0v c0 c1 h0 h1 sl l hl w h).mono fun e w' ⟨he, hw⟩ => ⟨by rw [he, hr.out], hw⟩
theorem b01 {w : World} {g o c : Nat} {l : List UInt8} (h : w.rangeAt g o (l.map bv)) (hc : l.length ≤ c) (k : Nat) (hk : k ≤ l.length) :
 a0b w (.slice (if c = k then some ⟨g, o, none⟩ else some ⟨g, o + k, none⟩) (l.length - k) (c - k)) (l.drop k) := by
 by_cases e : c = k
 ·rw [if_pos e]
  have hn : l.drop k = [] := List.drop_of_length_le (by omega)
  rw [hn, show l.length - k = 0 by omega]
  exact ⟨some ⟨g, o, none⟩, _, rfl, (fun h => nomatch h), Nat.zero_le _, fun h => by simp at h⟩
 ·rw [if_neg e]
  have := d06 h k (l.length - k)
  rw [List.take_of_length_le (by simp)] at this
  exact a0b.of (by simp) (by omega) this
theorem h0b {w : World} {g o c : Nat} {l : List UInt8} (h : w.rangeAt g o (l.map bv)) (hc : l.length ≤ c) (k : Nat) (hk : k ≤ l.length) :
 a0b w (.slice (some ⟨g, o, none⟩) k c) (l.take k) := by
 have := d06 h 0 k
 exact a0b.of (by simp; omega) (by omega) (by simpa using this)
set_option maxRecDepth 100000 in
set_option maxHeartbeats 1000000 in
theorem k0m (g o c : Nat) (l : List UInt8) (k : Nat) (hk : k + 2 ≤ l.length) (hl : l.length ≤ 1000000) (hc : l.length ≤ c) (w : World) (hr : Hid (w.rangeAt g o (l.map bv))) :
 Calls Try.prog 73 #[.slice (some ⟨g, o, none⟩) l.length c, .int .i64 k] w fun e w' => e = .returned (.tuple #[.int .u8 (flX (zed l k) l.length k : Nat), .int .u8 (flY (zed l k) l.length k : Nat)]) ∧ a03 (fun _ => False) w w' := by
 obtain ⟨a0, a1, ha⟩ : ∃ a0 a1, fl (0, 0) (l.take k) = (a0, a1) := ⟨_, _, rfl⟩
 obtain ⟨b0, b1, hb⟩ : ∃ b0 b1, fl (a0, a1) [0, 0] = (b0, b1) := ⟨_, _, rfl⟩
 have hz : fl (b0, b1) (l.drop (k + 2)) = (s0 (zed l k) % 255, s1 (zed l k) % 255) := by
  rw [← o0h, ← zed_eq hk, i0l, i0l, ha, hb]
 have la := fl_lt (l.take k) (0, 0) (by decide) (by decide)
 rw [ha] at la
 have lb := fl_lt [0, 0] (a0, a1) la.1 la.2
 rw [hb] at lb
 obtain ⟨C0, hC0⟩ : ∃ C0, C0 = s0 (zed l k) % 255 := ⟨_, rfl⟩
 obtain ⟨C1, hC1⟩ : ∃ C1, C1 = s1 (zed l k) % 255 := ⟨_, rfl⟩
 have hX : flX (zed l k) l.length k = ((l.length - k - 1) % 255 * C0 + 255 - C1) % 255 := by rw [hC0, hC1]; rfl
 have hY : flY (zed l k) l.length k = (510 - C0 - flX (zed l k) l.length k) % 255 := by rw [hC0]; rfl
 have lc0 : C0 < 255 := by rw [hC0]; exact Nat.mod_lt _ (by omega)
 have lc1 : C1 < 255 := by rw [hC1]; exact Nat.mod_lt _ (by omega)
 rw [← hC0, ← hC1] at hz
 obtain ⟨B, hB⟩ : ∃ B, B = (l.length - k - 1) % 255 := ⟨_, rfl⟩
 have lB : B < 255 := by rw [hB]; exact Nat.mod_lt _ (by omega)
 have hBi : ((l.length : Int) - k - 1) % 255 = (B : Int) := by omega
 obtain ⟨M, hM⟩ : ∃ M, M = B * C0 := ⟨_, rfl⟩
 have lM : M ≤ 254 * 254 := by rw [hM]; exact Nat.mul_le_mul (by omega) (by omega)
 have hMi : (B : Int) * C0 = (M : Int) := by rw [hM]; exact (Int.natCast_mul _ _).symm
 rw [← hB, ← hM] at hX
 rw [hX] at hY ⊢
 rw [hY]
 obtain ⟨la1, la2⟩ := la
 obtain ⟨lb1, lb2⟩ := lb
 have ha' := Hi ha; have hb' := Hi hb; have hz' := Hi hz
 clear ha hb hz hC0 hC1 hX hY hB hM
 have hh := Hi (h0b hr.out hc k (by omega))
 have h00 : Hid (a0b (w.alloc (.cells #[.int .u8 0, .int .u8 0] 5)) (.slice (some ⟨w.heap.size, 0, none⟩) 2 2) [0, 0]) := Hi (OwnB.new w w (Nat.le_refl _) [0, 0] (n := 2) rfl (by unfold maxLen; omega)).bytes
 have ht0 := (b01 hr.out hc (k + 2) (by omega)).keep ((a03.refl _ _).alloc (.cells #[.int .u8 0, .int .u8 0] 5))
 obtain ⟨tv, htv⟩ : ∃ tv, tv = Value.slice (if c = k + 2 then some ⟨g, o, none⟩ else some ⟨g, o + (k + 2), none⟩) (l.length - (k + 2)) (c - (k + 2)) := ⟨_, rfl⟩
 rw [← htv] at ht0
 have ht2 := Hi ht0; clear ht0
 have hwalk : Calls Try.prog 80 #[.int .i64 b0, .int .i64 b1, tv] (w.alloc (.cells #[.int .u8 0, .int .u8 0] 5)) fun e w' => e = .returned (.tuple #[.int .i64 C0, .int .i64 C1]) ∧ w.alloc (.cells #[.int .u8 0, .int .u8 0] 5) = w' :=
  i05 b0 b1 C0 C1 lb1 lb2 tv (l.drop (k + 2)) (by simp; omega) _ ht2 hz'
 by_cases hck : c = k + 2
 ·subst hck
  rw [if_pos rfl, Nat.sub_self, show l.length - (k + 2) = 0 by omega] at htv
  subst htv
  have hw' := Hi hwalk
  clear hwalk ht2 hz'
  go_enter Try.func73, Try.ntmps73
  go_wp2_with fail
  refine (i05 0 0 a0 a1 (by omega) (by omega) _ (l.take k) (by simp; omega) _ hh ha').mono ?_
  rintro e w1 ⟨rfl, rfl⟩
  go_wp2_with fail
  refine (i05 a0 a1 b0 b1 la1 la2 _ [0, 0] (by simp) _ h00 hb').mono ?_
  rintro e w1 ⟨rfl, rfl⟩
  go_wp2_with fail
  refine hw'.out.mono ?_
  rintro e w1 ⟨rfl, rfl⟩
  clear hw' h00 hh ha' hb' hr
  go_wp2_with fail
  go_ret2
  refine ⟨l0o ?_ ?_, (a03.refl _ _).alloc _⟩
  ·omega
  ·omega
 ·rw [if_neg hck] at htv
  subst htv
  have hw' := Hi hwalk
  clear hwalk ht2 hz'
  go_enter Try.func73, Try.ntmps73
  go_wp2_with fail
  refine (i05 0 0 a0 a1 (by omega) (by omega) _ (l.take k) (by simp; omega) _ hh ha').mono ?_
  rintro e w1 ⟨rfl, rfl⟩
  go_wp2_with fail
  refine (i05 a0 a1 b0 b1 la1 la2 _ [0, 0] (by simp) _ h00 hb').mono ?_
  rintro e w1 ⟨rfl, rfl⟩
  go_wp2_with fail
  refine hw'.out.mono ?_
  rintro e w1 ⟨rfl, rfl⟩
  clear hw' h00 hh ha' hb' hr
  go_wp2_with fail
  go_ret2
  refine ⟨l0o ?_ ?_, (a03.refl _ _).alloc _⟩
  ·omega
  ·omega
end Go.Proofs.Ytmggbljkehclpaa
