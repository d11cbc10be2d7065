/- Crc, Takes, and the document's own. -/
import Derived.Test.YtcmpbablmofofaaJA
namespace Go.Proofs.Ytcmpbablmofofaa
open Go.RowKit

theorem grow_nil (n : Nat) (p : Option Addr) (c : Nat) (w : World) : Calls Try.prog 66 #[.int .u32 n, .slice p 0 c] w fun e w' => e = .returned (.int .u32 n) ∧ w = w' := by
  go_enter Try.func66, Try.ntmps66
  go_wp2
  go_loop [0, 10] (fun s iv => s = .int .u32 n ∧ iv = .int .i64 0) (fun _ _ => 0)
  case atStart => exact ⟨rfl, rfl⟩
  case round =>
    obtain ⟨rfl, rfl⟩ := hrel
    go_wp2
    go_ret
    exact ⟨rfl, rfl⟩
theorem growB (n : Nat) (hn : n < 4294967296) (sl : Value) (l : List UInt8) (hl : l.length ≤ 9223372036854775807) (w : World) (h : BytesAt w sl l) :
    Calls Try.prog 66 #[.int .u32 n, sl] w fun e w' => e = .returned (.int .u32 (crcGrow n l)) ∧ w = w' := by
  obtain ⟨p, c, rfl, -, -, h⟩ := h
  cases l with
  | nil => exact grow_nil n p c w
  | cons x l =>
    obtain ⟨b, o, rfl, h'⟩ := h (by simp)
    exact grow_any b o c n hn _ hl w h'

theorem crc_any (sl : Value) (l : List UInt8) (hl : l.length ≤ 9223372036854775807) (w : World) (h : Hid (BytesAt w sl l)) :
    Calls Try.prog 40 #[sl] w fun e w' => e = .returned (.int .u32 (crc l)) ∧ w = w' := by
  have hx : bits .xor .u32 (4294967295 : Int) (crcGrow ones l : Nat) = ((crc l : Nat) : Int) := u32_xor_nat ones (crcGrow ones l) (by unfold ones; omega) (crcGrow_lt l (by unfold ones; omega))
  have h1 : IntKind.u32.signed = false := rfl
  have h2 : IntKind.u32.max = 4294967295 := rfl
  go_enter Try.func40, Try.ntmps40
  go_wp2_with (go_at_call 66; refine (growB ones (by unfold ones; omega) _ l hl _ h.out).mono ?_; rintro e w' ⟨rfl, rfl⟩)
  go_ret
  exact ⟨rfl, rfl⟩

def takes (n : Nat) : Nat := (n + 82) / 64
theorem takes_any (n : Nat) (hn : n ≤ 1000000) (w : World) : Calls Try.prog 42 #[.int .i64 n] w fun e w' => e = .returned (.int .i64 (takes n)) ∧ w = w' := by
  by_cases h : 0 < n
  · go_enter Try.func42, Try.ntmps42
    go_wp2
    go_ret
    refine ⟨?_, rfl⟩
    show Ending.returned (.int .i64 ((n : Int) / 64 + ((n : Int) % 64 + 19 + 64 - 1) / 64)) = _
    rw [show (n : Int) / 64 + ((n : Int) % 64 + 19 + 64 - 1) / 64 = ((takes n : Nat) : Int) by unfold takes; omega]
  · obtain rfl : n = 0 := by omega
    go_enter Try.func42, Try.ntmps42
    go_wp2
    go_ret
    exact ⟨rfl, rfl⟩
theorem rtakes_any (n : Nat) (hn : n ≤ 1000000) (w : World) : Calls Try.prog 43 #[.int .i64 n] w fun e w' => e = .returned (.int .i64 (takes n)) ∧ w = w' := by
  go_enter Try.func43, Try.ntmps43
  go_wp2
  go_loop [3] (fun kv => ∃ k : Nat, k ≤ takes n ∧ kv = .int .i64 k) (fun kv => takes n - (intOf kv).toNat)
  case atStart => exact ⟨0, by omega, rfl⟩
  case round =>
    obtain ⟨k, hk, rfl⟩ := hrel
    unfold takes at hk
    by_cases hlt : 64 * k < n + 19
    · go_wp2
      go_round
      case rel => exact ⟨k + 1, by unfold takes; omega, by go_num⟩
      case measure => simp [intOf, takes]; omega
    · go_wp2
      go_ret
      exact ⟨by rw [show k = takes n from by unfold takes; omega]; rfl, rfl⟩

def rbit (n b : Nat) : Nat := if n % 2 = b then n / 2 else (n / 2) ^^^ poly
theorem rbit_lt {n : Nat} (b : Nat) (h : n < 4294967296) : rbit n b < 4294967296 := by
  unfold rbit; split
  · omega
  · exact xor_lt32 (by omega) poly_lt
def bitOf (l : List UInt8) (i : Nat) : Nat := (l.getD (i / 8) 0).toNat / 2 ^ (i % 8) % 2
def rst (l : List UInt8) : Nat → Nat
  | 0 => ones
  | i + 1 => rbit (rst l i) (bitOf l i)
theorem rst_lt (l : List UInt8) (i : Nat) : rst l i < 4294967296 := by
  induction i with
  | zero => show ones < _; unfold ones; omega
  | succ i ih => exact rbit_lt _ ih
theorem xor_mod2 (a b : Nat) : (a ^^^ b) % 2 = (a % 2 + b % 2) % 2 := by
  have := Nat.xor_mod_two_eq_one (a := a) (b := b)
  omega
theorem crcBit_xor (m d : Nat) : crcBit (m ^^^ d) = rbit m (d % 2) ^^^ (d / 2) := by
  have h2 : (m ^^^ d) / 2 = m / 2 ^^^ d / 2 := Nat.xor_div_two
  have hm := xor_mod2 m d
  unfold crcBit rbit
  rw [h2]
  by_cases h : m % 2 = d % 2
  · rw [if_neg (by omega), if_pos h]
  · rw [if_pos (by omega), if_neg h, Nat.xor_assoc, Nat.xor_assoc, Nat.xor_comm poly]
theorem rst_bits (l : List UInt8) (q j : Nat) (hj : j ≤ 8) : rst l (8 * q + j) = crcBits j (rst l (8 * q) ^^^ (l.getD q 0).toNat) ^^^ ((l.getD q 0).toNat / 2 ^ j) := by
  induction j with
  | zero => show rst l (8 * q) = _; simp [crcBits, Nat.xor_assoc]
  | succ j ih =>
    have e1 : (8 * q + j) / 8 = q := by omega
    have e2 : (8 * q + j) % 8 = j := by omega
    show rbit (rst l (8 * q + j)) (bitOf l (8 * q + j)) = _
    rw [ih (by omega)]
    unfold bitOf
    rw [e1, e2]
    generalize (l.getD q 0).toNat = c
    have h := crcBit_xor (crcBits j (rst l (8 * q) ^^^ c) ^^^ c / 2 ^ j) (c / 2 ^ j)
    rw [Nat.xor_assoc, Nat.xor_self, Nat.xor_zero] at h
    show _ = crcBit (crcBits j (rst l (8 * q) ^^^ c)) ^^^ _
    rw [h, Nat.div_div_eq_div_mul, ← Nat.pow_succ, Nat.xor_assoc, Nat.xor_self, Nat.xor_zero]
theorem rst_bytes (l : List UInt8) (q : Nat) (hq : q ≤ l.length) : rst l (8 * q) = crcGrow ones (l.take q) := by
  induction q with
  | zero => simp [crcGrow]; rfl
  | succ q ih =>
    have h := rst_bits l q 8 (by omega)
    rw [show 8 * (q + 1) = 8 * q + 8 by omega, h, ih (by omega), List.take_succ_eq_append_getElem (by omega), crcGrow_append]
    have hc : l.getD q 0 = l[q] := by rw [List.getD_eq_getElem?_getD, List.getElem?_eq_getElem (by omega)]; rfl
    rw [hc]
    have := (l[q]).toNat_lt
    rw [show (l[q]).toNat / 2 ^ 8 = 0 by omega, Nat.xor_zero]
    rfl
theorem rst_all (l : List UInt8) : rst l (8 * l.length) ^^^ ones = crc l := by
  rw [rst_bytes l _ (Nat.le_refl _), List.take_length, Nat.xor_comm]; rfl

theorem rcrc_any (sl : Value) (l : List UInt8) (hl : l.length ≤ 1000000) (w : World) (h : Hid (BytesAt w sl l)) :
    Calls Try.prog 41 #[sl] w fun e w' => e = .returned (.int .u32 (crc l)) ∧ w = w' := by
  obtain ⟨p, c, rfl, -, -, hb⟩ := h.out
  have hb' := Lib.hid hb; clear hb h
  go_enter Try.func41, Try.ntmps41
  go_wp2
  go_loop [3, 4] (fun s iv => ∃ i : Nat, i ≤ 8 * l.length ∧ s = .int .u32 (rst l i : Nat) ∧ iv = .int .i64 i) (fun _ iv => 8 * l.length - (intOf iv).toNat)
  case atStart => exact ⟨0, by omega, rfl, rfl⟩
  case round =>
    obtain ⟨i, hi, rfl, rfl⟩ := hrel
    by_cases hlt : i < 8 * l.length
    · obtain ⟨g, o, rfl, hr⟩ := hb'.out (by omega)
      have hc : w.cell? ⟨g, o + i / 8, none⟩ = some (.int .u8 (l[i / 8]'(by omega)).toNat) := hr (i / 8) _ (by simp [show i / 8 < l.length by omega, bv])
      have hm := rst_lt l i
      have hnext : rst l (i + 1) = rbit (rst l i) (bitOf l i) := rfl
      have hnext' := Lib.hid hnext; clear hnext
      obtain ⟨m, hme⟩ : ∃ m, m = rst l i := ⟨_, rfl⟩
      rw [← hme] at hm hnext' ⊢
      have hme' := Lib.hid hme; clear hme hr
      have hb1 : bits .and .u32 (((l[i / 8]'(by omega)).toNat : Int) % 4294967296 / 2 ^ (i % 8)) 1 = ((bitOf l i : Nat) : Int) := by
        have hx := (l[i / 8]'(by omega)).toNat_lt
        have e1 : l.getD (i / 8) 0 = l[i / 8]'(by omega) := by rw [List.getD_eq_getElem?_getD, List.getElem?_eq_getElem (by omega)]; rfl
        unfold bitOf
        rw [e1]
        generalize (l[i / 8]'(by omega)).toNat = x at hx
        have e2 : x / 2 ^ (i % 8) ≤ x := Nat.div_le_self ..
        rw [← and_one (x / 2 ^ (i % 8)) (by omega), show ((x : Nat) : Int) % 4294967296 = x by omega, Int.natCast_ediv, Int.natCast_pow]
        rfl
      have hm1 := and_one m hm
      have hb2 : bitOf l i < 2 := Nat.mod_lt _ (by omega)
      have hxp := xor_poly m hm
      by_cases hv : m % 2 = bitOf l i
      · have hcmp : (bits .and .u32 (m : Int) 1 != bits .and .u32 (((l[i / 8]'(by omega)).toNat : Int) % 4294967296 / 2 ^ (i % 8)) 1) = false := by rw [hb1, hm1, hv]; simp
        clear hb1 hm1
        have hv' := Lib.hid hv; clear hv
        go_wp2
        exact ⟨⟨i + 1, by omega, by rw [hnext'.out]; unfold rbit; rw [if_pos hv'.out]; go_num, by go_num⟩, by simp [intOf]; omega⟩
      · have hcmp : (bits .and .u32 (m : Int) 1 != bits .and .u32 (((l[i / 8]'(by omega)).toNat : Int) % 4294967296 / 2 ^ (i % 8)) 1) = true := by rw [hb1, hm1]; simp; omega
        clear hb1 hm1
        have hv' := Lib.hid hv; clear hv
        go_wp2
        exact ⟨⟨i + 1, by omega, by rw [hnext'.out]; unfold rbit; rw [if_neg hv'.out], by go_num⟩, by simp [intOf]; omega⟩
    · obtain rfl : i = 8 * l.length := by omega
      have hx : bits .xor .u32 (rst l (8 * l.length) : Nat) (4294967295 : Int) = ((crc l : Nat) : Int) := by
        rw [← rst_all]; exact u32_xor_nat _ ones (rst_lt _ _) (by unfold ones; omega)
      go_wp2
      go_ret
      exact ⟨rfl, rfl⟩
end Go.Proofs.Ytcmpbablmofofaa