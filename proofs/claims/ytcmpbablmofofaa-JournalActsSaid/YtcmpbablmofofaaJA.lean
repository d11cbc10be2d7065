/- The journal's sums: grow, Crc, Takes. -/
import Derived.Test.YtcmpbablmofofaaK
namespace Go.Proofs.Ytcmpbablmofofaa
open Go.RowKit

def poly : Nat := 3988292384
def crcBit (n : Nat) : Nat := if n % 2 = 1 then (n / 2) ^^^ poly else n / 2
def crcBits : Nat → Nat → Nat
  | 0, n => n
  | k + 1, n => crcBit (crcBits k n)
def crcByte (n : Nat) (c : UInt8) : Nat := crcBits 8 (n ^^^ c.toNat)
def crcGrow (n : Nat) (l : List UInt8) : Nat := l.foldl crcByte n
def ones : Nat := 4294967295
def crc (l : List UInt8) : Nat := ones ^^^ crcGrow ones l

theorem poly_lt : poly < 2 ^ 32 := by unfold poly; decide
theorem xor_lt32 {a b : Nat} (ha : a < 4294967296) (hb : b < 4294967296) : a ^^^ b < 4294967296 := Nat.xor_lt_two_pow (n := 32) ha hb
theorem crcBit_lt {n : Nat} (h : n < 4294967296) : crcBit n < 4294967296 := by
  unfold crcBit; split
  · exact xor_lt32 (by omega) poly_lt
  · omega
theorem crcBits_lt (k : Nat) {n : Nat} (h : n < 4294967296) : crcBits k n < 4294967296 := by
  induction k with
  | zero => exact h
  | succ k ih => exact crcBit_lt ih
theorem crcByte_lt {n : Nat} (h : n < 4294967296) (c : UInt8) : crcByte n c < 4294967296 := crcBits_lt 8 (xor_lt32 h (by have := c.toNat_lt; omega))
theorem crcGrow_lt (l : List UInt8) : ∀ {n : Nat}, n < 4294967296 → crcGrow n l < 4294967296 := by
  induction l with
  | nil => intro n h; exact h
  | cons c l ih => intro n h; exact ih (crcByte_lt h c)
theorem crcGrow_append (n : Nat) (l m : List UInt8) : crcGrow n (l ++ m) = crcGrow (crcGrow n l) m := List.foldl_append ..

theorem and_one (s : Nat) (h : s < 4294967296) : bits .and .u32 (s : Int) 1 = ((s % 2 : Nat) : Int) := by
  have := u32_and_nat s 1 h (by omega)
  rw [Nat.and_one_is_mod] at this
  exact this
theorem xor_poly (s : Nat) (h : s < 4294967296) : bits .xor .u32 ((s : Int) / 2) 3988292384 = (((s / 2) ^^^ poly : Nat) : Int) := by
  have := u32_xor_nat (s / 2) poly (by omega) poly_lt
  rw [← this]; rfl
theorem xor_byte (s : Nat) (h : s < 4294967296) (c : UInt8) : bits .xor .u32 (s : Int) ((c.toNat : Int) % 4294967296) = ((s ^^^ c.toNat : Nat) : Int) := by
  have hc := c.toNat_lt
  have := u32_xor_nat s c.toNat h (by omega)
  rw [← this]; congr 1; omega

set_option maxHeartbeats 1000000 in
theorem grow_any (g o c : Nat) (n : Nat) (hn : n < 4294967296) (l : List UInt8) (hl : l.length ≤ 9223372036854775807) (w : World) (hr : Hid (w.rangeAt g o (l.map bv))) :
    Calls Try.prog 66 #[.int .u32 n, .slice (some ⟨g, o, none⟩) l.length c] w fun e w' => e = .returned (.int .u32 (crcGrow n l)) ∧ w = w' := by
  go_enter Try.func66, Try.ntmps66
  go_wp2
  go_loop [0, 10] (fun s iv => ∃ k : Nat, k ≤ l.length ∧ s = .int .u32 (crcGrow n (l.take k) : Nat) ∧ iv = .int .i64 k) (fun _ iv => l.length - (intOf iv).toNat)
  case atStart => exact ⟨0, by omega, by simp [crcGrow], rfl⟩
  case round =>
    obtain ⟨k, hk, rfl, rfl⟩ := hrel
    by_cases hlk : k < l.length
    · have hm := crcGrow_lt (l.take k) hn
      have hc : w.cell? ⟨g, o + k, none⟩ = some (.int .u8 (l[k]).toNat) := hr.out k _ (by simp [hlk, bv])
      have hs : crcGrow n (l.take (k + 1)) = crcByte (crcGrow n (l.take k)) l[k] := by
        rw [List.take_succ_eq_append_getElem hlk, crcGrow_append]; rfl
      have hs' := Lib.hid hs; clear hs
      obtain ⟨m, hmm⟩ : ∃ m, m = crcGrow n (l.take k) := ⟨_, rfl⟩
      rw [← hmm] at hm
      rw [← hmm]
      have hmm' := Lib.hid hmm; clear hmm
      obtain ⟨x, hx⟩ : ∃ x, x = l[k] := ⟨_, rfl⟩
      rw [← hx] at hc hs'
      have hx' := Lib.hid hx; clear hx
      have hxb := xor_byte m hm x
      have hm1 : m ^^^ x.toNat < 4294967296 := xor_lt32 hm (by have := x.toNat_lt; omega)
      obtain ⟨m1, hm1e⟩ : ∃ m1, m1 = m ^^^ x.toNat := ⟨_, rfl⟩
      rw [← hm1e] at hxb hm1
      have hm1e' := Lib.hid hm1e; clear hm1e
      go_wp2
      go_loop [0, 18] (fun s iv => ∃ j : Nat, j ≤ 8 ∧ s = .int .u32 (crcBits j m1 : Nat) ∧ iv = .int .i64 j) (fun _ iv => 8 - (intOf iv).toNat)
      case atStart => exact ⟨0, by omega, rfl, rfl⟩
      case round =>
        obtain ⟨j, hj, rfl, rfl⟩ := hrel
        by_cases hj8 : j < 8
        · have hq := crcBits_lt j hm1
          have hnext : crcBits (j + 1) m1 = crcBit (crcBits j m1) := rfl
          have hnext' := Lib.hid hnext; clear hnext
          obtain ⟨q, hqe⟩ : ∃ q, q = crcBits j m1 := ⟨_, rfl⟩
          rw [← hqe] at hq hnext' ⊢
          have hqe' := Lib.hid hqe; clear hqe
          have ha := and_one q hq
          by_cases hodd : q % 2 = 1
          · have h1 : (bits .and .u32 (q : Int) 1 == 1) = true := by rw [ha, hodd]; rfl
            have hxp := xor_poly q hq
            have hodd' := Lib.hid hodd; clear hodd ha
            go_wp2
            go_round
            case rel => exact ⟨j + 1, by omega, by rw [hnext'.out]; unfold crcBit; rw [if_pos hodd'.out], by go_num⟩
            case measure => simp [intOf]; omega
          · have h1 : (bits .and .u32 (q : Int) 1 == 1) = false := by rw [ha, show q % 2 = 0 by omega]; rfl
            have hodd' := Lib.hid hodd; clear hodd ha
            go_wp2
            go_round
            case rel => exact ⟨j + 1, by omega, by rw [hnext'.out]; unfold crcBit; rw [if_neg hodd'.out]; go_num, by go_num⟩
            case measure => simp [intOf]; omega
        · obtain rfl : j = 8 := by omega
          go_wp2
          go_round
          case rel => exact ⟨k + 1, by omega, by rw [hs'.out]; unfold crcByte; rw [← hmm'.out, ← hm1e'.out], by go_num⟩
          case measure => simp [intOf]; omega
    · obtain rfl : k = l.length := by omega
      go_wp2
      go_ret
      exact ⟨by simp, rfl⟩
end Go.Proofs.Ytcmpbablmofofaa
