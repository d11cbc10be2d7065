/- sums.Fletcher, walked. -/
import Derived.Test.YtiogeepffdpafaaSUC
namespace Go.Proofs.Ytiogeepffdpafaa
open Go.RowKit

theorem suGrow_r (c0 c1 r0 r1 : Nat) (h0 : c0 < 255) (h1 : c1 < 255) (sl : Value) (l : List UInt8) (hl : l.length ≤ 9223372036854775807) (w : World) (h : Hid (BytesAt w sl l)) (hr : Hid (fl (c0, c1) l = (r0, r1))) :
    Calls Try.prog 98 #[.int .i64 c0, .int .i64 c1, sl] w fun e w' => e = .returned (.tuple #[.int .i64 r0, .int .i64 r1]) ∧ w = w' :=
  (suGrow_any c0 c1 h0 h1 sl l hl w h).mono fun e w' ⟨he, hw⟩ => ⟨by rw [he, hr.out], hw⟩
theorem bytes_tail {w : World} {g o c : Nat} {l : List UInt8} (h : w.rangeAt g o (l.map bv)) (hc : l.length ≤ c) (k : Nat) (hk : k ≤ l.length) :
    BytesAt w (.slice (if c = k then some ⟨g, o, none⟩ else some ⟨g, o + k, none⟩) (l.length - k) (c - k)) (l.drop k) := by
  by_cases e : c = k
  · rw [if_pos e]
    have hn : l.drop k = [] := List.drop_of_length_le (by omega)
    rw [hn, show l.length - k = 0 by omega]
    exact ⟨some ⟨g, o, none⟩, _, rfl, (fun h => nomatch h), Nat.zero_le _, fun h => by simp at h⟩
  · rw [if_neg e]
    have := range_part h k (l.length - k)
    rw [List.take_of_length_le (by simp)] at this
    exact BytesAt.of (by simp) (by omega) this
theorem bytes_head {w : World} {g o c : Nat} {l : List UInt8} (h : w.rangeAt g o (l.map bv)) (hc : l.length ≤ c) (k : Nat) (hk : k ≤ l.length) :
    BytesAt w (.slice (some ⟨g, o, none⟩) k c) (l.take k) := by
  have := range_part h 0 k
  exact BytesAt.of (by simp; omega) (by omega) (by simpa using this)

set_option maxRecDepth 100000 in
set_option maxHeartbeats 1000000 in
theorem suFletcher_yes (g o c : Nat) (l : List UInt8) (k : Nat) (hk : k + 2 ≤ l.length) (hl : l.length ≤ 1000000) (hc : l.length ≤ c) (w : World) (hr : Hid (w.rangeAt g o (l.map bv))) :
    Calls Try.prog 58 #[.slice (some ⟨g, o, none⟩) l.length c, .int .i64 k] w fun e w' => e = .returned (.tuple #[.int .u8 (flX (zed l k) l.length k : Nat), .int .u8 (flY (zed l k) l.length k : Nat)]) ∧ Keeps (fun _ => False) w w' := by
  obtain ⟨a0, a1, ha⟩ : ∃ a0 a1, fl (0, 0) (l.take k) = (a0, a1) := ⟨_, _, rfl⟩
  obtain ⟨b0, b1, hb⟩ : ∃ b0 b1, fl (a0, a1) [0, 0] = (b0, b1) := ⟨_, _, rfl⟩
  have hz : fl (b0, b1) (l.drop (k + 2)) = (s0 (zed l k) % 255, s1 (zed l k) % 255) := by
    rw [← fl_zero, ← zed_eq hk, fl_append, fl_append, ha, hb]
  have la := fl_lt (l.take k) (0, 0) (by decide) (by decide)
  rw [ha] at la
  have lb := fl_lt [0, 0] (a0, a1) la.1 la.2
  rw [hb] at lb
  obtain ⟨C0, hC0⟩ : ∃ C0, C0 = s0 (zed l k) % 255 := ⟨_, rfl⟩
  obtain ⟨C1, hC1⟩ : ∃ C1, C1 = s1 (zed l k) % 255 := ⟨_, rfl⟩
  have hX : flX (zed l k) l.length k = ((l.length - k - 1) % 255 * C0 + 255 - C1) % 255 := by rw [hC0, hC1]; rfl
  have hY : flY (zed l k) l.length k = (510 - C0 - flX (zed l k) l.length k) % 255 := by rw [hC0]; rfl
  have lc0 : C0 < 255 := by rw [hC0]; exact Nat.mod_lt _ (by omega)
  have lc1 : C1 < 255 := by rw [hC1]; exact Nat.mod_lt _ (by omega)
  rw [← hC0, ← hC1] at hz
  obtain ⟨B, hB⟩ : ∃ B, B = (l.length - k - 1) % 255 := ⟨_, rfl⟩
  have lB : B < 255 := by rw [hB]; exact Nat.mod_lt _ (by omega)
  have hBi : ((l.length : Int) - k - 1) % 255 = (B : Int) := by omega
  obtain ⟨M, hM⟩ : ∃ M, M = B * C0 := ⟨_, rfl⟩
  have lM : M ≤ 254 * 254 := by rw [hM]; exact Nat.mul_le_mul (by omega) (by omega)
  have hMi : (B : Int) * C0 = (M : Int) := by rw [hM]; exact (Int.natCast_mul _ _).symm
  rw [← hB, ← hM] at hX
  rw [hX] at hY ⊢
  rw [hY]
  obtain ⟨la1, la2⟩ := la
  obtain ⟨lb1, lb2⟩ := lb
  have ha' := Lib.hid ha; have hb' := Lib.hid hb; have hz' := Lib.hid hz
  clear ha hb hz hC0 hC1 hX hY hB hM
  have hh := Lib.hid (bytes_head hr.out hc k (by omega))
  have h00 : Hid (BytesAt (w.alloc (.cells #[.int .u8 0, .int .u8 0] 5)) (.slice (some ⟨w.heap.size, 0, none⟩) 2 2) [0, 0]) := Lib.hid (OwnB.new w w (Nat.le_refl _) [0, 0] (n := 2) rfl (by unfold maxLen; omega)).bytes
  have ht0 := (bytes_tail hr.out hc (k + 2) (by omega)).keep ((Keeps.refl _ _).alloc (.cells #[.int .u8 0, .int .u8 0] 5))
  obtain ⟨tv, htv⟩ : ∃ tv, tv = Value.slice (if c = k + 2 then some ⟨g, o, none⟩ else some ⟨g, o + (k + 2), none⟩) (l.length - (k + 2)) (c - (k + 2)) := ⟨_, rfl⟩
  rw [← htv] at ht0
  have ht2 := Lib.hid ht0; clear ht0
  have hwalk : Calls Try.prog 98 #[.int .i64 b0, .int .i64 b1, tv] (w.alloc (.cells #[.int .u8 0, .int .u8 0] 5)) fun e w' => e = .returned (.tuple #[.int .i64 C0, .int .i64 C1]) ∧ w.alloc (.cells #[.int .u8 0, .int .u8 0] 5) = w' :=
    suGrow_r b0 b1 C0 C1 lb1 lb2 tv (l.drop (k + 2)) (by simp; omega) _ ht2 hz'
  by_cases hck : c = k + 2
  · subst hck
    rw [if_pos rfl, Nat.sub_self, show l.length - (k + 2) = 0 by omega] at htv
    subst htv
    have hw' := Lib.hid hwalk
    clear hwalk ht2 hz'
    go_enter Try.func58, Try.ntmps58
    go_wp2_with fail
    refine (suGrow_r 0 0 a0 a1 (by omega) (by omega) _ (l.take k) (by simp; omega) _ hh ha').mono ?_
    rintro e w1 ⟨rfl, rfl⟩
    go_wp2_with fail
    refine (suGrow_r a0 a1 b0 b1 la1 la2 _ [0, 0] (by simp) _ h00 hb').mono ?_
    rintro e w1 ⟨rfl, rfl⟩
    go_wp2_with fail
    refine hw'.out.mono ?_
    rintro e w1 ⟨rfl, rfl⟩
    clear hw' h00 hh ha' hb' hr
    go_wp2_with fail
    go_ret2
    refine ⟨ret_pair ?_ ?_, (Keeps.refl _ _).alloc _⟩
    · omega
    · omega
  · rw [if_neg hck] at htv
    subst htv
    have hw' := Lib.hid hwalk
    clear hwalk ht2 hz'
    go_enter Try.func58, Try.ntmps58
    go_wp2_with fail
    refine (suGrow_r 0 0 a0 a1 (by omega) (by omega) _ (l.take k) (by simp; omega) _ hh ha').mono ?_
    rintro e w1 ⟨rfl, rfl⟩
    go_wp2_with fail
    refine (suGrow_r a0 a1 b0 b1 la1 la2 _ [0, 0] (by simp) _ h00 hb').mono ?_
    rintro e w1 ⟨rfl, rfl⟩
    go_wp2_with fail
    refine hw'.out.mono ?_
    rintro e w1 ⟨rfl, rfl⟩
    clear hw' h00 hh ha' hb' hr
    go_wp2_with fail
    go_ret2
    refine ⟨ret_pair ?_ ?_, (Keeps.refl _ _).alloc _⟩
    · omega
    · omega
set_option maxRecDepth 100000 in
theorem suFletcher_no (sl : Value) (l : List UInt8) (k : Int) (hk : k < 0 ∨ (l.length : Int) - 2 < k) (hk1 : -9223372036854775808 ≤ k) (hk2 : k ≤ 9223372036854775807) (hl : l.length ≤ 1000000) (w : World) (h : Hid (BytesAt w sl l)) :
    Calls Try.prog 58 #[sl, .int .i64 k] w fun e w' => e = .returned (.tuple #[.int .u8 0, .int .u8 0]) ∧ w = w' := by
  obtain ⟨p, c, rfl, -, -, -⟩ := h.out
  clear h
  rcases hk with hk | hk
  · go_enter Try.func58, Try.ntmps58
    go_wp2
    go_ret2
    exact ⟨rfl, rfl⟩
  · by_cases h0 : k < 0
    · go_enter Try.func58, Try.ntmps58
      go_wp2
      go_ret2
      exact ⟨rfl, rfl⟩
    · go_enter Try.func58, Try.ntmps58
      go_wp2
      go_ret2
      exact ⟨rfl, rfl⟩
end Go.Proofs.Ytiogeepffdpafaa
