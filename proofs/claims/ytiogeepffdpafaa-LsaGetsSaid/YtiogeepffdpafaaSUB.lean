/- sums.grow, Right, Internet, walked. -/
import Derived.Test.YtiogeepffdpafaaSUA
namespace Go.Proofs.Ytiogeepffdpafaa
open Go.RowKit

theorem ret_int {k : IntKind} {a b : Int} (h : a = b) : Ending.returned (.int k a) = .returned (.int k b) := by rw [h]
theorem ret_pair {k : IntKind} {a b c d : Int} (h : a = c) (h2 : b = d) : Ending.returned (.tuple #[.int k a, .int k b]) = .returned (.tuple #[.int k c, .int k d]) := by rw [h, h2]
theorem drop_cell {w : World} {g o : Nat} {l : List UInt8} (h : w.rangeAt g o (l.map bv)) (k : Nat) (hk : k < l.length) : w.cell? ⟨g, o + k, none⟩ = some (.int .u8 (l[k]).toNat) := h k _ (by simp [hk, bv])

theorem suGrow_any (c0 c1 : Nat) (h0 : c0 < 255) (h1 : c1 < 255) (sl : Value) (l : List UInt8) (hl : l.length ≤ 9223372036854775807) (w : World) (h : Hid (BytesAt w sl l)) :
    Calls Try.prog 98 #[.int .i64 c0, .int .i64 c1, sl] w fun e w' => e = .returned (.tuple #[.int .i64 ((fl (c0, c1) l).1 : Nat), .int .i64 ((fl (c0, c1) l).2 : Nat)]) ∧ w = w' := by
  obtain ⟨p, c, rfl, -, -, hb⟩ := h.out
  have hb' := Lib.hid hb; clear hb h
  go_enter Try.func98, Try.ntmps98
  go_wp2
  go_loop [0, 1, 12] (fun a b iv => ∃ k : Nat, k ≤ l.length ∧ a = .int .i64 ((fl (c0, c1) (l.take k)).1 : Nat) ∧ b = .int .i64 ((fl (c0, c1) (l.take k)).2 : Nat) ∧ iv = .int .i64 k) (fun _ _ iv => l.length - (intOf iv).toNat)
  case atStart => exact ⟨0, by omega, rfl, rfl, rfl⟩
  case round =>
    obtain ⟨k, hk, rfl, rfl, rfl⟩ := hrel
    by_cases hlk : k < l.length
    · obtain ⟨g, o, rfl, hr⟩ := hb'.out (by omega)
      have hc := drop_cell hr k hlk
      have hx := (l[k]).toNat_lt
      obtain ⟨q, hq⟩ : ∃ q, q = fl (c0, c1) (l.take k) := ⟨_, rfl⟩
      have hlt := fl_lt (l.take k) (c0, c1) h0 h1
      have hs : fl (c0, c1) (l.take (k + 1)) = ((q.1 + (l[k]).toNat) % 255, (q.2 + (q.1 + (l[k]).toNat) % 255) % 255) := by
        rw [List.take_succ_eq_append_getElem hlk, fl_append, ← hq]; rfl
      rw [← hq] at hlt ⊢
      obtain ⟨q1, q2⟩ := q
      obtain ⟨hl1, hl2⟩ := hlt
      simp only at hl1 hl2 hs ⊢
      have hs' := Lib.hid hs; have hq' := Lib.hid hq; clear hs hr hq
      go_wp2
      go_round
      case rel => exact ⟨k + 1, by omega, by rw [hs'.out]; go_num, by rw [hs'.out]; go_num, by go_num⟩
      case measure => simp [intOf]; omega
    · obtain rfl : k = l.length := by omega
      rw [List.take_length]
      go_wp2
      go_ret2
      exact ⟨rfl, rfl⟩
theorem suRight_any (sl : Value) (l : List UInt8) (hl : l.length ≤ 9223372036854775807) (w : World) (h : Hid (BytesAt w sl l)) :
    Calls Try.prog 62 #[sl] w fun e w' => e = .returned (.bool (rightF l)) ∧ w = w' := by
  have hf := fl_zero l
  have hr : rightF l = decide ((fl (0, 0) l).1 = 0 ∧ (fl (0, 0) l).2 = 0) := by rw [hf]; rfl
  obtain ⟨q, hq⟩ : ∃ q, q = fl (0, 0) l := ⟨_, rfl⟩
  have hG := suGrow_any 0 0 (by omega) (by omega) sl l hl w h
  rw [← hq] at hr hG
  rw [hr]
  have hG' := Lib.hid hG
  obtain ⟨q1, q2⟩ := q
  clear hf hr hq hG
  by_cases a : q1 = 0
  · by_cases b : q2 = 0
    · subst a; subst b
      go_enter Try.func62, Try.ntmps62
      go_wp2_with (go_at_call 98; refine hG'.out.mono ?_; rintro e w' ⟨rfl, rfl⟩)
      go_ret
      exact ⟨rfl, rfl⟩
    · have e1 : ((q2 : Int) == 0) = false := by rw [beq_eq_false_iff_ne]; omega
      have hz : decide (q1 = 0 ∧ q2 = 0) = false := by simp [b]
      subst a
      rw [show decide ((0, q2).1 = 0 ∧ (0, q2).2 = 0) = false from hz]
      clear hz b
      go_enter Try.func62, Try.ntmps62
      go_wp2_with (go_at_call 98; refine hG'.out.mono ?_; rintro e w' ⟨rfl, rfl⟩)
      go_ret
      exact ⟨rfl, rfl⟩
  · have e1 : ((q1 : Int) == 0) = false := by rw [beq_eq_false_iff_ne]; omega
    have hz : decide (q1 = 0 ∧ q2 = 0) = false := by simp [a]
    rw [show decide ((q1, q2).1 = 0 ∧ (q1, q2).2 = 0) = false from hz]
    clear hz a
    go_enter Try.func62, Try.ntmps62
    go_wp2_with (go_at_call 98; refine hG'.out.mono ?_; rintro e w' ⟨rfl, rfl⟩)
    go_ret
    exact ⟨rfl, rfl⟩
end Go.Proofs.Ytiogeepffdpafaa
