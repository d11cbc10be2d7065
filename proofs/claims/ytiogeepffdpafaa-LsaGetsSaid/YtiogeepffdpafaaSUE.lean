/- The document's Internet, Right, Fletcher, walked. -/
import Derived.Test.YtiogeepffdpafaaSUD
namespace Go.Proofs.Ytiogeepffdpafaa
open Go.RowKit

theorem cnorm_next (l : List UInt8) (k : Nat) (h : k < l.length) (n : Nat) (hn : n = cnorm (isum true (l.take k))) (x : Nat) (hx : x = if k % 2 = 0 then l[k].toNat * 256 else l[k].toNat) :
    cnorm (isum true (l.take (k + 1))) = if n + x > 65535 then n + x - 65535 else n + x := by
  have h1 : (l.take k).length = k := by simp; omega
  rw [List.take_succ_eq_append_getElem h, isum_snoc, h1]
  have e : (if (if par k = true then true else !true) = true then l[k].toNat * 256 else l[k].toNat) = x := by
    rw [hx]; unfold par
    by_cases hk : k % 2 = 0 <;> simp [hk]
  rw [e]
  have hc := cnorm_le (isum true (l.take k))
  have hb := (l[k]).toNat_lt
  have hxl : x ≤ 65280 := by rw [hx]; split <;> omega
  rw [← cnorm_add, ← hn]
  rw [← hn] at hc
  unfold cnorm; split <;> split <;> omega

set_option maxRecDepth 100000 in
set_option maxHeartbeats 1000000 in
theorem r9Internet_any (sl : Value) (l : List UInt8) (hl : l.length ≤ 1000000) (w : World) (h : Hid (BytesAt w sl l)) :
    Calls Try.prog 83 #[sl] w fun e w' => e = .returned (.int .u16 (inet l : Nat)) ∧ w = w' := by
  obtain ⟨p, c, rfl, -, -, hb⟩ := h.out
  have hb' := Lib.hid hb; clear hb h
  go_enter Try.func83, Try.ntmps83
  go_wp2
  go_loop [3, 4] (fun nv iv => ∃ k : Nat, k ≤ l.length ∧ nv = .int .i64 (cnorm (isum true (l.take k)) : Nat) ∧ iv = .int .i64 k) (fun _ iv => l.length - (intOf iv).toNat)
  case atStart => exact ⟨0, by omega, by simp [isum, cnorm], rfl⟩
  case round =>
    obtain ⟨k, hk, rfl, rfl⟩ := hrel
    have hc := cnorm_le (isum true (l.take k))
    obtain ⟨n, hn⟩ : ∃ n, n = cnorm (isum true (l.take k)) := ⟨_, rfl⟩
    by_cases hlk : k < l.length
    · obtain ⟨g, o, rfl, hr⟩ := hb'.out (by omega)
      have hcell := drop_cell hr k hlk
      have hx := (l[k]).toNat_lt
      have hnx := cnorm_next l k hlk n hn
      rw [← hn] at hc ⊢
      have hn' := Lib.hid hn
      have hnx' := Lib.hid hnx
      clear hn hnx hr
      by_cases he : k % 2 = 0
      · have hev : ((k : Int) % 2 == 0) = true := by rw [beq_iff_eq]; omega
        have hq := Lib.hid (hnx'.out (l[k].toNat * 256) (by rw [if_pos he]))
        have he' := Lib.hid he; clear he
        by_cases hbig : n + l[k].toNat * 256 > 65535
        · have hbig' : (65535 : Int) < (n : Int) + (l[k].toNat : Int) * 256 := by omega
          go_wp2
          go_round
          case rel => exact ⟨k + 1, by omega, by rw [hq.out, if_pos hbig]; go_num, by go_num⟩
          case measure => simp [intOf]; omega
        · have hbig' : ¬ (65535 : Int) < (n : Int) + (l[k].toNat : Int) * 256 := by omega
          go_wp2
          go_round
          case rel => exact ⟨k + 1, by omega, by rw [hq.out, if_neg hbig]; go_num, by go_num⟩
          case measure => simp [intOf]; omega
      · have hev : ((k : Int) % 2 == 0) = false := by rw [beq_eq_false_iff_ne]; omega
        have hq := Lib.hid (hnx'.out (l[k].toNat) (by rw [if_neg he]))
        have he' := Lib.hid he; clear he
        by_cases hbig : n + l[k].toNat > 65535
        · have hbig' : (65535 : Int) < (n : Int) + (l[k].toNat : Int) := by omega
          go_wp2
          go_round
          case rel => exact ⟨k + 1, by omega, by rw [hq.out, if_pos hbig]; go_num, by go_num⟩
          case measure => simp [intOf]; omega
        · have hbig' : ¬ (65535 : Int) < (n : Int) + (l[k].toNat : Int) := by omega
          go_wp2
          go_round
          case rel => exact ⟨k + 1, by omega, by rw [hq.out, if_neg hbig]; go_num, by go_num⟩
          case measure => simp [intOf]; omega
    · obtain rfl : k = l.length := by omega
      rw [List.take_length] at hn hc ⊢
      have hin : inet l = 65535 - n := by rw [hn]; rfl
      rw [← hn] at hc ⊢
      have hin' := Lib.hid hin
      clear hn hin
      go_wp2
      go_ret
      exact ⟨ret_int (by rw [hin'.out]; omega), rfl⟩

theorem r9Right_any (sl : Value) (l : List UInt8) (hl : l.length ≤ 9223372036854775807) (w : World) (h : Hid (BytesAt w sl l)) :
    Calls Try.prog 69 #[sl] w fun e w' => e = .returned (.bool (rightF l)) ∧ w = w' := by
  obtain ⟨p, c, rfl, -, -, hb⟩ := h.out
  have hb' := Lib.hid hb; clear hb h
  go_enter Try.func69, Try.ntmps69
  go_wp2
  go_loop [3, 4, 5] (fun a b iv => ∃ k : Nat, k ≤ l.length ∧ a = .int .i64 ((fl (0, 0) (l.take k)).1 : Nat) ∧ b = .int .i64 ((fl (0, 0) (l.take k)).2 : Nat) ∧ iv = .int .i64 k) (fun _ _ iv => l.length - (intOf iv).toNat)
  case atStart => exact ⟨0, by omega, rfl, rfl, rfl⟩
  case round =>
    obtain ⟨k, hk, rfl, rfl, rfl⟩ := hrel
    by_cases hlk : k < l.length
    · obtain ⟨g, o, rfl, hr⟩ := hb'.out (by omega)
      have hc := drop_cell hr k hlk
      have hx := (l[k]).toNat_lt
      obtain ⟨q, hq⟩ : ∃ q, q = fl (0, 0) (l.take k) := ⟨_, rfl⟩
      have hlt := fl_lt (l.take k) (0, 0) (by decide) (by decide)
      have hs : fl (0, 0) (l.take (k + 1)) = ((q.1 + (l[k]).toNat) % 255, (q.2 + (q.1 + (l[k]).toNat) % 255) % 255) := by
        rw [List.take_succ_eq_append_getElem hlk, fl_append, ← hq]; rfl
      rw [← hq] at hlt ⊢
      obtain ⟨q1, q2⟩ := q
      obtain ⟨hl1, hl2⟩ := hlt
      simp only at hl1 hl2 hs ⊢
      have hs' := Lib.hid hs; have hq' := Lib.hid hq; clear hs hr hq
      go_wp2
      go_round
      case rel => exact ⟨k + 1, by omega, by rw [hs'.out]; go_num, by rw [hs'.out]; go_num, by go_num⟩
      case measure => simp [intOf]; omega
    · obtain rfl : k = l.length := by omega
      rw [List.take_length]
      have hr : rightF l = decide ((fl (0, 0) l).1 = 0 ∧ (fl (0, 0) l).2 = 0) := by rw [fl_zero]; rfl
      obtain ⟨q, hq⟩ : ∃ q, q = fl (0, 0) l := ⟨_, rfl⟩
      rw [← hq] at hr ⊢
      have hr' := Lib.hid hr
      clear hq hr
      obtain ⟨q1, q2⟩ := q
      simp only at hr' ⊢
      by_cases a : q1 = 0
      · by_cases b : q2 = 0
        · subst a; subst b
          go_wp2
          go_ret
          exact ⟨by rw [hr'.out]; rfl, rfl⟩
        · have e1 : ((q2 : Int) == 0) = false := by rw [beq_eq_false_iff_ne]; omega
          subst a
          have hz : Hid (rightF l = false) := Lib.hid (by rw [hr'.out]; simp [b])
          clear b
          go_wp2
          go_ret
          exact ⟨by rw [hz.out]; rfl, rfl⟩
      · have e1 : ((q1 : Int) == 0) = false := by rw [beq_eq_false_iff_ne]; omega
        have hz : Hid (rightF l = false) := Lib.hid (by rw [hr'.out]; simp [a])
        clear a
        go_wp2
        go_ret
        exact ⟨by rw [hz.out]; rfl, rfl⟩
end Go.Proofs.Ytiogeepffdpafaa
