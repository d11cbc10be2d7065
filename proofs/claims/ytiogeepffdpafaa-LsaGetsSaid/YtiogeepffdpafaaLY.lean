/- The document's Right of an Lsa, walked (gen_ly.py writes this). -/
import Derived.Test.YtiogeepffdpafaaLW
namespace Go.Proofs.Ytiogeepffdpafaa
open Go.RowKit

theorem zero_beq (n : Nat) : ((n : Int) == 0) = decide (n = 0) := by cases n with
  | zero => rfl
  | succ n => rw [beq_eq_false_iff_ne.2 (by omega), decide_eq_false (by omega)]
set_option maxRecDepth 100000 in
set_option maxHeartbeats 4000000 in
theorem r10Right_any (age type seq cost : Int) (id adv mask : Nat) (links : List LinkD) (routers : List Nat) (p5 p7 : Option Addr) (c5 c7 : Nat) (z : Bool) (w : World)
    (hl : Hid (LinksAt w (.slice p5 links.length c5) links)) (hll : links.length ≤ 9223372036854775807) (hrl : routers.length ≤ 9223372036854775807) (hz : Hid (canB ⟨age, type, id, adv, seq, links, mask, routers, cost⟩ = z)) :
    Calls Try.prog 27 #[.agg #[.int .i64 age, .int .i64 type, .int .u32 id, .int .u32 adv, .int .i64 seq, .slice p5 links.length c5, .int .u32 mask, .slice p7 routers.length c7, .int .i64 cost]] w (fun e w' => e = .returned (.bool z) ∧ Keeps (fun _ => False) w w') := by
  have hkw : Hid (Keeps (fun _ => False) w (w.alloc (.cells #[.int .i64 age, .int .i64 type, .int .u32 id, .int .u32 adv, .int .i64 seq, .slice p5 links.length c5, .int .u32 mask, .slice p7 routers.length c7, .int .i64 cost] 28))) := Lib.hid ((Keeps.refl _ _).alloc _)
  have hL := Lib.hid (hl.out.keep hkw.out)
  have hz0 := hz.out
  clear hz hl
  unfold canB at hz0
  simp only at hz0
  rcases (show age < 0 ∨ (¬ age < 0 ∧ age > 3600) ∨ (¬ age < 0 ∧ ¬ age > 3600 ∧ seq < -2147483647) ∨ (¬ age < 0 ∧ ¬ age > 3600 ∧ ¬ seq < -2147483647 ∧ seq > 2147483647) ∨ (¬ age < 0 ∧ ¬ age > 3600 ∧ ¬ seq < -2147483647 ∧ ¬ seq > 2147483647) by omega) with h1 | ⟨h1, h2⟩ | ⟨h1, h2, h3⟩ | ⟨h1, h2, h3, h4⟩ | ⟨h1, h2, h3, h4⟩
  · obtain rfl : false = z := by
      rw [← hz0, show withinB age 0 3600 = false from by unfold withinB; rw [decide_eq_false_iff_not]; omega]
      simp
    clear hz0
    go_enter Try.func27, Try.ntmps27
    go_wp2_with fail
    go_ret
    exact ⟨rfl, hkw.out⟩
  · obtain rfl : false = z := by
      rw [← hz0, show withinB age 0 3600 = false from by unfold withinB; rw [decide_eq_false_iff_not]; omega]
      simp
    clear hz0
    go_enter Try.func27, Try.ntmps27
    go_wp2_with fail
    go_ret
    exact ⟨rfl, hkw.out⟩
  · obtain rfl : false = z := by
      rw [← hz0, show withinB seq (-2147483647) 2147483647 = false from by unfold withinB; rw [decide_eq_false_iff_not]; omega]
      simp
    clear hz0
    go_enter Try.func27, Try.ntmps27
    go_wp2_with fail
    go_ret
    exact ⟨rfl, hkw.out⟩
  · obtain rfl : false = z := by
      rw [← hz0, show withinB seq (-2147483647) 2147483647 = false from by unfold withinB; rw [decide_eq_false_iff_not]; omega]
      simp
    clear hz0
    go_enter Try.func27, Try.ntmps27
    go_wp2_with fail
    go_ret
    exact ⟨rfl, hkw.out⟩
  · have hz1 : toldB ⟨age, type, id, adv, seq, links, mask, routers, cost⟩ = z := by
      rw [← hz0, show withinB age 0 3600 = true from by unfold withinB; rw [decide_eq_true_iff]; omega, show withinB seq (-2147483647) 2147483647 = true from by unfold withinB; rw [decide_eq_true_iff]; omega]
      rfl
    clear hz0
    unfold toldB at hz1
    simp only at hz1
    by_cases t1 : type = 1
    · subst t1
      rw [if_pos rfl] at hz1
      have hz2 := Lib.hid hz1
      clear hz1
      go_enter Try.func27, Try.ntmps27
      go_wp2_with fail
      go_loop [3] (fun iv => ∃ k : Nat, k ≤ links.length ∧ iv = .int .i64 k ∧ Hid ((links.take k).any wrongB = false)) (fun iv => links.length - (intOf iv).toNat)
      case atStart => exact ⟨0, by omega, rfl, Lib.hid (by simp)⟩
      case round =>
        obtain ⟨k, hk, rfl, hany⟩ := hrel
        by_cases hlk : k < links.length
        · obtain ⟨g, o, rfl, hr⟩ := hL.out.open (by omega)
          obtain ⟨l, hl1⟩ : ∃ l, links[k] = l := ⟨_, rfl⟩
          have r1 := hr k l (by rw [List.getElem?_eq_getElem hlk, hl1])
          have htk : Hid ((links.take (k + 1)).any wrongB = wrongB l) := Lib.hid (by
            rw [List.take_succ_eq_append_getElem hlk, List.any_append, hany.out, hl1]; simp)
          have hin : Hid (wrongB l = true → links.any wrongB = true) := Lib.hid (fun h => List.any_eq_true.2 ⟨links[k], List.getElem_mem _, by rw [hl1]; exact h⟩)
          obtain ⟨i1, d1, t1, s1⟩ := l
          have c2 := r1 2 (.int .i64 t1) rfl
          have c3 := r1 3 (.int .i64 s1) rfl
          clear hr r1 hl1 hany
          rcases (show t1 < 1 ∨ (¬ t1 < 1 ∧ t1 > 4) ∨ (¬ t1 < 1 ∧ ¬ t1 > 4 ∧ s1 < 0) ∨ (¬ t1 < 1 ∧ ¬ t1 > 4 ∧ ¬ s1 < 0 ∧ s1 > 65535) ∨ (¬ t1 < 1 ∧ ¬ t1 > 4 ∧ ¬ s1 < 0 ∧ ¬ s1 > 65535) by omega) with g1 | ⟨g1, g2⟩ | ⟨g1, g2, g3⟩ | ⟨g1, g2, g3, g4⟩ | ⟨g1, g2, g3, g4⟩
          · have hw : Hid (wrongB ⟨i1, d1, t1, s1⟩ = true) := Lib.hid (by
              unfold wrongB
              simp only
              rw [show withinB t1 1 4 = false from by unfold withinB; rw [decide_eq_false_iff_not]; omega]; simp)
            have hzf : Hid (false = z) := Lib.hid (by rw [← hz2.out, hin.out hw.out]; simp)
            clear hin htk hw
            go_wp2_with fail
            go_ret
            exact ⟨by rw [← hzf.out]; rfl, hkw.out⟩
          · have hw : Hid (wrongB ⟨i1, d1, t1, s1⟩ = true) := Lib.hid (by
              unfold wrongB
              simp only
              rw [show withinB t1 1 4 = false from by unfold withinB; rw [decide_eq_false_iff_not]; omega]; simp)
            have hzf : Hid (false = z) := Lib.hid (by rw [← hz2.out, hin.out hw.out]; simp)
            clear hin htk hw
            go_wp2_with fail
            go_ret
            exact ⟨by rw [← hzf.out]; rfl, hkw.out⟩
          · have hw : Hid (wrongB ⟨i1, d1, t1, s1⟩ = true) := Lib.hid (by
              unfold wrongB
              simp only
              rw [show withinB s1 0 65535 = false from by unfold withinB; rw [decide_eq_false_iff_not]; omega]; simp)
            have hzf : Hid (false = z) := Lib.hid (by rw [← hz2.out, hin.out hw.out]; simp)
            clear hin htk hw
            go_wp2_with fail
            go_ret
            exact ⟨by rw [← hzf.out]; rfl, hkw.out⟩
          · have hw : Hid (wrongB ⟨i1, d1, t1, s1⟩ = true) := Lib.hid (by
              unfold wrongB
              simp only
              rw [show withinB s1 0 65535 = false from by unfold withinB; rw [decide_eq_false_iff_not]; omega]; simp)
            have hzf : Hid (false = z) := Lib.hid (by rw [← hz2.out, hin.out hw.out]; simp)
            clear hin htk hw
            go_wp2_with fail
            go_ret
            exact ⟨by rw [← hzf.out]; rfl, hkw.out⟩
          · have hw : Hid ((links.take (k + 1)).any wrongB = false) := Lib.hid (by
              rw [htk.out]
              unfold wrongB
              simp only
              rw [show withinB t1 1 4 = true from by unfold withinB; rw [decide_eq_true_iff]; omega, show withinB s1 0 65535 = true from by unfold withinB; rw [decide_eq_true_iff]; omega]; rfl)
            clear hin htk
            go_wp2_with fail
            exact ⟨⟨k + 1, by omega, by go_num, hw⟩, by simp [intOf]; omega⟩
        · have hz3 : (decide (links.length ≤ 40) && (decide (mask = 0) && (decide (routers.length = 0) && decide (cost = 0)))) = z := by
            have h := hany.out
            rw [List.take_of_length_le (by omega)] at h
            rw [← hz2.out, h]; simp
          clear hany hz2
          obtain ⟨x1, k1⟩ : ∃ x, decide (links.length ≤ 40) = x := ⟨_, rfl⟩
          obtain ⟨x2, k2⟩ : ∃ x, decide (mask = 0) = x := ⟨_, rfl⟩
          obtain ⟨x3, k3⟩ : ∃ x, decide (routers.length = 0) = x := ⟨_, rfl⟩
          obtain ⟨x4, k4⟩ : ∃ x, decide (cost = 0) = x := ⟨_, rfl⟩
          rw [k1, k2, k3, k4] at hz3
          have b1 : decide ((links.length : Int) ≤ 40) = x1 := by rw [← k1, decide_eq_decide]; omega
          have b2 : ((mask : Int) == 0) = x2 := by rw [← k2]; exact zero_beq mask
          have b3 : ((routers.length : Int) == 0) = x3 := by rw [← k3]; exact zero_beq _
          have b4 : (cost == 0) = x4 := k4
          cases x1 <;> cases x2 <;> cases x3 <;> cases x4
          all_goals
            obtain rfl := hz3
            simp only [decide_eq_true_eq, decide_eq_false_iff_not] at k1 b1
            clear k2 k3 k4 b1
            go_wp2_with fail
            go_ret
            exact ⟨rfl, hkw.out⟩
    · rw [if_neg t1] at hz1
      by_cases t2 : type = 2
      · subst t2
        rw [if_pos rfl] at hz1
        obtain ⟨x1, k1⟩ : ∃ x, decide (links.length = 0) = x := ⟨_, rfl⟩
        obtain ⟨x4, k4⟩ : ∃ x, decide (cost = 0) = x := ⟨_, rfl⟩
        rw [k1, k4] at hz1
        have b1 : ((links.length : Int) == 0) = x1 := by rw [← k1]; exact zero_beq _
        have b4 : (cost == 0) = x4 := k4
        clear k1 k4
        rcases (show routers.length < 1 ∨ (¬ routers.length < 1 ∧ ¬ routers.length ≤ 40) ∨ (¬ routers.length < 1 ∧ routers.length ≤ 40) by omega) with g | ⟨g, g2⟩ | ⟨g, g2⟩
        · rw [show withinB routers.length 1 40 = false from by unfold withinB; rw [decide_eq_false_iff_not]; omega] at hz1
          cases x1 <;> cases x4
          all_goals
            obtain rfl := hz1
            go_enter Try.func27, Try.ntmps27
            go_wp2_with fail
            go_ret
            exact ⟨rfl, hkw.out⟩
        · rw [show withinB routers.length 1 40 = false from by unfold withinB; rw [decide_eq_false_iff_not]; omega] at hz1
          cases x1 <;> cases x4
          all_goals
            obtain rfl := hz1
            go_enter Try.func27, Try.ntmps27
            go_wp2_with fail
            go_ret
            exact ⟨rfl, hkw.out⟩
        · rw [show withinB routers.length 1 40 = true from by unfold withinB; rw [decide_eq_true_iff]; omega] at hz1
          cases x1 <;> cases x4
          all_goals
            obtain rfl := hz1
            go_enter Try.func27, Try.ntmps27
            go_wp2_with fail
            go_ret
            exact ⟨rfl, hkw.out⟩
      · rw [if_neg t2] at hz1
        by_cases t3 : type = 3
        · subst t3
          rw [if_pos rfl] at hz1
          obtain ⟨x1, k1⟩ : ∃ x, decide (links.length = 0) = x := ⟨_, rfl⟩
          obtain ⟨x4, k4⟩ : ∃ x, decide (routers.length = 0) = x := ⟨_, rfl⟩
          rw [k1, k4] at hz1
          have b1 : ((links.length : Int) == 0) = x1 := by rw [← k1]; exact zero_beq _
          have b4 : ((routers.length : Int) == 0) = x4 := by rw [← k4]; exact zero_beq _
          clear k1 k4
          rcases (show cost < 0 ∨ (¬ cost < 0 ∧ ¬ cost ≤ 16777215) ∨ (¬ cost < 0 ∧ cost ≤ 16777215) by omega) with g | ⟨g, g2⟩ | ⟨g, g2⟩
          · rw [show withinB cost 0 16777215 = false from by unfold withinB; rw [decide_eq_false_iff_not]; omega] at hz1
            cases x1 <;> cases x4
            all_goals
              obtain rfl := hz1
              go_enter Try.func27, Try.ntmps27
              go_wp2_with fail
              go_ret
              exact ⟨rfl, hkw.out⟩
          · rw [show withinB cost 0 16777215 = false from by unfold withinB; rw [decide_eq_false_iff_not]; omega] at hz1
            cases x1 <;> cases x4
            all_goals
              obtain rfl := hz1
              go_enter Try.func27, Try.ntmps27
              go_wp2_with fail
              go_ret
              exact ⟨rfl, hkw.out⟩
          · rw [show withinB cost 0 16777215 = true from by unfold withinB; rw [decide_eq_true_iff]; omega] at hz1
            cases x1 <;> cases x4
            all_goals
              obtain rfl := hz1
              go_enter Try.func27, Try.ntmps27
              go_wp2_with fail
              go_ret
              exact ⟨rfl, hkw.out⟩
        · rw [if_neg t3] at hz1
          obtain rfl : false = z := hz1
          go_enter Try.func27, Try.ntmps27
          go_wp2_with fail
          go_ret
          exact ⟨rfl, hkw.out⟩
end Go.Proofs.Ytiogeepffdpafaa
