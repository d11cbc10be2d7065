/- What an Lsa may be: lsa.canBe, walked. -/
import Derived.Test.YtdaongflpllfhaaLS03
import Derived.Test.YtdaongflpllfhaaLS02
set_option linter.unusedVariables false
set_option linter.unusedSimpArgs false
namespace Go.Proofs.Ytdaongflpllfhaa
open Go.RowKit

/-- an Lsa, plain -/
structure LsaD where
  age : Int
  type : Int
  id : Nat
  adv : Nat
  seq : Int
  links : List LinkD
  mask : Nat
  routers : List Nat
  cost : Int
structure LsaD.ok (l : LsaD) : Prop where
  age : -9223372036854775808 ≤ l.age ∧ l.age ≤ 9223372036854775807
  type : -9223372036854775808 ≤ l.type ∧ l.type ≤ 9223372036854775807
  id : l.id < 4294967296
  adv : l.adv < 4294967296
  seq : -9223372036854775808 ≤ l.seq ∧ l.seq ≤ 9223372036854775807
  links : ∀ k ∈ l.links, k.ok
  mask : l.mask < 4294967296
  routers : Small l.routers
  cost : -9223372036854775808 ≤ l.cost ∧ l.cost ≤ 9223372036854775807
def lsaVals (l : LsaD) (sl sr : Value) : List Value := [.int .i64 l.age, .int .i64 l.type, .int .u32 l.id, .int .u32 l.adv, .int .i64 l.seq, sl, .int .u32 l.mask, sr, .int .i64 l.cost]
/-- may it be: what it tells, by its type -/
def toldB (l : LsaD) : Bool :=
  if l.type = 1 then decide (l.links.length ≤ 40) && (!l.links.any wrongB && (decide (l.mask = 0) && (decide (l.routers.length = 0) && decide (l.cost = 0))))
  else if l.type = 2 then decide (l.links.length = 0) && (withinB l.routers.length 1 40 && decide (l.cost = 0))
  else if l.type = 3 then decide (l.links.length = 0) && (decide (l.routers.length = 0) && withinB l.cost 0 16777215)
  else false
def canB (l : LsaD) : Bool := withinB l.age 0 3600 && (withinB l.seq (-2147483647) 2147483647 && toldB l)

theorem two_ways (a b : Bool) : a = false ∨ (a = true ∧ b = false) ∨ (a = true ∧ b = true) := by cases a <;> cases b <;> simp
theorem three_ways (a b c : Bool) : a = false ∨ (a = true ∧ b = false) ∨ (a = true ∧ b = true ∧ c = false) ∨ (a = true ∧ b = true ∧ c = true) := by cases a <;> cases b <;> cases c <;> simp
theorem five_ways (a b c d e : Bool) : a = false ∨ (a = true ∧ b = false) ∨ (a = true ∧ b = true ∧ c = false) ∨ (a = true ∧ b = true ∧ c = true ∧ d = false) ∨ (a = true ∧ b = true ∧ c = true ∧ d = true ∧ e = false) ∨ (a = true ∧ b = true ∧ c = true ∧ d = true ∧ e = true) := by cases a <;> cases b <;> cases c <;> cases d <;> cases e <;> simp
theorem nat_beq_true {a b : Nat} (h : decide (a = b) = true) : ((a : Int) == (b : Int)) = true := by rw [beq_iff_eq]; have := of_decide_eq_true h; omega
theorem nat_beq_false {a b : Nat} (h : decide (a = b) = false) : ((a : Int) == (b : Int)) = false := by rw [beq_eq_false_iff_ne]; have := of_decide_eq_false h; omega

set_option maxRecDepth 100000 in
set_option maxHeartbeats 4000000 in
theorem lsCanBe_any (age type seq cost : Int) (id adv mask : Nat) (links : List LinkD) (routers : List Nat) (p5 p7 : Option Addr) (c5 c7 : Nat) (z : Bool) (w : World)
    (hl : Hid (LinksAt w (.slice p5 links.length c5) links)) (hll : links.length ≤ 9223372036854775807) (hrl : routers.length ≤ 9223372036854775807) (hz : Hid (canB ⟨age, type, id, adv, seq, links, mask, routers, cost⟩ = z)) :
    Calls Try.prog 85 #[.agg #[.int .i64 age, .int .i64 type, .int .u32 id, .int .u32 adv, .int .i64 seq, .slice p5 links.length c5, .int .u32 mask, .slice p7 routers.length c7, .int .i64 cost]] w (fun e w' => e = .returned (.bool z) ∧ Keeps (fun _ => False) w w') := by
  obtain ⟨cs, hcs⟩ : ∃ cs : List Value, cs = [.int .i64 age, .int .i64 type, .int .u32 id, .int .u32 adv, .int .i64 seq, .slice p5 links.length c5, .int .u32 mask, .slice p7 routers.length c7, .int .i64 cost] := ⟨_, rfl⟩
  have hB : Hid (Boxed w.heap.size cs w (w.alloc (.cells #[.int .i64 age, .int .i64 type, .int .u32 id, .int .u32 adv, .int .i64 seq, .slice p5 links.length c5, .int .u32 mask, .slice p7 routers.length c7, .int .i64 cost] 29))) := Lib.hid (by rw [hcs]; exact boxed_new w _ _)
  have hcs' := Lib.hid hcs; clear hcs
  have hl2 := Lib.hid (hl.out.keep ((Keeps.refl _ _).alloc (.cells #[.int .i64 age, .int .i64 type, .int .u32 id, .int .u32 adv, .int .i64 seq, .slice p5 links.length c5, .int .u32 mask, .slice p7 routers.length c7, .int .i64 cost] 29)))
  have hq := hz.out
  unfold canB at hq
  simp only at hq
  obtain ⟨a, ha⟩ : ∃ a, withinB age 0 3600 = a := ⟨_, rfl⟩
  obtain ⟨b, hb⟩ : ∃ b, withinB seq (-2147483647) 2147483647 = b := ⟨_, rfl⟩
  rw [ha, hb] at hq
  have ha' := Lib.hid ha; have hb' := Lib.hid hb
  clear ha hb hz hl
  rcases two_ways a b with rfl | ⟨rfl, rfl⟩ | ⟨rfl, rfl⟩
  · obtain rfl : false = z := hq
    go_enter Try.func85, Try.ntmps85
    go_wp2_with fail
    refine (lsWithin_r age 0 3600 _ _ ha').mono ?_
    rintro e w' ⟨rfl, rfl⟩
    go_wp2_with fail
    go_ret
    exact ⟨rfl, (Keeps.refl _ _).alloc _⟩
  · obtain rfl : false = z := hq
    go_enter Try.func85, Try.ntmps85
    go_wp2_with fail
    refine (lsWithin_r age 0 3600 _ _ ha').mono ?_
    rintro e w' ⟨rfl, rfl⟩
    go_wp2_with fail
    refine (lsWithin_r seq (-2147483647) 2147483647 _ _ hb').mono ?_
    rintro e w' ⟨rfl, rfl⟩
    go_wp2_with fail
    go_ret
    exact ⟨rfl, (Keeps.refl _ _).alloc _⟩
  · have hq2 : toldB ⟨age, type, id, adv, seq, links, mask, routers, cost⟩ = z := hq
    clear hq
    unfold toldB at hq2
    simp only at hq2
    by_cases t1 : type = 1
    · subst t1
      rw [if_pos rfl] at hq2
      obtain ⟨x1, h1⟩ : ∃ x, decide (links.length ≤ 40) = x := ⟨_, rfl⟩
      obtain ⟨x2, h2⟩ : ∃ x, links.any wrongB = x := ⟨_, rfl⟩
      obtain ⟨x3, h3⟩ : ∃ x, decide (mask = 0) = x := ⟨_, rfl⟩
      obtain ⟨x4, h4⟩ : ∃ x, decide (routers.length = 0) = x := ⟨_, rfl⟩
      obtain ⟨x5, h5⟩ : ∃ x, decide (cost = 0) = x := ⟨_, rfl⟩
      rw [h1, h2, h3, h4, h5] at hq2
      have h2' := Lib.hid h2; clear h2
      obtain ⟨y2, hy2⟩ : ∃ y, (!x2) = y := ⟨_, rfl⟩
      rw [hy2] at hq2
      rcases five_ways x1 y2 x3 x4 x5 with rfl | ⟨rfl, rfl⟩ | ⟨rfl, rfl, rfl⟩ | ⟨rfl, rfl, rfl, rfl⟩ | ⟨rfl, rfl, rfl, rfl, rfl⟩ | ⟨rfl, rfl, rfl, rfl, rfl⟩
      · obtain rfl : false = z := hq2
        have e1 : ¬ links.length ≤ 40 := of_decide_eq_false h1
        clear h1 h3 h4 h5 hy2
        go_enter Try.func85, Try.ntmps85
        go_wp2_with fail
        refine (lsWithin_r age 0 3600 _ _ ha').mono ?_
        rintro e w' ⟨rfl, rfl⟩
        go_wp2_with fail
        refine (lsWithin_r seq (-2147483647) 2147483647 _ _ hb').mono ?_
        rintro e w' ⟨rfl, rfl⟩
        go_wp2_with fail
        go_ret
        exact ⟨rfl, (Keeps.refl _ _).alloc _⟩
      · obtain rfl : false = z := hq2
        have e1 : links.length ≤ 40 := of_decide_eq_true h1
        obtain rfl : x2 = true := by cases x2 <;> simp_all
        clear h1 h3 h4 h5 hy2
        go_enter Try.func85, Try.ntmps85
        go_wp2_with fail
        refine (lsWithin_r age 0 3600 _ _ ha').mono ?_
        rintro e w' ⟨rfl, rfl⟩
        go_wp2_with fail
        refine (lsWithin_r seq (-2147483647) 2147483647 _ _ hb').mono ?_
        rintro e w' ⟨rfl, rfl⟩
        go_wp2_with fail
        refine (slCFLinks_any _ links hll _ _ hl2 h2').mono ?_
        rintro e w2 ⟨rfl, k2⟩
        have b4 := (hB.out.next k2).cell 6 (.int .u32 mask) (by rw [hcs'.out]; rfl)
        have b5 := (hB.out.next k2).cell 7 (.slice p7 routers.length c7) (by rw [hcs'.out]; rfl)
        have b6 := (hB.out.next k2).cell 8 (.int .i64 cost) (by rw [hcs'.out]; rfl)
        have hk2 := Lib.hid (hB.out.next k2).k
        clear k2
        go_wp2_with fail
        go_ret
        exact ⟨rfl, hk2.out⟩
      · obtain rfl : false = z := hq2
        have e1 : links.length ≤ 40 := of_decide_eq_true h1
        obtain rfl : x2 = false := by cases x2 <;> simp_all
        have e3 : ((mask : Int) == 0) = false := nat_beq_false h3
        clear h1 h3 h4 h5 hy2
        go_enter Try.func85, Try.ntmps85
        go_wp2_with fail
        refine (lsWithin_r age 0 3600 _ _ ha').mono ?_
        rintro e w' ⟨rfl, rfl⟩
        go_wp2_with fail
        refine (lsWithin_r seq (-2147483647) 2147483647 _ _ hb').mono ?_
        rintro e w' ⟨rfl, rfl⟩
        go_wp2_with fail
        refine (slCFLinks_any _ links hll _ _ hl2 h2').mono ?_
        rintro e w2 ⟨rfl, k2⟩
        have b4 := (hB.out.next k2).cell 6 (.int .u32 mask) (by rw [hcs'.out]; rfl)
        have b5 := (hB.out.next k2).cell 7 (.slice p7 routers.length c7) (by rw [hcs'.out]; rfl)
        have b6 := (hB.out.next k2).cell 8 (.int .i64 cost) (by rw [hcs'.out]; rfl)
        have hk2 := Lib.hid (hB.out.next k2).k
        clear k2
        go_wp2_with fail
        go_ret
        exact ⟨rfl, hk2.out⟩
      · obtain rfl : false = z := hq2
        have e1 : links.length ≤ 40 := of_decide_eq_true h1
        obtain rfl : x2 = false := by cases x2 <;> simp_all
        have e3 : ((mask : Int) == 0) = true := nat_beq_true h3
        have e4 : ¬ routers.length = 0 := of_decide_eq_false h4
        have e4' : ((routers.length : Int) == 0) = false := by rw [beq_eq_false_iff_ne]; omega
        have e4h := Lib.hid e4; clear e4
        clear h1 h3 h4 h5 hy2
        go_enter Try.func85, Try.ntmps85
        go_wp2_with fail
        refine (lsWithin_r age 0 3600 _ _ ha').mono ?_
        rintro e w' ⟨rfl, rfl⟩
        go_wp2_with fail
        refine (lsWithin_r seq (-2147483647) 2147483647 _ _ hb').mono ?_
        rintro e w' ⟨rfl, rfl⟩
        go_wp2_with fail
        refine (slCFLinks_any _ links hll _ _ hl2 h2').mono ?_
        rintro e w2 ⟨rfl, k2⟩
        have b4 := (hB.out.next k2).cell 6 (.int .u32 mask) (by rw [hcs'.out]; rfl)
        have b5 := (hB.out.next k2).cell 7 (.slice p7 routers.length c7) (by rw [hcs'.out]; rfl)
        have b6 := (hB.out.next k2).cell 8 (.int .i64 cost) (by rw [hcs'.out]; rfl)
        have hk2 := Lib.hid (hB.out.next k2).k
        clear k2
        go_wp2_with fail
        go_ret
        exact ⟨rfl, hk2.out⟩
      · obtain rfl : false = z := hq2
        have e1 : links.length ≤ 40 := of_decide_eq_true h1
        obtain rfl : x2 = false := by cases x2 <;> simp_all
        have e3 : ((mask : Int) == 0) = true := nat_beq_true h3
        have e4 : routers.length = 0 := of_decide_eq_true h4
        have e5 : (cost == 0) = false := by rw [beq_eq_false_iff_ne]; exact of_decide_eq_false h5
        have e4' : ((routers.length : Int) == 0) = true := by rw [beq_iff_eq]; omega
        have e4h := Lib.hid e4; clear e4
        clear h1 h3 h4 h5 hy2
        go_enter Try.func85, Try.ntmps85
        go_wp2_with fail
        refine (lsWithin_r age 0 3600 _ _ ha').mono ?_
        rintro e w' ⟨rfl, rfl⟩
        go_wp2_with fail
        refine (lsWithin_r seq (-2147483647) 2147483647 _ _ hb').mono ?_
        rintro e w' ⟨rfl, rfl⟩
        go_wp2_with fail
        refine (slCFLinks_any _ links hll _ _ hl2 h2').mono ?_
        rintro e w2 ⟨rfl, k2⟩
        have b4 := (hB.out.next k2).cell 6 (.int .u32 mask) (by rw [hcs'.out]; rfl)
        have b5 := (hB.out.next k2).cell 7 (.slice p7 routers.length c7) (by rw [hcs'.out]; rfl)
        have b6 := (hB.out.next k2).cell 8 (.int .i64 cost) (by rw [hcs'.out]; rfl)
        have hk2 := Lib.hid (hB.out.next k2).k
        clear k2
        go_wp2_with fail
        go_ret
        exact ⟨rfl, hk2.out⟩
      · obtain rfl : true = z := hq2
        have e1 : links.length ≤ 40 := of_decide_eq_true h1
        obtain rfl : x2 = false := by cases x2 <;> simp_all
        have e3 : ((mask : Int) == 0) = true := nat_beq_true h3
        have e4 : routers.length = 0 := of_decide_eq_true h4
        have e5 : (cost == 0) = true := by rw [beq_iff_eq]; exact of_decide_eq_true h5
        have e4' : ((routers.length : Int) == 0) = true := by rw [beq_iff_eq]; omega
        have e4h := Lib.hid e4; clear e4
        clear h1 h3 h4 h5 hy2
        go_enter Try.func85, Try.ntmps85
        go_wp2_with fail
        refine (lsWithin_r age 0 3600 _ _ ha').mono ?_
        rintro e w' ⟨rfl, rfl⟩
        go_wp2_with fail
        refine (lsWithin_r seq (-2147483647) 2147483647 _ _ hb').mono ?_
        rintro e w' ⟨rfl, rfl⟩
        go_wp2_with fail
        refine (slCFLinks_any _ links hll _ _ hl2 h2').mono ?_
        rintro e w2 ⟨rfl, k2⟩
        have b4 := (hB.out.next k2).cell 6 (.int .u32 mask) (by rw [hcs'.out]; rfl)
        have b5 := (hB.out.next k2).cell 7 (.slice p7 routers.length c7) (by rw [hcs'.out]; rfl)
        have b6 := (hB.out.next k2).cell 8 (.int .i64 cost) (by rw [hcs'.out]; rfl)
        have hk2 := Lib.hid (hB.out.next k2).k
        clear k2
        go_wp2_with fail
        go_ret
        exact ⟨rfl, hk2.out⟩
    · rw [if_neg t1] at hq2
      have d1 : (type == 1) = false := by rw [beq_eq_false_iff_ne]; exact t1
      by_cases t2 : type = 2
      · subst t2
        rw [if_pos rfl] at hq2
        obtain ⟨x1, h1⟩ : ∃ x, decide (links.length = 0) = x := ⟨_, rfl⟩
        obtain ⟨x2, h2⟩ : ∃ x, withinB routers.length 1 40 = x := ⟨_, rfl⟩
        obtain ⟨x3, h3⟩ : ∃ x, decide (cost = 0) = x := ⟨_, rfl⟩
        rw [h1, h2, h3] at hq2
        have h2' := Lib.hid h2; clear h2 t1 d1
        rcases three_ways x1 x2 x3 with rfl | ⟨rfl, rfl⟩ | ⟨rfl, rfl, rfl⟩ | ⟨rfl, rfl, rfl⟩
        · obtain rfl : false = z := hq2
          have e1 : ((links.length : Int) == 0) = false := by rw [beq_eq_false_iff_ne]; have := of_decide_eq_false h1; omega
          clear h1 h3
          go_enter Try.func85, Try.ntmps85
          go_wp2_with fail
          refine (lsWithin_r age 0 3600 _ _ ha').mono ?_
          rintro e w' ⟨rfl, rfl⟩
          go_wp2_with fail
          refine (lsWithin_r seq (-2147483647) 2147483647 _ _ hb').mono ?_
          rintro e w' ⟨rfl, rfl⟩
          go_wp2_with fail
          go_ret
          exact ⟨rfl, (Keeps.refl _ _).alloc _⟩
        · obtain rfl : false = z := hq2
          have e1 : ((links.length : Int) == 0) = true := by rw [beq_iff_eq]; have := of_decide_eq_true h1; omega
          clear h1 h3
          go_enter Try.func85, Try.ntmps85
          go_wp2_with fail
          refine (lsWithin_r age 0 3600 _ _ ha').mono ?_
          rintro e w' ⟨rfl, rfl⟩
          go_wp2_with fail
          refine (lsWithin_r seq (-2147483647) 2147483647 _ _ hb').mono ?_
          rintro e w' ⟨rfl, rfl⟩
          go_wp2_with fail
          refine (lsWithin_r (routers.length : Int) 1 40 _ _ h2').mono ?_
          rintro e w' ⟨rfl, rfl⟩
          go_wp2_with fail
          go_ret
          exact ⟨rfl, (Keeps.refl _ _).alloc _⟩
        · obtain rfl : false = z := hq2
          have e1 : ((links.length : Int) == 0) = true := by rw [beq_iff_eq]; have := of_decide_eq_true h1; omega
          have e5 : (cost == 0) = false := by rw [beq_eq_false_iff_ne]; exact of_decide_eq_false h3
          clear h1 h3
          go_enter Try.func85, Try.ntmps85
          go_wp2_with fail
          refine (lsWithin_r age 0 3600 _ _ ha').mono ?_
          rintro e w' ⟨rfl, rfl⟩
          go_wp2_with fail
          refine (lsWithin_r seq (-2147483647) 2147483647 _ _ hb').mono ?_
          rintro e w' ⟨rfl, rfl⟩
          go_wp2_with fail
          refine (lsWithin_r (routers.length : Int) 1 40 _ _ h2').mono ?_
          rintro e w' ⟨rfl, rfl⟩
          go_wp2_with fail
          go_ret
          exact ⟨rfl, (Keeps.refl _ _).alloc _⟩
        · obtain rfl : true = z := hq2
          have e1 : ((links.length : Int) == 0) = true := by rw [beq_iff_eq]; have := of_decide_eq_true h1; omega
          have e5 : (cost == 0) = true := by rw [beq_iff_eq]; exact of_decide_eq_true h3
          clear h1 h3
          go_enter Try.func85, Try.ntmps85
          go_wp2_with fail
          refine (lsWithin_r age 0 3600 _ _ ha').mono ?_
          rintro e w' ⟨rfl, rfl⟩
          go_wp2_with fail
          refine (lsWithin_r seq (-2147483647) 2147483647 _ _ hb').mono ?_
          rintro e w' ⟨rfl, rfl⟩
          go_wp2_with fail
          refine (lsWithin_r (routers.length : Int) 1 40 _ _ h2').mono ?_
          rintro e w' ⟨rfl, rfl⟩
          go_wp2_with fail
          go_ret
          exact ⟨rfl, (Keeps.refl _ _).alloc _⟩
      · rw [if_neg t2] at hq2
        have d2 : (type == 2) = false := by rw [beq_eq_false_iff_ne]; exact t2
        by_cases t3 : type = 3
        · subst t3
          rw [if_pos rfl] at hq2
          obtain ⟨x1, h1⟩ : ∃ x, decide (links.length = 0) = x := ⟨_, rfl⟩
          obtain ⟨x2, h2⟩ : ∃ x, decide (routers.length = 0) = x := ⟨_, rfl⟩
          obtain ⟨x3, h3⟩ : ∃ x, withinB cost 0 16777215 = x := ⟨_, rfl⟩
          rw [h1, h2, h3] at hq2
          have h3' := Lib.hid h3; clear h3 t1 d1 t2 d2
          rcases three_ways x1 x2 x3 with rfl | ⟨rfl, rfl⟩ | ⟨rfl, rfl, rfl⟩ | ⟨rfl, rfl, rfl⟩
          · obtain rfl : false = z := hq2
            have e1 : ((links.length : Int) == 0) = false := by rw [beq_eq_false_iff_ne]; have := of_decide_eq_false h1; omega
            clear h1 h2
            go_enter Try.func85, Try.ntmps85
            go_wp2_with fail
            refine (lsWithin_r age 0 3600 _ _ ha').mono ?_
            rintro e w' ⟨rfl, rfl⟩
            go_wp2_with fail
            refine (lsWithin_r seq (-2147483647) 2147483647 _ _ hb').mono ?_
            rintro e w' ⟨rfl, rfl⟩
            go_wp2_with fail
            go_ret
            exact ⟨rfl, (Keeps.refl _ _).alloc _⟩
          · obtain rfl : false = z := hq2
            have e1 : ((links.length : Int) == 0) = true := by rw [beq_iff_eq]; have := of_decide_eq_true h1; omega
            have e2 : ((routers.length : Int) == 0) = false := by rw [beq_eq_false_iff_ne]; have := of_decide_eq_false h2; omega
            clear h1 h2
            go_enter Try.func85, Try.ntmps85
            go_wp2_with fail
            refine (lsWithin_r age 0 3600 _ _ ha').mono ?_
            rintro e w' ⟨rfl, rfl⟩
            go_wp2_with fail
            refine (lsWithin_r seq (-2147483647) 2147483647 _ _ hb').mono ?_
            rintro e w' ⟨rfl, rfl⟩
            go_wp2_with fail
            go_ret
            exact ⟨rfl, (Keeps.refl _ _).alloc _⟩
          · obtain rfl : false = z := hq2
            have e1 : ((links.length : Int) == 0) = true := by rw [beq_iff_eq]; have := of_decide_eq_true h1; omega
            have e2 : ((routers.length : Int) == 0) = true := by rw [beq_iff_eq]; have := of_decide_eq_true h2; omega
            clear h1 h2
            go_enter Try.func85, Try.ntmps85
            go_wp2_with fail
            refine (lsWithin_r age 0 3600 _ _ ha').mono ?_
            rintro e w' ⟨rfl, rfl⟩
            go_wp2_with fail
            refine (lsWithin_r seq (-2147483647) 2147483647 _ _ hb').mono ?_
            rintro e w' ⟨rfl, rfl⟩
            go_wp2_with fail
            refine (lsWithin_r cost 0 16777215 _ _ h3').mono ?_
            rintro e w' ⟨rfl, rfl⟩
            go_wp2_with fail
            go_ret
            exact ⟨rfl, (Keeps.refl _ _).alloc _⟩
          · obtain rfl : true = z := hq2
            have e1 : ((links.length : Int) == 0) = true := by rw [beq_iff_eq]; have := of_decide_eq_true h1; omega
            have e2 : ((routers.length : Int) == 0) = true := by rw [beq_iff_eq]; have := of_decide_eq_true h2; omega
            clear h1 h2
            go_enter Try.func85, Try.ntmps85
            go_wp2_with fail
            refine (lsWithin_r age 0 3600 _ _ ha').mono ?_
            rintro e w' ⟨rfl, rfl⟩
            go_wp2_with fail
            refine (lsWithin_r seq (-2147483647) 2147483647 _ _ hb').mono ?_
            rintro e w' ⟨rfl, rfl⟩
            go_wp2_with fail
            refine (lsWithin_r cost 0 16777215 _ _ h3').mono ?_
            rintro e w' ⟨rfl, rfl⟩
            go_wp2_with fail
            go_ret
            exact ⟨rfl, (Keeps.refl _ _).alloc _⟩
        · rw [if_neg t3] at hq2
          have d3 : (type == 3) = false := by rw [beq_eq_false_iff_ne]; exact t3
          subst hq2
          clear t1 t2 t3
          go_enter Try.func85, Try.ntmps85
          go_wp2_with fail
          refine (lsWithin_r age 0 3600 _ _ ha').mono ?_
          rintro e w' ⟨rfl, rfl⟩
          go_wp2_with fail
          refine (lsWithin_r seq (-2147483647) 2147483647 _ _ hb').mono ?_
          rintro e w' ⟨rfl, rfl⟩
          go_wp2_with fail
          go_ret
          exact ⟨rfl, (Keeps.refl _ _).alloc _⟩
end Go.Proofs.Ytdaongflpllfhaa
/- lsa.layLinks, tell, walked. -/
namespace Go.Proofs.Ytdaongflpllfhaa
open Go.RowKit

def linkB (l : LinkD) : List UInt8 := be 4 l.id ++ be 4 l.data ++ [UInt8.ofNat (lo8 l.type), 0] ++ be 2 (lo16 l.cost)
theorem linkB_len (l : LinkD) : (linkB l).length = 12 := by unfold linkB; simp [be_len]
def linksB (ls : List LinkD) : List UInt8 := ls.flatMap linkB
theorem linksB_len (ls : List LinkD) : (linksB ls).length = 12 * ls.length := by
  induction ls with
  | nil => rfl
  | cons n ns ih => unfold linksB at *; rw [List.flatMap_cons, List.length_append, ih, linkB_len, List.length_cons]; omega
theorem linksB_snoc (ls : List LinkD) (l : LinkD) : linksB (ls ++ [l]) = linksB ls ++ linkB l := by unfold linksB; simp
theorem link_one (a b c d : Int) : (#[.int .u32 a, .int .u32 b, .int .i64 c, .int .i64 d] : Array Value).all (·.oneCell') = true := by simp; exact ⟨rfl, rfl, rfl, rfl⟩
/-- an append, whatever it grows: the row's own block is another one than B -/
theorem Grown.ne {W W' : World} {v : Value} {p : Option Addr} {n c B : Nat} (g : Grown W v p n c W') (h : ∀ k, v.ownBlock = some k → k ≠ B) (hB : B < W.heap.size) : ∀ k, (Value.slice p n c).ownBlock = some k → k ≠ B := fun k e => by
  rcases g.s k e with e | e
  · exact h k e
  · omega
theorem Grown.range {W W' : World} {v : Value} {p : Option Addr} {n c B o : Nat} {cs : List Value} (g : Grown W v p n c W') (h : ∀ k, v.ownBlock = some k → k ≠ B) (hr : W.rangeAt B o cs) : W'.rangeAt B o cs :=
  g.k.rangeAt hr (fun e => h B e rfl)
theorem OwnB.keeps {w0 W W' : World} {v : Value} {xs : List UInt8} (h : OwnB w0 W v xs) (k : Keeps (fun _ => False) w0 W) {p : Option Addr} {n c : Nat} (g : Grown W v p n c W') : Keeps (fun _ => False) w0 W' :=
  k.trans' g.k (fun i e => .inr (h.2.1 i e))
theorem hXv {w0 W : World} {q : Option Addr} {n d : Nat} {X : List UInt8} (_ : X.length = n) (h : Hid (OwnB w0 W (.slice q n d) X)) : Hid (OwnB w0 W (.slice q n d) X) := h
/-- lays X ++ l as a new name -/
theorem new_name (X l : List UInt8) (n m : Nat) (hX : X.length = n) (hl : l.length = m) : ∃ Y, Y = X ++ l ∧ Y.length = n + m := ⟨X ++ l, rfl, by rw [List.length_append, hX, hl]⟩

set_option maxRecDepth 100000 in
set_option maxHeartbeats 4000000 in
theorem lsLayLinks_any (sl : Value) (ls : List LinkD) (hl : ls.length ≤ 1000) (hok : Hid (∀ l ∈ ls, l.ok)) (w : World) (h : Hid (LinksAt w sl ls)) :
    Calls Try.prog 109 #[sl] w (NewOwn (be 4 ls.length ++ linksB ls) w) := by
  obtain ⟨i0, hi0, hz0, hz1, hz2⟩ := info_parts u8InfoAll
  obtain ⟨p, c, rfl, -, -, hb⟩ := h.out
  have hb' := Lib.hid hb; clear hb h
  go_enter Try.func109, Try.ntmps109
  go_wp2_with fail
  refine (wiLay32_any w _ [] ls.length (by omega) (by simp) _ (Lib.hid (OwnB.nil w w (Nat.le_refl _)))).mono ?_
  rintro e w1 ⟨p1, c1, rfl, hO, hg⟩
  rw [List.nil_append, show ([] : List UInt8).length + (be 4 ls.length).length = 4 by simp [be_len]] at hO
  rw [show ([] : List UInt8).length + (be 4 ls.length).length = 4 by simp [be_len]]
  have hO1 := Lib.hid hO; have hk1 := Lib.hid hg.nil
  clear hO hg
  go_wp2_with fail
  go_loopw [3, 12] (fun bw iv wr => ∃ k : Nat, k ≤ ls.length ∧ iv = .int .i64 k ∧ Hid (∃ q d, bw = .slice q (4 + 12 * k) d ∧ OwnB w wr bw (be 4 ls.length ++ linksB (ls.take k)) ∧ Keeps (fun _ => False) w wr)) (fun _ iv _ => ls.length - (intOf iv).toNat)
  case atStart => exact ⟨0, by omega, rfl, Lib.hid ⟨p1, c1, rfl, by simpa [linksB] using hO1.out, hk1.out⟩⟩
  case round =>
    obtain ⟨k, hk, rfl, hrow⟩ := hrel
    obtain ⟨q, d, rfl, hO, hkw⟩ := hrow.out
    have hO' := Lib.hid hO; have hkw' := Lib.hid hkw
    clear hO hkw hrow
    obtain ⟨X, hX⟩ : ∃ X, X = be 4 ls.length ++ linksB (ls.take k) := ⟨_, rfl⟩
    have hXl : X.length = 4 + 12 * k := by rw [hX, List.length_append, linksB_len, be_len, List.length_take]; omega
    rw [← hX] at hO'
    by_cases hlk : k < ls.length
    · obtain ⟨g, o, rfl, hrows⟩ := hb'.out (by omega)
      obtain ⟨l, hll⟩ : ∃ l, ls[k]? = some l := ⟨_, List.getElem?_eq_getElem hlk⟩
      have hrow : Hid (wr.rangeAt g (o + k * 4) [.int .u32 l.id, .int .u32 l.data, .int .i64 l.type, .int .i64 l.cost]) := Lib.hid (hkw'.out.rangeAt (hrows k l hll) id)
      have hlok := hok.out l (List.mem_of_getElem? hll)
      have hsn := linksB_snoc (ls.take k) l
      have htk : ls.take (k + 1) = ls.take k ++ [l] := by
        rw [List.take_succ_eq_append_getElem hlk]
        rw [List.getElem?_eq_getElem hlk] at hll; injection hll with hll; rw [hll]
      rw [← htk] at hsn
      have hnext : Hid (be 4 ls.length ++ linksB (ls.take (k + 1)) = X ++ linkB l) := Lib.hid (by rw [hsn, hX, List.append_assoc])
      have hXl' := Lib.hid hXl
      obtain ⟨l1, l2, l3, l4⟩ := hlok
      clear hsn htk hX hll hrows hXl
      obtain ⟨lid, ldata, ltype, lcost⟩ := l
      simp only at l1 l2 l3 l4 hrow
      obtain ⟨T, hT, lT, hTl⟩ := u8_nat ltype
      obtain ⟨C, hC, lC, hCl⟩ := u16_nat lcost
      have hBx : Hid ((wr.alloc (.cells #[.int .u32 lid, .int .u32 ldata, .int .i64 ltype, .int .i64 lcost] 70)).rangeAt wr.heap.size 0 [.int .u32 lid, .int .u32 ldata, .int .i64 ltype, .int .i64 lcost]) := Lib.hid (new_rangeb wr _ 70)
      have hOb := Lib.hid (hO'.out.keep ((Keeps.refl (fun _ => False) _).alloc (.cells #[.int .u32 lid, .int .u32 ldata, .int .i64 ltype, .int .i64 lcost] 70)) (fun _ _ f => f))
      have hkb := Lib.hid (hkw'.out.alloc (.cells #[.int .u32 lid, .int .u32 ldata, .int .i64 ltype, .int .i64 lcost] 70))
      have hneb : Hid (∀ j, (Value.slice q (4 + 12 * k) d).ownBlock = some j → j ≠ wr.heap.size) := Lib.hid (fun j e => by
        have := lt_own hO'.out j e; omega)
      have hszb : Hid (wr.heap.size < (wr.alloc (.cells #[.int .u32 lid, .int .u32 ldata, .int .i64 ltype, .int .i64 lcost] 70)).heap.size) := Lib.hid (by simp)
      go_upto_region 5 with (first | ((with_reducible refine at_slot 15 ?_); refine wpList_load_mid rfl 70 (.tmp 14) rfl g (o + k * 4) rfl _ _ hrow.out Try.underlying70 rfl linkInfo ?_) | ((with_reducible refine at_store 5 ?_); refine wpList_store_new rfl 70 (.tmp 5) (.tmp 15) rfl _ #[.int .u32 lid, .int .u32 ldata, .int .i64 ltype, .int .i64 lcost] rfl rfl linkInfo rfl (link_one _ _ _ _) ?_))
      generalize wr.alloc (.cells #[.int .u32 lid, .int .u32 ldata, .int .i64 ltype, .int .i64 lcost] 70) = wb at hBx hOb hkb hszb ⊢
      have b0 := rangeAt_cell hBx.out 0 (.int .u32 lid) rfl
      have b1 := rangeAt_cell hBx.out 1 (.int .u32 ldata) rfl
      go_wp2_with fail
      have hN : Hid (NumsAt (wb.alloc (.cells #[.int .u32 lid, .int .u32 ldata] 23)) (.slice (some ⟨wb.heap.size, 0, none⟩) 2 2) [lid, ldata]) := Lib.hid (NumsAt.new wb [lid, ldata] rfl)
      have hOc := Lib.hid (hOb.out.keep ((Keeps.refl (fun _ => False) _).alloc (.cells #[.int .u32 lid, .int .u32 ldata] 23)) (fun _ _ f => f))
      have hkc := Lib.hid (hkb.out.alloc (.cells #[.int .u32 lid, .int .u32 ldata] 23))
      have hBc := Lib.hid (((Keeps.refl (fun _ => False) wb).alloc (.cells #[.int .u32 lid, .int .u32 ldata] 23)).rangeAt hBx.out id)
      have hszc : Hid (wr.heap.size < (wb.alloc (.cells #[.int .u32 lid, .int .u32 ldata] 23)).heap.size) := Lib.hid (by have := hszb.out; simp; omega)
      refine (wiLayAll_any w _ X _ [lid, ldata] (Lib.hid (by intro n hn; simp at hn; rcases hn with rfl | rfl <;> assumption)) (by rw [hXl'.out]; simp; omega) _ (hXv hXl'.out hOc) hN (Lib.hid (fun _ j e => by
        simp only [Value.ownBlock, Option.some.injEq] at e
        subst e
        refine ⟨fun e => ?_, by simp⟩
        have := lt_own hOb.out _ e; omega))).mono ?_
      rintro e w2 ⟨q2, d2, rfl, hO2, hg2⟩
      obtain ⟨X2, hX2, hX2l⟩ := new_name X (bes [lid, ldata]) (4 + 12 * k) 8 hXl'.out (by rw [bes_len]; rfl)
      have hn2 : X.length + (bes [lid, ldata]).length = 4 + 12 * k + 8 := by rw [hXl'.out, bes_len]; rfl
      rw [← hX2, hn2] at hO2
      rw [hn2] at hg2 ⊢
      have hk2 := Lib.hid (hOc.out.keeps hkc.out hg2)
      have hne2 := Lib.hid (hg2.ne hneb.out hszc.out)
      have hB2 := Lib.hid (hg2.range hneb.out hBc.out)
      have hO2' := Lib.hid hO2; have hX2' := Lib.hid hX2; have hX2l' := Lib.hid hX2l
      have hsz2 : Hid (wr.heap.size < w2.heap.size) := Lib.hid (Nat.lt_of_lt_of_le hszc.out hg2.k.size)
      clear hO2 hX2 hX2l hg2 hn2 hN hOc hkc hBc hszc hneb b0 b1
      go_upto_region 6 with fail
      refine wp_region_noPanic ?_
      refine wp_region_held_drew (S := (fun W => W.rangeAt wr.heap.size 0 [.int .u32 lid, .int .u32 ldata, .int .i64 ltype, .int .i64 lcost])) (by kernel_rfl) ((((Keeps.refl (fun _ => False) _).drew).rangeAt hB2.out id)) (fun hHeld => ?_)
      refine tk 0 rfl ?_
      refine tk 1 rfl ?_
      refine tkL 2 rfl (yieldsIf_load_cell (by rfl) 3 (.tmp 24) rfl wr.heap.size 2 rfl _ (fun _ s => rangeAt_cell s 2 (.int .i64 ltype) rfl) (fun w s => load_int w _ _ _ s)) ?_
      refine tk 3 rfl ?_
      refine tk 6 rfl ?_
      refine tkL 7 rfl (yieldsIf_load_cell (by rfl) 3 (.tmp 29) rfl wr.heap.size 3 rfl _ (fun _ s => rangeAt_cell s 3 (.int .i64 lcost) rfl) (fun w s => load_int w _ _ _ s)) ?_
      refine tk 8 rfl ?_
      have hO3 := Lib.hid ((hO2'.out.keep ((Keeps.refl (fun _ => False) _).drew) (fun _ _ f => f)).keep ((Keeps.refl (fun _ => False) _).alloc (.cells #[.int .u8 T, .int .u8 0] 5)) (fun _ _ f => f))
      have hk3 := Lib.hid ((hk2.out.drew).alloc (.cells #[.int .u8 T, .int .u8 0] 5))
      have hsrc : Hid (BytesAt (w2.drew.alloc (.cells #[.int .u8 T, .int .u8 0] 5)) (.slice (some ⟨w2.drew.heap.size, 0, none⟩) 2 2) [UInt8.ofNat T, 0]) := Lib.hid (by
        have := (OwnB.new w2.drew w2.drew (Nat.le_refl _) [UInt8.ofNat T, 0] (n := 2) rfl (by unfold maxLen; omega)).bytes
        rw [List.map_cons, List.map_cons, List.map_nil, bv_lt T lT] at this
        exact this)
      have hsz3 : Hid (wr.heap.size < (w2.drew.alloc (.cells #[.int .u8 T, .int .u8 0] 5)).heap.size) := Lib.hid (by have := hsz2.out; simp; omega)
      refine stepL 4 rfl (by kernel_rfl) (fun K hK => ?_)
      go_simp
      refine hK.out _ _ (((Keeps.refl (fun _ => False) _).alloc _).rangeAt hHeld id) (fun hHeld => ?_)
      clear hK K
      try simp only [Act.put, sA, sZ, sS]
      refine stepL 5 rfl (by kernel_rfl) (fun K hK => ?_)
      rw [if_pos (by rfl)]
      (refine wp_append_b (.tmp 23) (.tmp 27) 71 rfl i0 Try.underlying71 hi0 hz0 hz1 hz2 w _ X2 rfl hO3.out _ rfl [UInt8.ofNat T, 0] hsrc.out (by rw [hX2l'.out]; simp; omega) ?_; intro q4 d4 w4 hO4 hg4)
      refine hK.out _ _ ((hg4.range hne2.out hHeld)) (fun hHeld => ?_)
      clear hK K
      try simp only [Act.put, sA, sZ, sS]
      obtain ⟨X4, hX4, hX4l⟩ := new_name X2 [UInt8.ofNat T, 0] (4 + 12 * k + 8) 2 hX2l'.out rfl
      have hn4 : X2.length + ([UInt8.ofNat T, 0] : List UInt8).length = 4 + 12 * k + 8 + 2 := by rw [hX2l'.out]; rfl
      rw [← hX4, hn4] at hO4
      rw [hn4] at hg4 ⊢
      have hk4 := Lib.hid (hO3.out.keeps hk3.out hg4)
      have hne4 := Lib.hid (hg4.ne hne2.out hsz3.out)
      have hO4' := Lib.hid hO4; have hX4' := Lib.hid hX4; have hX4l' := Lib.hid hX4l
      clear hO4 hX4 hX4l hg4 hn4 hO3 hk3 hsrc hsz3
      refine stepL 9 rfl (by kernel_rfl) (fun K hK => ?_)
      go_simp
      (refine (wiLay16_any w _ X4 C lC (by rw [hX4l'.out]; omega) _ hO4').mono ?_; rintro e w5 ⟨q5, d5, rfl, hO5, hg5⟩)
      go_wp2_with fail
      refine hK.out _ _ ((hg5.range hne4.out hHeld)) (fun hHeld => ?_)
      clear hK K
      try simp only [Act.put, sA, sZ, sS]
      refine tk 10 rfl ?_
      refine wpAnyH_done (by kernel_rfl) (NoPanic.normal ?_) _
      have hfin : X4 ++ be 2 C = X ++ linkB ⟨lid, ldata, ltype, lcost⟩ := by
        rw [hX4'.out, hX2'.out]
        unfold linkB
        simp only [← hTl.out, ← hCl.out, bes, List.flatMap_cons, List.flatMap_nil, List.append_nil, List.append_assoc]
      have hn5 : X4.length + (be 2 C).length = 4 + 12 * (k + 1) := by rw [hX4l'.out, be_len]; omega
      rw [hfin, hn5] at hO5
      rw [hn5] at hg5 ⊢
      have hk5 := Lib.hid (hO4'.out.keeps hk4.out hg5)
      have hO5' := Lib.hid hO5
      clear hO5 hg5 hfin hn5 hHeld hk4 hne4 hO4'
      go_wp2_with fail
      exact ⟨⟨k + 1, by omega, by go_num, Lib.hid ⟨q5, d5, rfl, by rw [hnext.out]; exact hO5'.out, hk5.out⟩⟩, by simp [intOf]; omega⟩
    · obtain rfl : k = ls.length := by omega
      rw [List.take_length] at hX
      have hX' := Lib.hid hX; have hXl' := Lib.hid hXl
      clear hX hXl
      go_wp2_with fail
      go_ret
      have hn : (be 4 ls.length ++ linksB ls).length = 4 + 12 * ls.length := by rw [List.length_append, be_len, linksB_len]
      exact ⟨q, d, by rw [hn]; rfl, by rw [hn, ← hX'.out]; exact hO'.out, hkw'.out⟩
end Go.Proofs.Ytdaongflpllfhaa
/- lsa.tell, walked. -/
namespace Go.Proofs.Ytdaongflpllfhaa
open Go.RowKit

def tellB (l : LsaD) : List UInt8 :=
  if l.type = 1 then be 4 l.links.length ++ linksB l.links
  else if l.type = 2 then be 4 l.mask ++ bes l.routers
  else be 4 l.mask ++ be 4 (lo32 l.cost)
theorem load_links (w : World) (b o : Nat) (v : Value) (h : w.cell? ⟨b, o, none⟩ = some v) : (loadVar 26 ⟨b, o, none⟩).run Try.prog w = .ok v w := by simp [go_sem, h]
theorem load_u32s (w : World) (b o : Nat) (v : Value) (h : w.cell? ⟨b, o, none⟩ = some v) : (loadVar 27 ⟨b, o, none⟩).run Try.prog w = .ok v w := by simp [go_sem, h]

theorem wiLay32_nil (w0 : World) (n : Nat) (hn : n < 4294967296) (w : World) (h : w0.heap.size ≤ w.heap.size) :
    Calls Try.prog 77 #[.slice none 0 0, .int .u32 n] w fun e w' => ∃ p c, e = .returned (.slice p 4 c) ∧ OwnB w0 w' (.slice p 4 c) (be 4 n) ∧ Keeps (fun _ => False) w w' := by
  refine (wiLay32_any w0 _ [] n hn (by simp) _ (Lib.hid (OwnB.nil w0 w h))).mono ?_
  rintro e w' ⟨p, c, rfl, hO, hg⟩
  rw [List.nil_append, show ([] : List UInt8).length + (be 4 n).length = 4 by simp [be_len]] at hO
  exact ⟨p, c, by rw [show ([] : List UInt8).length + (be 4 n).length = 4 by simp [be_len]], hO, hg.nil⟩
theorem hO4 {w0 W : World} {q : Option Addr} {d m : Nat} (h : Hid (OwnB w0 W (.slice q 4 d) (be 4 m))) : Hid (OwnB w0 W (.slice q 4 d) (be 4 m)) := h
theorem old_block {w : World} {v : Value} {ns : List Nat} (h : NumsAt w v ns) (h0 : 0 < ns.length) (j : Nat) (e : v.ownBlock = some j) : j < w.heap.size ∧ True := by
  obtain ⟨p, c, rfl, -, -, hr⟩ := h
  obtain ⟨b, o, rfl, hra⟩ := hr h0
  simp only [Value.ownBlock, Option.some.injEq] at e
  subst e
  have := hra 0 (nv ns[0]) (by rw [List.getElem?_map, List.getElem?_eq_getElem h0]; rfl)
  exact ⟨World.block_lt_of_cell? w _ this, trivial⟩
set_option maxRecDepth 100000 in
set_option maxHeartbeats 4000000 in
theorem lsTell_any (age type seq cost : Int) (id adv mask : Nat) (links : List LinkD) (routers : List Nat) (p5 p7 : Option Addr) (c5 c7 : Nat) (B : List UInt8) (w : World)
    (hl : Hid (LinksAt w (.slice p5 links.length c5) links)) (hr : Hid (NumsAt w (.slice p7 routers.length c7) routers)) (hlen : links.length ≤ 1000) (hlen2 : routers.length ≤ 1000) (hlok : Hid (∀ l ∈ links, l.ok)) (hrok : Hid (Small routers)) (hm : mask < 4294967296)
    (hB : Hid (tellB ⟨age, type, id, adv, seq, links, mask, routers, cost⟩ = B)) :
    Calls Try.prog 86 #[.agg #[.int .i64 age, .int .i64 type, .int .u32 id, .int .u32 adv, .int .i64 seq, .slice p5 links.length c5, .int .u32 mask, .slice p7 routers.length c7, .int .i64 cost]] w (NewOwn B w) := by
  obtain ⟨cs, hcs⟩ : ∃ cs : List Value, cs = [.int .i64 age, .int .i64 type, .int .u32 id, .int .u32 adv, .int .i64 seq, .slice p5 links.length c5, .int .u32 mask, .slice p7 routers.length c7, .int .i64 cost] := ⟨_, rfl⟩
  have hBx : Hid (Boxed w.heap.size cs (w.alloc (.cells #[.int .i64 age, .int .i64 type, .int .u32 id, .int .u32 adv, .int .i64 seq, .slice p5 links.length c5, .int .u32 mask, .slice p7 routers.length c7, .int .i64 cost] 29)) (w.alloc (.cells #[.int .i64 age, .int .i64 type, .int .u32 id, .int .u32 adv, .int .i64 seq, .slice p5 links.length c5, .int .u32 mask, .slice p7 routers.length c7, .int .i64 cost] 29))) := Lib.hid (by rw [hcs]; exact boxed_new0 w _ _)
  have hsz : Hid (w.heap.size < (w.alloc (.cells #[.int .i64 age, .int .i64 type, .int .u32 id, .int .u32 adv, .int .i64 seq, .slice p5 links.length c5, .int .u32 mask, .slice p7 routers.length c7, .int .i64 cost] 29)).heap.size) := Lib.hid (by simp)
  have hwB : Hid (Keeps (fun _ => False) w (w.alloc (.cells #[.int .i64 age, .int .i64 type, .int .u32 id, .int .u32 adv, .int .i64 seq, .slice p5 links.length c5, .int .u32 mask, .slice p7 routers.length c7, .int .i64 cost] 29))) := Lib.hid ((Keeps.refl _ _).alloc _)
  have hcs' := Lib.hid hcs; clear hcs
  have hq := hB.out
  unfold tellB at hq
  simp only at hq
  by_cases t1 : type = 1
  · subst t1
    rw [if_pos rfl] at hq
    have hq' := Lib.hid hq; clear hq hB
    go_enter Try.func86, Try.ntmps86
    go_wp2_with fail
    refine (lsLayLinks_any _ links hlen hlok _ (Lib.hid (hl.out.keep hwB.out))).mono ?_
    rintro e w2 ⟨p, c, rfl, hO, hk⟩
    rw [hq'.out] at hO ⊢
    have hO' := Lib.hid hO; have hk' := Lib.hid hk
    clear hO hk
    go_wp2_with fail
    go_ret
    exact ⟨p, c, rfl, hO'.out.older (by have := hsz.out; omega), hwB.out.trans hk'.out⟩
  · rw [if_neg t1] at hq
    have d1 : (type == 1) = false := by rw [beq_eq_false_iff_ne]; exact t1
    by_cases t2 : type = 2
    · subst t2
      rw [if_pos rfl] at hq
      have hq' := Lib.hid hq; clear hq hB t1 d1
      go_enter Try.func86, Try.ntmps86
      go_upto_region 5 with fail
      generalize w.alloc (.cells #[.int .i64 age, .int .i64 2, .int .u32 id, .int .u32 adv, .int .i64 seq, .slice p5 links.length c5, .int .u32 mask, .slice p7 routers.length c7, .int .i64 cost] 29) = wB at hBx hsz hwB ⊢
      refine wp_region_noPanic ?_
      refine wp_region_held_drew (S := (fun W => Boxed w.heap.size cs wB W)) (by kernel_rfl) (hBx.out.next ((Keeps.refl _ _).drew)) (fun hHeld => ?_)
      refine tk 0 rfl ?_
      refine tkL 1 rfl (yieldsIf_load_cell (by rfl) 23 (.tmp 13) rfl w.heap.size 6 rfl _ (fun _ s => s.cell 6 (.int .u32 mask) (by rw [hcs'.out]; rfl)) (fun w s => load_u32 w _ _ _ s)) ?_
      refine tk 3 rfl ?_
      refine tkL 4 rfl (yieldsIf_load_cell (by rfl) 27 (.tmp 16) rfl w.heap.size 7 rfl _ (fun _ s => s.cell 7 (.slice p7 routers.length c7) (by rw [hcs'.out]; rfl)) (fun w s => load_u32s w _ _ _ s)) ?_
      refine stepL 2 rfl (by kernel_rfl) (fun K hK => ?_)
      go_simp
      (refine (wiLay32_nil wB mask hm _ hHeld.k.size).mono ?_; rintro e W1 ⟨p1, d1, rfl, hO1, hg1⟩)
      go_wp2_with fail
      refine hK.out _ _ (hHeld.next hg1) (fun hHeld => ?_)
      clear hK K
      try simp only [Act.put, sA, sZ, sS]
      have hO1' := Lib.hid hO1
      clear hO1 hg1
      refine stepL 5 rfl (by kernel_rfl) (fun K hK => ?_)
      go_simp
      (refine (wiLayAll_any wB _ (be 4 mask) _ routers hrok (by rw [be_len]; omega) _ (hO4 hO1') (Lib.hid (hr.out.keep (hwB.out.trans hHeld.k))) (Lib.hid (fun h0 j e => by obtain ⟨h1, h2⟩ := old_block hr.out h0 j e; exact ⟨fun e2 => by have := hO1'.out.2.1 j e2; have := hsz.out; omega, Nat.lt_of_lt_of_le h1 (hwB.out.trans hHeld.k).size⟩))).mono ?_; rintro e W2 ⟨p2, d2, rfl, hO2, hg2⟩)
      go_wp2_with fail
      refine hK.out _ _ (hHeld.grow hsz.out hg2 hO1'.out.2.1) (fun hHeld => ?_)
      clear hK K
      try simp only [Act.put, sA, sZ, sS]
      refine tk 6 rfl ?_
      refine wpAnyH_done (by kernel_rfl) (NoPanic.normal ?_) _
      have hn : (be 4 mask).length + (bes routers).length = B.length := by rw [← hq'.out, List.length_append]
      rw [hn, hq'.out] at hO2
      rw [hn]
      have hO2' := Lib.hid hO2; have hS2 := Lib.hid hHeld
      clear hO2 hHeld hg2 hn
      go_wp2_with fail
      go_ret
      exact ⟨p2, d2, rfl, hO2'.out.older (by have := hsz.out; omega), hwB.out.trans hS2.out.k⟩
    · rw [if_neg t2] at hq
      have d2 : (type == 2) = false := by rw [beq_eq_false_iff_ne]; exact t2
      have hq' := Lib.hid hq; clear hq hB t1 t2
      obtain ⟨C, hC, lC, hCl⟩ := u32_nat cost
      go_enter Try.func86, Try.ntmps86
      go_upto_region 6 with fail
      generalize w.alloc (.cells #[.int .i64 age, .int .i64 type, .int .u32 id, .int .u32 adv, .int .i64 seq, .slice p5 links.length c5, .int .u32 mask, .slice p7 routers.length c7, .int .i64 cost] 29) = wB at hBx hsz hwB ⊢
      refine wp_region_noPanic ?_
      refine wp_region_held_drew (S := (fun W => Boxed w.heap.size cs wB W)) (by kernel_rfl) (hBx.out.next ((Keeps.refl _ _).drew)) (fun hHeld => ?_)
      refine tk 0 rfl ?_
      refine tkL 1 rfl (yieldsIf_load_cell (by rfl) 23 (.tmp 19) rfl w.heap.size 6 rfl _ (fun _ s => s.cell 6 (.int .u32 mask) (by rw [hcs'.out]; rfl)) (fun w s => load_u32 w _ _ _ s)) ?_
      refine tk 3 rfl ?_
      refine tkL 4 rfl (yieldsIf_load_cell (by rfl) 3 (.tmp 22) rfl w.heap.size 8 rfl _ (fun _ s => s.cell 8 (.int .i64 cost) (by rw [hcs'.out]; rfl)) (fun w s => load_int w _ _ _ s)) ?_
      refine tk 5 rfl ?_
      refine stepL 2 rfl (by kernel_rfl) (fun K hK => ?_)
      go_simp
      (refine (wiLay32_nil wB mask hm _ hHeld.k.size).mono ?_; rintro e W1 ⟨p1, d1, rfl, hO1, hg1⟩)
      go_wp2_with fail
      refine hK.out _ _ (hHeld.next hg1) (fun hHeld => ?_)
      clear hK K
      try simp only [Act.put, sA, sZ, sS]
      have hO1' := Lib.hid hO1
      clear hO1 hg1
      refine stepL 6 rfl (by kernel_rfl) (fun K hK => ?_)
      go_simp
      (refine (wiLay32_any wB _ (be 4 mask) C lC (by rw [be_len]; omega) _ (hO4 hO1')).mono ?_; rintro e W2 ⟨p2, d2', rfl, hO2, hg2⟩)
      go_wp2_with fail
      refine hK.out _ _ (hHeld.grow hsz.out hg2 hO1'.out.2.1) (fun hHeld => ?_)
      clear hK K
      try simp only [Act.put, sA, sZ, sS]
      refine tk 7 rfl ?_
      refine wpAnyH_done (by kernel_rfl) (NoPanic.normal ?_) _
      have hn : (be 4 mask).length + (be 4 C).length = B.length := by rw [← hq'.out, ← hCl.out, List.length_append]
      rw [hn, show be 4 mask ++ be 4 C = B by rw [← hq'.out, ← hCl.out]] at hO2
      rw [hn]
      have hO2' := Lib.hid hO2; have hS2 := Lib.hid hHeld
      clear hO2 hHeld hg2 hn
      go_wp2_with fail
      go_ret
      exact ⟨p2, d2', rfl, hO2'.out.older (by have := hsz.out; omega), hwB.out.trans hS2.out.k⟩
end Go.Proofs.Ytdaongflpllfhaa
/- sums.Internet, walked. -/
namespace Go.Proofs.Ytdaongflpllfhaa
open Go.RowKit

theorem or_pair (x y : UInt8) : bits .or .u64 ((x.toNat : Int) * 256) (y.toNat : Int) = (x.toNat : Int) * 256 + y.toNat := by
  have hx := x.toNat_lt
  have hy := y.toNat_lt
  have h := u64_or_nat (x.toNat * 256) y.toNat (by omega) (by omega)
  rw [or_low] at h
  have e : ((x.toNat * 256 : Nat) : Int) = (x.toNat : Int) * 256 := by omega
  rw [e] at h
  refine h.trans ?_
  rw [Int.natCast_add, e]
theorem and_low (s : Nat) (h : s < 18446744073709551616) : bits .and .u64 (s : Int) 65535 = ((s % 65536 : Nat) : Int) := by
  have := u64_and_nat s 65535 h (by omega)
  rw [show (65535 : Nat) = 2 ^ 16 - 1 from rfl, Nat.and_two_pow_sub_one_eq_mod] at this
  exact this
theorem xor_ones (s : Nat) (h : s < 65536) : 65535 ^^^ s = 65535 - s := by
  apply Nat.eq_of_testBit_eq
  intro i
  have h1 := Nat.testBit_two_pow_sub_succ (x := s) (n := 16) h i
  have h2 := Nat.testBit_two_pow_sub_one 16 i
  rw [show 2 ^ 16 - (s + 1) = 65535 - s by omega] at h1
  rw [show 2 ^ 16 - 1 = 65535 from rfl] at h2
  rw [Nat.testBit_xor, h2, h1]
  by_cases hi : i < 16
  · simp [hi]
  · have hge : 16 ≤ i := by omega
    have : s.testBit i = false := Nat.testBit_lt_two_pow (Nat.lt_of_lt_of_le h (Nat.pow_le_pow_right (n := 2) (by omega) hge))
    simp [hi, this]
theorem not_low (s : Nat) (h : s < 65536) : bits .xor .u16 65535 (s : Int) = ((65535 - s : Nat) : Int) := by
  have := u16_xor_nat 65535 s (by omega) h
  rw [xor_ones s h] at this
  exact this
theorem isum_two (l : List UInt8) (j : Nat) (h : 2 * j + 1 < l.length) : isum true (l.take (2 * j + 2)) = isum true (l.take (2 * j)) + (l[2 * j].toNat * 256 + l[2 * j + 1].toNat) := by
  rw [List.take_succ_eq_append_getElem h, List.take_succ_eq_append_getElem (by omega), isum_snoc, isum_snoc]
  have h1 : (l.take (2 * j)).length = 2 * j := by simp; omega
  have p1 : par (l.take (2 * j)).length = true := by rw [h1]; unfold par; simp
  have p2 : par (l.take (2 * j) ++ [l[2 * j]]).length = false := by rw [List.length_append, h1]; unfold par; simp
  rw [p1, p2]; simp; omega
theorem isum_one (l : List UInt8) (j : Nat) (h : 2 * j + 1 = l.length) : isum true l = isum true (l.take (2 * j)) + l[2 * j].toNat * 256 := by
  have h1 : (l.take (2 * j)).length = 2 * j := by simp; omega
  have e : l = l.take (2 * j) ++ [l[2 * j]] := by rw [← List.take_succ_eq_append_getElem (by omega), h, List.take_length]
  have p1 : par (l.take (2 * j)).length = true := by rw [h1]; unfold par; simp
  conv => lhs; rw [e]
  rw [isum_snoc, p1]; simp

set_option maxRecDepth 100000 in
set_option maxHeartbeats 1000000 in
theorem suInternet_some (g o c : Nat) (l : List UInt8) (hl0 : 0 < l.length) (hl : l.length ≤ 1000000) (hc : l.length ≤ c) (w : World) (hr : Hid (w.rangeAt g o (l.map bv))) :
    Calls Try.prog 80 #[.slice (some ⟨g, o, none⟩) l.length c] w fun e w' => e = .returned (.int .u16 (inet l : Nat)) ∧ ∃ n, w' = w.drewN n := by
  go_enter Try.func80, Try.ntmps80
  go_wp2
  go_loopw [0, 3] (fun bw s wr => ∃ j a : Nat, 2 * j ≤ l.length ∧ Hid (2 * j < l.length → a = o + 2 * j) ∧ bw = .slice (some ⟨g, a, none⟩) (l.length - 2 * j) (c - 2 * j) ∧ s = .int .u64 (isum true (l.take (2 * j)) : Nat) ∧ Hid (∃ m, wr = w.drewN m)) (fun bw _ _ => match bw with | .slice _ n _ => n | _ => 0)
  case atStart => exact ⟨0, o, by omega, Lib.hid (fun _ => rfl), rfl, by simp [isum], Lib.hid ⟨0, rfl⟩⟩
  case round =>
    obtain ⟨j, a, hj, ha, rfl, rfl, hm⟩ := hrel
    have hsl := isum_le (l.take (2 * j)) true
    have hsl2 : isum true (l.take (2 * j)) ≤ 65280 * 1000000 := by
      have : (l.take (2 * j)).length ≤ 1000000 := by simp; omega
      omega
    have hrw : Hid (wr.rangeAt g o (l.map bv)) := by obtain ⟨m, rfl⟩ := hm.out; exact hr
    by_cases h2 : 2 * j + 1 < l.length
    · obtain rfl : a = o + 2 * j := ha.out (by omega)
      have c0 := drop_cell hrw.out (2 * j) (by omega)
      have c1 := drop_cell hrw.out (2 * j + 1) h2
      have hor := or_pair l[2 * j] l[2 * j + 1]
      have hs' := Lib.hid (isum_two l j h2)
      have hx := (l[2 * j]).toNat_lt
      have hy := (l[2 * j + 1]).toNat_lt
      obtain ⟨s, hs⟩ : ∃ s, s = isum true (l.take (2 * j)) := ⟨_, rfl⟩
      rw [← hs] at hs' hsl2 ⊢
      rw [show o + (2 * j + 1) = o + 2 * j + 1 by omega] at c1
      clear hs hsl
      go_wp2
      go_quiet (fail)
      go_wp2
      go_roundw
      case rel =>
        refine ⟨j + 1, if c - 2 * j = 2 then o + 2 * j else o + 2 * j + 2, by omega, Lib.hid (fun h => by rw [if_neg (by omega)]; omega), ?_, ?_, ?_⟩
        · rw [show l.length - 2 * (j + 1) = l.length - 2 * j - 2 by omega, show c - 2 * (j + 1) = c - 2 * j - 2 by omega]; split <;> rfl
        · rw [show 2 * (j + 1) = 2 * j + 2 by omega, hs'.out]; go_num
        · obtain ⟨m, rfl⟩ := hm.out; exact Lib.hid ⟨m + nq, by rw [World.drewN_drewN]⟩
      case measure => show l.length - 2 * j - 2 < l.length - 2 * j; omega
    · obtain ⟨s, hs⟩ : ∃ s, s = isum true l := ⟨_, rfl⟩
      have hfin : s ≤ 65280 * 1000000 := by have := isum_le l true; omega
      have hin : inet l = 65535 - cnorm s := by rw [hs]; rfl
      by_cases h1 : 2 * j + 1 = l.length
      · obtain rfl : a = o + 2 * j := ha.out (by omega)
        have c0 := drop_cell hrw.out (2 * j) (by omega)
        have hs1 := isum_one l j h1
        rw [← hs] at hs1
        have hx := (l[2 * j]).toNat_lt
        obtain ⟨s1, he⟩ : ∃ s1, s1 = isum true (l.take (2 * j)) := ⟨_, rfl⟩
        rw [← he] at hs1 hsl2 ⊢
        have hin' := Lib.hid hin
        clear he hsl hs hin ha hrw
        go_wp2
        go_loop [3] (fun sv => ∃ s1 : Nat, s1 ≤ 65280 * 1000000 ∧ sv = .int .u64 (s1 : Nat) ∧ Hid (inet l = 65535 - cnorm s1)) (fun sv => (intOf sv).toNat)
        case atStart => exact ⟨_, hfin, by first | rfl | (congr 1; omega), hin'⟩
        case round =>
          obtain ⟨s2, hs2, rfl, hc2⟩ := hrel
          by_cases hbig : 65536 ≤ s2
          · have hand := and_low s2 (by omega)
            have hc3 : Hid (inet l = 65535 - cnorm (s2 % 65536 + s2 / 65536)) := Lib.hid (by rw [cnorm_fold hbig]; exact hc2.out)
            go_wp2
            go_round
            case rel => exact ⟨s2 % 65536 + s2 / 65536, by omega, by go_num, hc3⟩
            case measure => simp [intOf]; omega
          · have hc3 : Hid (inet l = 65535 - s2) := Lib.hid (by rw [← cnorm_small (s := s2) (by omega)]; exact hc2.out)
            have hnot := not_low s2 (by omega)
            have hu2 : IntKind.u16.max = 65535 := rfl
            have hu : IntKind.u16.signed = false := rfl
            go_wp2
            go_ret
            obtain ⟨m, rfl⟩ := hm.out
            exact ⟨by rw [hc3.out]; rfl, _, rfl⟩
      · have hlen : l.length = 2 * j := by omega
        have hin' := Lib.hid hin
        have hsl3 : isum true (l.take (2 * j)) = s := by rw [hs, ← hlen, List.take_length]
        rw [hsl3]
        clear hs hsl hsl2 hsl3 hin ha hrw
        go_wp2
        go_loop [3] (fun sv => ∃ s1 : Nat, s1 ≤ 65280 * 1000000 ∧ sv = .int .u64 (s1 : Nat) ∧ Hid (inet l = 65535 - cnorm s1)) (fun sv => (intOf sv).toNat)
        case atStart => exact ⟨_, hfin, by first | rfl | (congr 1; omega), hin'⟩
        case round =>
          obtain ⟨s2, hs2, rfl, hc2⟩ := hrel
          by_cases hbig : 65536 ≤ s2
          · have hand := and_low s2 (by omega)
            have hc3 : Hid (inet l = 65535 - cnorm (s2 % 65536 + s2 / 65536)) := Lib.hid (by rw [cnorm_fold hbig]; exact hc2.out)
            go_wp2
            go_round
            case rel => exact ⟨s2 % 65536 + s2 / 65536, by omega, by go_num, hc3⟩
            case measure => simp [intOf]; omega
          · have hc3 : Hid (inet l = 65535 - s2) := Lib.hid (by rw [← cnorm_small (s := s2) (by omega)]; exact hc2.out)
            have hnot := not_low s2 (by omega)
            have hu2 : IntKind.u16.max = 65535 := rfl
            have hu : IntKind.u16.signed = false := rfl
            go_wp2
            go_ret
            obtain ⟨m, rfl⟩ := hm.out
            exact ⟨by rw [hc3.out]; rfl, _, rfl⟩
theorem suInternet_none (p : Option Addr) (c : Nat) (w : World) : Calls Try.prog 80 #[.slice p 0 c] w fun e w' => e = .returned (.int .u16 (inet [] : Nat)) ∧ ∃ n, w' = w.drewN n := by
  have hn := not_low 0 (by omega)
  have hu2 : IntKind.u16.max = 65535 := rfl
  have hu : IntKind.u16.signed = false := rfl
  have ha := and_low 0 (by omega)
  go_enter Try.func80, Try.ntmps80
  go_wp2
  go_loop [0, 3] (fun bw s => bw = .slice p 0 c ∧ s = .int .u64 0) (fun _ _ => 0)
  case atStart => exact ⟨rfl, rfl⟩
  case round =>
    obtain ⟨rfl, rfl⟩ := hrel
    go_wp2
    go_loop [3] (fun s => s = .int .u64 0) (fun _ => 0)
    case atStart => rfl
    case round =>
      obtain rfl := hrel
      go_wp2
      go_ret
      exact ⟨rfl, 0, rfl⟩
theorem suInternet_any (sl : Value) (l : List UInt8) (hl : l.length ≤ 1000000) (w : World) (h : Hid (BytesAt w sl l)) :
    Calls Try.prog 80 #[sl] w fun e w' => e = .returned (.int .u16 (inet l : Nat)) ∧ ∃ n, w' = w.drewN n := by
  obtain ⟨p, c, rfl, -, hc, hb⟩ := h.out
  cases l with
  | nil => exact suInternet_none p c w
  | cons x l =>
    obtain ⟨g, o, rfl, hr⟩ := hb (by simp)
    exact suInternet_some g o c (x :: l) (by simp) hl hc w (Lib.hid hr)
end Go.Proofs.Ytdaongflpllfhaa
/- sums.Fletcher, walked. -/
namespace Go.Proofs.Ytdaongflpllfhaa
open Go.RowKit

theorem suGrow_r (c0 c1 r0 r1 : Nat) (h0 : c0 < 255) (h1 : c1 < 255) (sl : Value) (l : List UInt8) (hl : l.length ≤ 9223372036854775807) (w : World) (h : Hid (BytesAt w sl l)) (hr : Hid (fl (c0, c1) l = (r0, r1))) :
    Calls Try.prog 110 #[.int .i64 c0, .int .i64 c1, sl] w fun e w' => e = .returned (.tuple #[.int .i64 r0, .int .i64 r1]) ∧ w = w' :=
  (suGrow_any c0 c1 h0 h1 sl l hl w h).mono fun e w' ⟨he, hw⟩ => ⟨by rw [he, hr.out], hw⟩
theorem bytes_tail {w : World} {g o c : Nat} {l : List UInt8} (h : w.rangeAt g o (l.map bv)) (hc : l.length ≤ c) (k : Nat) (hk : k ≤ l.length) :
    BytesAt w (.slice (if c = k then some ⟨g, o, none⟩ else some ⟨g, o + k, none⟩) (l.length - k) (c - k)) (l.drop k) := by
  by_cases e : c = k
  · rw [if_pos e]
    have hn : l.drop k = [] := List.drop_of_length_le (by omega)
    rw [hn, show l.length - k = 0 by omega]
    exact ⟨some ⟨g, o, none⟩, _, rfl, (fun h => nomatch h), Nat.zero_le _, fun h => by simp at h⟩
  · rw [if_neg e]
    have := range_part h k (l.length - k)
    rw [List.take_of_length_le (by simp)] at this
    exact BytesAt.of (by simp) (by omega) this
theorem bytes_head {w : World} {g o c : Nat} {l : List UInt8} (h : w.rangeAt g o (l.map bv)) (hc : l.length ≤ c) (k : Nat) (hk : k ≤ l.length) :
    BytesAt w (.slice (some ⟨g, o, none⟩) k c) (l.take k) := by
  have := range_part h 0 k
  exact BytesAt.of (by simp; omega) (by omega) (by simpa using this)

set_option maxRecDepth 100000 in
set_option maxHeartbeats 1000000 in
theorem suFletcher_yes (g o c : Nat) (l : List UInt8) (k : Nat) (hk : k + 2 ≤ l.length) (hl : l.length ≤ 1000000) (hc : l.length ≤ c) (w : World) (hr : Hid (w.rangeAt g o (l.map bv))) :
    Calls Try.prog 88 #[.slice (some ⟨g, o, none⟩) l.length c, .int .i64 k] w fun e w' => e = .returned (.tuple #[.int .u8 (flX (zed l k) l.length k : Nat), .int .u8 (flY (zed l k) l.length k : Nat)]) ∧ Keeps (fun _ => False) w w' := by
  obtain ⟨a0, a1, ha⟩ : ∃ a0 a1, fl (0, 0) (l.take k) = (a0, a1) := ⟨_, _, rfl⟩
  obtain ⟨b0, b1, hb⟩ : ∃ b0 b1, fl (a0, a1) [0, 0] = (b0, b1) := ⟨_, _, rfl⟩
  have hz : fl (b0, b1) (l.drop (k + 2)) = (s0 (zed l k) % 255, s1 (zed l k) % 255) := by
    rw [← fl_zero, ← zed_eq hk, fl_append, fl_append, ha, hb]
  have la := fl_lt (l.take k) (0, 0) (by decide) (by decide)
  rw [ha] at la
  have lb := fl_lt [0, 0] (a0, a1) la.1 la.2
  rw [hb] at lb
  obtain ⟨C0, hC0⟩ : ∃ C0, C0 = s0 (zed l k) % 255 := ⟨_, rfl⟩
  obtain ⟨C1, hC1⟩ : ∃ C1, C1 = s1 (zed l k) % 255 := ⟨_, rfl⟩
  have hX : flX (zed l k) l.length k = ((l.length - k - 1) % 255 * C0 + 255 - C1) % 255 := by rw [hC0, hC1]; rfl
  have hY : flY (zed l k) l.length k = (510 - C0 - flX (zed l k) l.length k) % 255 := by rw [hC0]; rfl
  have lc0 : C0 < 255 := by rw [hC0]; exact Nat.mod_lt _ (by omega)
  have lc1 : C1 < 255 := by rw [hC1]; exact Nat.mod_lt _ (by omega)
  rw [← hC0, ← hC1] at hz
  obtain ⟨B, hB⟩ : ∃ B, B = (l.length - k - 1) % 255 := ⟨_, rfl⟩
  have lB : B < 255 := by rw [hB]; exact Nat.mod_lt _ (by omega)
  have hBi : ((l.length : Int) - k - 1) % 255 = (B : Int) := by omega
  obtain ⟨M, hM⟩ : ∃ M, M = B * C0 := ⟨_, rfl⟩
  have lM : M ≤ 254 * 254 := by rw [hM]; exact Nat.mul_le_mul (by omega) (by omega)
  have hMi : (B : Int) * C0 = (M : Int) := by rw [hM]; exact (Int.natCast_mul _ _).symm
  rw [← hB, ← hM] at hX
  rw [hX] at hY ⊢
  rw [hY]
  obtain ⟨la1, la2⟩ := la
  obtain ⟨lb1, lb2⟩ := lb
  have ha' := Lib.hid ha; have hb' := Lib.hid hb; have hz' := Lib.hid hz
  clear ha hb hz hC0 hC1 hX hY hB hM
  have hh := Lib.hid (bytes_head hr.out hc k (by omega))
  have h00 : Hid (BytesAt (w.alloc (.cells #[.int .u8 0, .int .u8 0] 5)) (.slice (some ⟨w.heap.size, 0, none⟩) 2 2) [0, 0]) := Lib.hid (OwnB.new w w (Nat.le_refl _) [0, 0] (n := 2) rfl (by unfold maxLen; omega)).bytes
  have ht0 := (bytes_tail hr.out hc (k + 2) (by omega)).keep ((Keeps.refl _ _).alloc (.cells #[.int .u8 0, .int .u8 0] 5))
  obtain ⟨tv, htv⟩ : ∃ tv, tv = Value.slice (if c = k + 2 then some ⟨g, o, none⟩ else some ⟨g, o + (k + 2), none⟩) (l.length - (k + 2)) (c - (k + 2)) := ⟨_, rfl⟩
  rw [← htv] at ht0
  have ht2 := Lib.hid ht0; clear ht0
  have hwalk : Calls Try.prog 110 #[.int .i64 b0, .int .i64 b1, tv] (w.alloc (.cells #[.int .u8 0, .int .u8 0] 5)) fun e w' => e = .returned (.tuple #[.int .i64 C0, .int .i64 C1]) ∧ w.alloc (.cells #[.int .u8 0, .int .u8 0] 5) = w' :=
    suGrow_r b0 b1 C0 C1 lb1 lb2 tv (l.drop (k + 2)) (by simp; omega) _ ht2 hz'
  by_cases hck : c = k + 2
  · subst hck
    rw [if_pos rfl, Nat.sub_self, show l.length - (k + 2) = 0 by omega] at htv
    subst htv
    have hw' := Lib.hid hwalk
    clear hwalk ht2 hz'
    go_enter Try.func88, Try.ntmps88
    go_wp2_with fail
    refine (suGrow_r 0 0 a0 a1 (by omega) (by omega) _ (l.take k) (by simp; omega) _ hh ha').mono ?_
    rintro e w1 ⟨rfl, rfl⟩
    go_wp2_with fail
    refine (suGrow_r a0 a1 b0 b1 la1 la2 _ [0, 0] (by simp) _ h00 hb').mono ?_
    rintro e w1 ⟨rfl, rfl⟩
    go_wp2_with fail
    refine hw'.out.mono ?_
    rintro e w1 ⟨rfl, rfl⟩
    clear hw' h00 hh ha' hb' hr
    go_wp2_with fail
    go_ret2
    refine ⟨ret_pair ?_ ?_, (Keeps.refl _ _).alloc _⟩
    · omega
    · omega
  · rw [if_neg hck] at htv
    subst htv
    have hw' := Lib.hid hwalk
    clear hwalk ht2 hz'
    go_enter Try.func88, Try.ntmps88
    go_wp2_with fail
    refine (suGrow_r 0 0 a0 a1 (by omega) (by omega) _ (l.take k) (by simp; omega) _ hh ha').mono ?_
    rintro e w1 ⟨rfl, rfl⟩
    go_wp2_with fail
    refine (suGrow_r a0 a1 b0 b1 la1 la2 _ [0, 0] (by simp) _ h00 hb').mono ?_
    rintro e w1 ⟨rfl, rfl⟩
    go_wp2_with fail
    refine hw'.out.mono ?_
    rintro e w1 ⟨rfl, rfl⟩
    clear hw' h00 hh ha' hb' hr
    go_wp2_with fail
    go_ret2
    refine ⟨ret_pair ?_ ?_, (Keeps.refl _ _).alloc _⟩
    · omega
    · omega
set_option maxRecDepth 100000 in
theorem suFletcher_no (sl : Value) (l : List UInt8) (k : Int) (hk : k < 0 ∨ (l.length : Int) - 2 < k) (hk1 : -9223372036854775808 ≤ k) (hk2 : k ≤ 9223372036854775807) (hl : l.length ≤ 1000000) (w : World) (h : Hid (BytesAt w sl l)) :
    Calls Try.prog 88 #[sl, .int .i64 k] w fun e w' => e = .returned (.tuple #[.int .u8 0, .int .u8 0]) ∧ w = w' := by
  obtain ⟨p, c, rfl, -, -, -⟩ := h.out
  clear h
  rcases hk with hk | hk
  · go_enter Try.func88, Try.ntmps88
    go_wp2
    go_ret2
    exact ⟨rfl, rfl⟩
  · by_cases h0 : k < 0
    · go_enter Try.func88, Try.ntmps88
      go_wp2
      go_ret2
      exact ⟨rfl, rfl⟩
    · go_enter Try.func88, Try.ntmps88
      go_wp2
      go_ret2
      exact ⟨rfl, rfl⟩
end Go.Proofs.Ytdaongflpllfhaa
