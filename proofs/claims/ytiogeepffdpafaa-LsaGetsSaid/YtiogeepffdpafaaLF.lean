/- What an Lsa may be: lsa.canBe, walked. -/
import Derived.Test.YtiogeepffdpafaaLE
namespace Go.Proofs.Ytiogeepffdpafaa
open Go.RowKit

/-- an Lsa, plain -/
structure LsaD where
  age : Int
  type : Int
  id : Nat
  adv : Nat
  seq : Int
  links : List LinkD
  mask : Nat
  routers : List Nat
  cost : Int
structure LsaD.ok (l : LsaD) : Prop where
  age : -9223372036854775808 ≤ l.age ∧ l.age ≤ 9223372036854775807
  type : -9223372036854775808 ≤ l.type ∧ l.type ≤ 9223372036854775807
  id : l.id < 4294967296
  adv : l.adv < 4294967296
  seq : -9223372036854775808 ≤ l.seq ∧ l.seq ≤ 9223372036854775807
  links : ∀ k ∈ l.links, k.ok
  mask : l.mask < 4294967296
  routers : Small l.routers
  cost : -9223372036854775808 ≤ l.cost ∧ l.cost ≤ 9223372036854775807
def lsaVals (l : LsaD) (sl sr : Value) : List Value := [.int .i64 l.age, .int .i64 l.type, .int .u32 l.id, .int .u32 l.adv, .int .i64 l.seq, sl, .int .u32 l.mask, sr, .int .i64 l.cost]
/-- may it be: what it tells, by its type -/
def toldB (l : LsaD) : Bool :=
  if l.type = 1 then decide (l.links.length ≤ 40) && (!l.links.any wrongB && (decide (l.mask = 0) && (decide (l.routers.length = 0) && decide (l.cost = 0))))
  else if l.type = 2 then decide (l.links.length = 0) && (withinB l.routers.length 1 40 && decide (l.cost = 0))
  else if l.type = 3 then decide (l.links.length = 0) && (decide (l.routers.length = 0) && withinB l.cost 0 16777215)
  else false
def canB (l : LsaD) : Bool := withinB l.age 0 3600 && (withinB l.seq (-2147483647) 2147483647 && toldB l)

theorem two_ways (a b : Bool) : a = false ∨ (a = true ∧ b = false) ∨ (a = true ∧ b = true) := by cases a <;> cases b <;> simp
theorem three_ways (a b c : Bool) : a = false ∨ (a = true ∧ b = false) ∨ (a = true ∧ b = true ∧ c = false) ∨ (a = true ∧ b = true ∧ c = true) := by cases a <;> cases b <;> cases c <;> simp
theorem five_ways (a b c d e : Bool) : a = false ∨ (a = true ∧ b = false) ∨ (a = true ∧ b = true ∧ c = false) ∨ (a = true ∧ b = true ∧ c = true ∧ d = false) ∨ (a = true ∧ b = true ∧ c = true ∧ d = true ∧ e = false) ∨ (a = true ∧ b = true ∧ c = true ∧ d = true ∧ e = true) := by cases a <;> cases b <;> cases c <;> cases d <;> cases e <;> simp
theorem nat_beq_true {a b : Nat} (h : decide (a = b) = true) : ((a : Int) == (b : Int)) = true := by rw [beq_iff_eq]; have := of_decide_eq_true h; omega
theorem nat_beq_false {a b : Nat} (h : decide (a = b) = false) : ((a : Int) == (b : Int)) = false := by rw [beq_eq_false_iff_ne]; have := of_decide_eq_false h; omega

set_option maxRecDepth 100000 in
set_option maxHeartbeats 4000000 in
theorem lsCanBe_any (age type seq cost : Int) (id adv mask : Nat) (links : List LinkD) (routers : List Nat) (p5 p7 : Option Addr) (c5 c7 : Nat) (z : Bool) (w : World)
    (hl : Hid (LinksAt w (.slice p5 links.length c5) links)) (hll : links.length ≤ 9223372036854775807) (hrl : routers.length ≤ 9223372036854775807) (hz : Hid (canB ⟨age, type, id, adv, seq, links, mask, routers, cost⟩ = z)) :
    Calls Try.prog 56 #[.agg #[.int .i64 age, .int .i64 type, .int .u32 id, .int .u32 adv, .int .i64 seq, .slice p5 links.length c5, .int .u32 mask, .slice p7 routers.length c7, .int .i64 cost]] w (fun e w' => e = .returned (.bool z) ∧ Keeps (fun _ => False) w w') := by
  obtain ⟨cs, hcs⟩ : ∃ cs : List Value, cs = [.int .i64 age, .int .i64 type, .int .u32 id, .int .u32 adv, .int .i64 seq, .slice p5 links.length c5, .int .u32 mask, .slice p7 routers.length c7, .int .i64 cost] := ⟨_, rfl⟩
  have hB : Hid (Boxed w.heap.size cs w (w.alloc (.cells #[.int .i64 age, .int .i64 type, .int .u32 id, .int .u32 adv, .int .i64 seq, .slice p5 links.length c5, .int .u32 mask, .slice p7 routers.length c7, .int .i64 cost] 36))) := Lib.hid (by rw [hcs]; exact boxed_new w _ _)
  have hcs' := Lib.hid hcs; clear hcs
  have hl2 := Lib.hid (hl.out.keep ((Keeps.refl _ _).alloc (.cells #[.int .i64 age, .int .i64 type, .int .u32 id, .int .u32 adv, .int .i64 seq, .slice p5 links.length c5, .int .u32 mask, .slice p7 routers.length c7, .int .i64 cost] 36)))
  have hq := hz.out
  unfold canB at hq
  simp only at hq
  obtain ⟨a, ha⟩ : ∃ a, withinB age 0 3600 = a := ⟨_, rfl⟩
  obtain ⟨b, hb⟩ : ∃ b, withinB seq (-2147483647) 2147483647 = b := ⟨_, rfl⟩
  rw [ha, hb] at hq
  have ha' := Lib.hid ha; have hb' := Lib.hid hb
  clear ha hb hz hl
  rcases two_ways a b with rfl | ⟨rfl, rfl⟩ | ⟨rfl, rfl⟩
  · obtain rfl : false = z := hq
    go_enter Try.func56, Try.ntmps56
    go_wp2_with fail
    refine (lsWithin_r age 0 3600 _ _ ha').mono ?_
    rintro e w' ⟨rfl, rfl⟩
    go_wp2_with fail
    go_ret
    exact ⟨rfl, (Keeps.refl _ _).alloc _⟩
  · obtain rfl : false = z := hq
    go_enter Try.func56, Try.ntmps56
    go_wp2_with fail
    refine (lsWithin_r age 0 3600 _ _ ha').mono ?_
    rintro e w' ⟨rfl, rfl⟩
    go_wp2_with fail
    refine (lsWithin_r seq (-2147483647) 2147483647 _ _ hb').mono ?_
    rintro e w' ⟨rfl, rfl⟩
    go_wp2_with fail
    go_ret
    exact ⟨rfl, (Keeps.refl _ _).alloc _⟩
  · have hq2 : toldB ⟨age, type, id, adv, seq, links, mask, routers, cost⟩ = z := hq
    clear hq
    unfold toldB at hq2
    simp only at hq2
    by_cases t1 : type = 1
    · subst t1
      rw [if_pos rfl] at hq2
      obtain ⟨x1, h1⟩ : ∃ x, decide (links.length ≤ 40) = x := ⟨_, rfl⟩
      obtain ⟨x2, h2⟩ : ∃ x, links.any wrongB = x := ⟨_, rfl⟩
      obtain ⟨x3, h3⟩ : ∃ x, decide (mask = 0) = x := ⟨_, rfl⟩
      obtain ⟨x4, h4⟩ : ∃ x, decide (routers.length = 0) = x := ⟨_, rfl⟩
      obtain ⟨x5, h5⟩ : ∃ x, decide (cost = 0) = x := ⟨_, rfl⟩
      rw [h1, h2, h3, h4, h5] at hq2
      have h2' := Lib.hid h2; clear h2
      obtain ⟨y2, hy2⟩ : ∃ y, (!x2) = y := ⟨_, rfl⟩
      rw [hy2] at hq2
      rcases five_ways x1 y2 x3 x4 x5 with rfl | ⟨rfl, rfl⟩ | ⟨rfl, rfl, rfl⟩ | ⟨rfl, rfl, rfl, rfl⟩ | ⟨rfl, rfl, rfl, rfl, rfl⟩ | ⟨rfl, rfl, rfl, rfl, rfl⟩
      · obtain rfl : false = z := hq2
        have e1 : ¬ links.length ≤ 40 := of_decide_eq_false h1
        clear h1 h3 h4 h5 hy2
        go_enter Try.func56, Try.ntmps56
        go_wp2_with fail
        refine (lsWithin_r age 0 3600 _ _ ha').mono ?_
        rintro e w' ⟨rfl, rfl⟩
        go_wp2_with fail
        refine (lsWithin_r seq (-2147483647) 2147483647 _ _ hb').mono ?_
        rintro e w' ⟨rfl, rfl⟩
        go_wp2_with fail
        go_ret
        exact ⟨rfl, (Keeps.refl _ _).alloc _⟩
      · obtain rfl : false = z := hq2
        have e1 : links.length ≤ 40 := of_decide_eq_true h1
        obtain rfl : x2 = true := by cases x2 <;> simp_all
        clear h1 h3 h4 h5 hy2
        go_enter Try.func56, Try.ntmps56
        go_wp2_with fail
        refine (lsWithin_r age 0 3600 _ _ ha').mono ?_
        rintro e w' ⟨rfl, rfl⟩
        go_wp2_with fail
        refine (lsWithin_r seq (-2147483647) 2147483647 _ _ hb').mono ?_
        rintro e w' ⟨rfl, rfl⟩
        go_wp2_with fail
        refine (slCFLinks_any _ links hll _ _ hl2 h2').mono ?_
        rintro e w2 ⟨rfl, k2⟩
        have b4 := (hB.out.next k2).cell 6 (.int .u32 mask) (by rw [hcs'.out]; rfl)
        have b5 := (hB.out.next k2).cell 7 (.slice p7 routers.length c7) (by rw [hcs'.out]; rfl)
        have b6 := (hB.out.next k2).cell 8 (.int .i64 cost) (by rw [hcs'.out]; rfl)
        have hk2 := Lib.hid (hB.out.next k2).k
        clear k2
        go_wp2_with fail
        go_ret
        exact ⟨rfl, hk2.out⟩
      · obtain rfl : false = z := hq2
        have e1 : links.length ≤ 40 := of_decide_eq_true h1
        obtain rfl : x2 = false := by cases x2 <;> simp_all
        have e3 : ((mask : Int) == 0) = false := nat_beq_false h3
        clear h1 h3 h4 h5 hy2
        go_enter Try.func56, Try.ntmps56
        go_wp2_with fail
        refine (lsWithin_r age 0 3600 _ _ ha').mono ?_
        rintro e w' ⟨rfl, rfl⟩
        go_wp2_with fail
        refine (lsWithin_r seq (-2147483647) 2147483647 _ _ hb').mono ?_
        rintro e w' ⟨rfl, rfl⟩
        go_wp2_with fail
        refine (slCFLinks_any _ links hll _ _ hl2 h2').mono ?_
        rintro e w2 ⟨rfl, k2⟩
        have b4 := (hB.out.next k2).cell 6 (.int .u32 mask) (by rw [hcs'.out]; rfl)
        have b5 := (hB.out.next k2).cell 7 (.slice p7 routers.length c7) (by rw [hcs'.out]; rfl)
        have b6 := (hB.out.next k2).cell 8 (.int .i64 cost) (by rw [hcs'.out]; rfl)
        have hk2 := Lib.hid (hB.out.next k2).k
        clear k2
        go_wp2_with fail
        go_ret
        exact ⟨rfl, hk2.out⟩
      · obtain rfl : false = z := hq2
        have e1 : links.length ≤ 40 := of_decide_eq_true h1
        obtain rfl : x2 = false := by cases x2 <;> simp_all
        have e3 : ((mask : Int) == 0) = true := nat_beq_true h3
        have e4 : ¬ routers.length = 0 := of_decide_eq_false h4
        have e4' : ((routers.length : Int) == 0) = false := by rw [beq_eq_false_iff_ne]; omega
        have e4h := Lib.hid e4; clear e4
        clear h1 h3 h4 h5 hy2
        go_enter Try.func56, Try.ntmps56
        go_wp2_with fail
        refine (lsWithin_r age 0 3600 _ _ ha').mono ?_
        rintro e w' ⟨rfl, rfl⟩
        go_wp2_with fail
        refine (lsWithin_r seq (-2147483647) 2147483647 _ _ hb').mono ?_
        rintro e w' ⟨rfl, rfl⟩
        go_wp2_with fail
        refine (slCFLinks_any _ links hll _ _ hl2 h2').mono ?_
        rintro e w2 ⟨rfl, k2⟩
        have b4 := (hB.out.next k2).cell 6 (.int .u32 mask) (by rw [hcs'.out]; rfl)
        have b5 := (hB.out.next k2).cell 7 (.slice p7 routers.length c7) (by rw [hcs'.out]; rfl)
        have b6 := (hB.out.next k2).cell 8 (.int .i64 cost) (by rw [hcs'.out]; rfl)
        have hk2 := Lib.hid (hB.out.next k2).k
        clear k2
        go_wp2_with fail
        go_ret
        exact ⟨rfl, hk2.out⟩
      · obtain rfl : false = z := hq2
        have e1 : links.length ≤ 40 := of_decide_eq_true h1
        obtain rfl : x2 = false := by cases x2 <;> simp_all
        have e3 : ((mask : Int) == 0) = true := nat_beq_true h3
        have e4 : routers.length = 0 := of_decide_eq_true h4
        have e5 : (cost == 0) = false := by rw [beq_eq_false_iff_ne]; exact of_decide_eq_false h5
        have e4' : ((routers.length : Int) == 0) = true := by rw [beq_iff_eq]; omega
        have e4h := Lib.hid e4; clear e4
        clear h1 h3 h4 h5 hy2
        go_enter Try.func56, Try.ntmps56
        go_wp2_with fail
        refine (lsWithin_r age 0 3600 _ _ ha').mono ?_
        rintro e w' ⟨rfl, rfl⟩
        go_wp2_with fail
        refine (lsWithin_r seq (-2147483647) 2147483647 _ _ hb').mono ?_
        rintro e w' ⟨rfl, rfl⟩
        go_wp2_with fail
        refine (slCFLinks_any _ links hll _ _ hl2 h2').mono ?_
        rintro e w2 ⟨rfl, k2⟩
        have b4 := (hB.out.next k2).cell 6 (.int .u32 mask) (by rw [hcs'.out]; rfl)
        have b5 := (hB.out.next k2).cell 7 (.slice p7 routers.length c7) (by rw [hcs'.out]; rfl)
        have b6 := (hB.out.next k2).cell 8 (.int .i64 cost) (by rw [hcs'.out]; rfl)
        have hk2 := Lib.hid (hB.out.next k2).k
        clear k2
        go_wp2_with fail
        go_ret
        exact ⟨rfl, hk2.out⟩
      · obtain rfl : true = z := hq2
        have e1 : links.length ≤ 40 := of_decide_eq_true h1
        obtain rfl : x2 = false := by cases x2 <;> simp_all
        have e3 : ((mask : Int) == 0) = true := nat_beq_true h3
        have e4 : routers.length = 0 := of_decide_eq_true h4
        have e5 : (cost == 0) = true := by rw [beq_iff_eq]; exact of_decide_eq_true h5
        have e4' : ((routers.length : Int) == 0) = true := by rw [beq_iff_eq]; omega
        have e4h := Lib.hid e4; clear e4
        clear h1 h3 h4 h5 hy2
        go_enter Try.func56, Try.ntmps56
        go_wp2_with fail
        refine (lsWithin_r age 0 3600 _ _ ha').mono ?_
        rintro e w' ⟨rfl, rfl⟩
        go_wp2_with fail
        refine (lsWithin_r seq (-2147483647) 2147483647 _ _ hb').mono ?_
        rintro e w' ⟨rfl, rfl⟩
        go_wp2_with fail
        refine (slCFLinks_any _ links hll _ _ hl2 h2').mono ?_
        rintro e w2 ⟨rfl, k2⟩
        have b4 := (hB.out.next k2).cell 6 (.int .u32 mask) (by rw [hcs'.out]; rfl)
        have b5 := (hB.out.next k2).cell 7 (.slice p7 routers.length c7) (by rw [hcs'.out]; rfl)
        have b6 := (hB.out.next k2).cell 8 (.int .i64 cost) (by rw [hcs'.out]; rfl)
        have hk2 := Lib.hid (hB.out.next k2).k
        clear k2
        go_wp2_with fail
        go_ret
        exact ⟨rfl, hk2.out⟩
    · rw [if_neg t1] at hq2
      have d1 : (type == 1) = false := by rw [beq_eq_false_iff_ne]; exact t1
      by_cases t2 : type = 2
      · subst t2
        rw [if_pos rfl] at hq2
        obtain ⟨x1, h1⟩ : ∃ x, decide (links.length = 0) = x := ⟨_, rfl⟩
        obtain ⟨x2, h2⟩ : ∃ x, withinB routers.length 1 40 = x := ⟨_, rfl⟩
        obtain ⟨x3, h3⟩ : ∃ x, decide (cost = 0) = x := ⟨_, rfl⟩
        rw [h1, h2, h3] at hq2
        have h2' := Lib.hid h2; clear h2 t1 d1
        rcases three_ways x1 x2 x3 with rfl | ⟨rfl, rfl⟩ | ⟨rfl, rfl, rfl⟩ | ⟨rfl, rfl, rfl⟩
        · obtain rfl : false = z := hq2
          have e1 : ((links.length : Int) == 0) = false := by rw [beq_eq_false_iff_ne]; have := of_decide_eq_false h1; omega
          clear h1 h3
          go_enter Try.func56, Try.ntmps56
          go_wp2_with fail
          refine (lsWithin_r age 0 3600 _ _ ha').mono ?_
          rintro e w' ⟨rfl, rfl⟩
          go_wp2_with fail
          refine (lsWithin_r seq (-2147483647) 2147483647 _ _ hb').mono ?_
          rintro e w' ⟨rfl, rfl⟩
          go_wp2_with fail
          go_ret
          exact ⟨rfl, (Keeps.refl _ _).alloc _⟩
        · obtain rfl : false = z := hq2
          have e1 : ((links.length : Int) == 0) = true := by rw [beq_iff_eq]; have := of_decide_eq_true h1; omega
          clear h1 h3
          go_enter Try.func56, Try.ntmps56
          go_wp2_with fail
          refine (lsWithin_r age 0 3600 _ _ ha').mono ?_
          rintro e w' ⟨rfl, rfl⟩
          go_wp2_with fail
          refine (lsWithin_r seq (-2147483647) 2147483647 _ _ hb').mono ?_
          rintro e w' ⟨rfl, rfl⟩
          go_wp2_with fail
          refine (lsWithin_r (routers.length : Int) 1 40 _ _ h2').mono ?_
          rintro e w' ⟨rfl, rfl⟩
          go_wp2_with fail
          go_ret
          exact ⟨rfl, (Keeps.refl _ _).alloc _⟩
        · obtain rfl : false = z := hq2
          have e1 : ((links.length : Int) == 0) = true := by rw [beq_iff_eq]; have := of_decide_eq_true h1; omega
          have e5 : (cost == 0) = false := by rw [beq_eq_false_iff_ne]; exact of_decide_eq_false h3
          clear h1 h3
          go_enter Try.func56, Try.ntmps56
          go_wp2_with fail
          refine (lsWithin_r age 0 3600 _ _ ha').mono ?_
          rintro e w' ⟨rfl, rfl⟩
          go_wp2_with fail
          refine (lsWithin_r seq (-2147483647) 2147483647 _ _ hb').mono ?_
          rintro e w' ⟨rfl, rfl⟩
          go_wp2_with fail
          refine (lsWithin_r (routers.length : Int) 1 40 _ _ h2').mono ?_
          rintro e w' ⟨rfl, rfl⟩
          go_wp2_with fail
          go_ret
          exact ⟨rfl, (Keeps.refl _ _).alloc _⟩
        · obtain rfl : true = z := hq2
          have e1 : ((links.length : Int) == 0) = true := by rw [beq_iff_eq]; have := of_decide_eq_true h1; omega
          have e5 : (cost == 0) = true := by rw [beq_iff_eq]; exact of_decide_eq_true h3
          clear h1 h3
          go_enter Try.func56, Try.ntmps56
          go_wp2_with fail
          refine (lsWithin_r age 0 3600 _ _ ha').mono ?_
          rintro e w' ⟨rfl, rfl⟩
          go_wp2_with fail
          refine (lsWithin_r seq (-2147483647) 2147483647 _ _ hb').mono ?_
          rintro e w' ⟨rfl, rfl⟩
          go_wp2_with fail
          refine (lsWithin_r (routers.length : Int) 1 40 _ _ h2').mono ?_
          rintro e w' ⟨rfl, rfl⟩
          go_wp2_with fail
          go_ret
          exact ⟨rfl, (Keeps.refl _ _).alloc _⟩
      · rw [if_neg t2] at hq2
        have d2 : (type == 2) = false := by rw [beq_eq_false_iff_ne]; exact t2
        by_cases t3 : type = 3
        · subst t3
          rw [if_pos rfl] at hq2
          obtain ⟨x1, h1⟩ : ∃ x, decide (links.length = 0) = x := ⟨_, rfl⟩
          obtain ⟨x2, h2⟩ : ∃ x, decide (routers.length = 0) = x := ⟨_, rfl⟩
          obtain ⟨x3, h3⟩ : ∃ x, withinB cost 0 16777215 = x := ⟨_, rfl⟩
          rw [h1, h2, h3] at hq2
          have h3' := Lib.hid h3; clear h3 t1 d1 t2 d2
          rcases three_ways x1 x2 x3 with rfl | ⟨rfl, rfl⟩ | ⟨rfl, rfl, rfl⟩ | ⟨rfl, rfl, rfl⟩
          · obtain rfl : false = z := hq2
            have e1 : ((links.length : Int) == 0) = false := by rw [beq_eq_false_iff_ne]; have := of_decide_eq_false h1; omega
            clear h1 h2
            go_enter Try.func56, Try.ntmps56
            go_wp2_with fail
            refine (lsWithin_r age 0 3600 _ _ ha').mono ?_
            rintro e w' ⟨rfl, rfl⟩
            go_wp2_with fail
            refine (lsWithin_r seq (-2147483647) 2147483647 _ _ hb').mono ?_
            rintro e w' ⟨rfl, rfl⟩
            go_wp2_with fail
            go_ret
            exact ⟨rfl, (Keeps.refl _ _).alloc _⟩
          · obtain rfl : false = z := hq2
            have e1 : ((links.length : Int) == 0) = true := by rw [beq_iff_eq]; have := of_decide_eq_true h1; omega
            have e2 : ((routers.length : Int) == 0) = false := by rw [beq_eq_false_iff_ne]; have := of_decide_eq_false h2; omega
            clear h1 h2
            go_enter Try.func56, Try.ntmps56
            go_wp2_with fail
            refine (lsWithin_r age 0 3600 _ _ ha').mono ?_
            rintro e w' ⟨rfl, rfl⟩
            go_wp2_with fail
            refine (lsWithin_r seq (-2147483647) 2147483647 _ _ hb').mono ?_
            rintro e w' ⟨rfl, rfl⟩
            go_wp2_with fail
            go_ret
            exact ⟨rfl, (Keeps.refl _ _).alloc _⟩
          · obtain rfl : false = z := hq2
            have e1 : ((links.length : Int) == 0) = true := by rw [beq_iff_eq]; have := of_decide_eq_true h1; omega
            have e2 : ((routers.length : Int) == 0) = true := by rw [beq_iff_eq]; have := of_decide_eq_true h2; omega
            clear h1 h2
            go_enter Try.func56, Try.ntmps56
            go_wp2_with fail
            refine (lsWithin_r age 0 3600 _ _ ha').mono ?_
            rintro e w' ⟨rfl, rfl⟩
            go_wp2_with fail
            refine (lsWithin_r seq (-2147483647) 2147483647 _ _ hb').mono ?_
            rintro e w' ⟨rfl, rfl⟩
            go_wp2_with fail
            refine (lsWithin_r cost 0 16777215 _ _ h3').mono ?_
            rintro e w' ⟨rfl, rfl⟩
            go_wp2_with fail
            go_ret
            exact ⟨rfl, (Keeps.refl _ _).alloc _⟩
          · obtain rfl : true = z := hq2
            have e1 : ((links.length : Int) == 0) = true := by rw [beq_iff_eq]; have := of_decide_eq_true h1; omega
            have e2 : ((routers.length : Int) == 0) = true := by rw [beq_iff_eq]; have := of_decide_eq_true h2; omega
            clear h1 h2
            go_enter Try.func56, Try.ntmps56
            go_wp2_with fail
            refine (lsWithin_r age 0 3600 _ _ ha').mono ?_
            rintro e w' ⟨rfl, rfl⟩
            go_wp2_with fail
            refine (lsWithin_r seq (-2147483647) 2147483647 _ _ hb').mono ?_
            rintro e w' ⟨rfl, rfl⟩
            go_wp2_with fail
            refine (lsWithin_r cost 0 16777215 _ _ h3').mono ?_
            rintro e w' ⟨rfl, rfl⟩
            go_wp2_with fail
            go_ret
            exact ⟨rfl, (Keeps.refl _ _).alloc _⟩
        · rw [if_neg t3] at hq2
          have d3 : (type == 3) = false := by rw [beq_eq_false_iff_ne]; exact t3
          subst hq2
          clear t1 t2 t3
          go_enter Try.func56, Try.ntmps56
          go_wp2_with fail
          refine (lsWithin_r age 0 3600 _ _ ha').mono ?_
          rintro e w' ⟨rfl, rfl⟩
          go_wp2_with fail
          refine (lsWithin_r seq (-2147483647) 2147483647 _ _ hb').mono ?_
          rintro e w' ⟨rfl, rfl⟩
          go_wp2_with fail
          go_ret
          exact ⟨rfl, (Keeps.refl _ _).alloc _⟩
end Go.Proofs.Ytiogeepffdpafaa
