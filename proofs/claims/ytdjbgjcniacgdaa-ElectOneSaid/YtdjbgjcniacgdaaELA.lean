/- Voters in memory; compares, the first of two that is not nought; the small functions of elect. -/
import Derived.Test.YtdjbgjcniacgdaaTK
import Derived.Deep.DeepCutAuto
namespace Go.Proofs.Ytdjbgjcniacgdaa
open Go.RowKit

/-- a voter, plain -/
structure VotD where
  id : Nat
  addr : Nat
  prio : Int
  dr : Nat
  bdr : Nat
def voteVals (v : VotD) : List Value := [.int .u32 v.id, .int .u32 v.addr, .int .i64 v.prio, .int .u32 v.dr, .int .u32 v.bdr]
theorem voteInfo : (Try.prog.info? 26).map (·.size) = some 5 := by kernel_rfl
theorem nat_beq {a b : Nat} {r : Bool} (h : decide (a = b) = r) : ((a : Int) == (b : Int)) = r := by
  rw [← h]
  by_cases e : a = b
  · rw [decide_eq_true e, beq_iff_eq]; omega
  · rw [decide_eq_false e, beq_eq_false_iff_ne]; omega
/-- voters in memory -/
def VotersAt (w : World) (v : Value) (ls : List VotD) : Prop := ∃ p c, v = .slice p ls.length c ∧ (p = none → c = 0) ∧ ls.length ≤ c ∧ (0 < ls.length → ∃ g o, p = some ⟨g, o, none⟩ ∧ ∀ i l, ls[i]? = some l → w.rangeAt g (o + i * 5) (voteVals l))
theorem VotersAt.keepF {F : Nat → Prop} {w w' : World} {v : Value} {ls : List VotD} (h : VotersAt w v ls) (k : Keeps F w w') (hF : 0 < ls.length → ∀ i, v.ownBlock = some i → ¬ F i) : VotersAt w' v ls := by
  obtain ⟨p, c, rfl, hp, hc, h⟩ := h
  refine ⟨p, c, rfl, hp, hc, fun h0 => ?_⟩
  obtain ⟨g, o, rfl, hr⟩ := h h0
  exact ⟨g, o, rfl, fun i l hl => k.rangeAt (hr i l hl) (hF h0 g rfl)⟩
theorem VotersAt.keep {w w' : World} {v : Value} {ls : List VotD} (h : VotersAt w v ls) (k : Keeps (fun _ => False) w w') : VotersAt w' v ls := h.keepF k (fun _ _ _ f => f)

def cmpI (a b : Int) : Int := if a < b then -1 else if a > b then 1 else 0
set_option maxHeartbeats 1000000 in
theorem nanInt_any (a : Int) (w : World) : Calls Try.prog 23 #[.int .i64 a] w fun e w' => e = .returned (.bool false) ∧ w = w' := by
  have h : (a != a) = false := by simp
  go_enter Try.func23, Try.ntmps23
  go_wp2_with fail
  go_ret
  exact ⟨rfl, rfl⟩
set_option maxHeartbeats 1000000 in
theorem nanU32_any (a : Nat) (w : World) : Calls Try.prog 24 #[.int .u32 a] w fun e w' => e = .returned (.bool false) ∧ w = w' := by
  have h : ((a : Int) != (a : Int)) = false := by simp
  go_enter Try.func24, Try.ntmps24
  go_wp2_with fail
  go_ret
  exact ⟨rfl, rfl⟩
set_option maxHeartbeats 1000000 in
theorem cmpInt_any (a b : Int) (w : World) : Calls Try.prog 21 #[.int .i64 a, .int .i64 b] w fun e w' => e = .returned (.int .i64 (cmpI a b)) ∧ w = w' := by
  unfold cmpI
  by_cases h1 : a < b
  · rw [if_pos h1]
    go_enter Try.func21, Try.ntmps21
    go_wp2_with fail
    refine (nanInt_any _ _).mono ?_
    rintro e w' ⟨rfl, rfl⟩
    go_wp2_with fail
    refine (nanInt_any _ _).mono ?_
    rintro e w' ⟨rfl, rfl⟩
    go_wp2_with fail
    go_ret
    exact ⟨rfl, rfl⟩
  · rw [if_neg h1]
    by_cases h2 : a > b
    · rw [if_pos h2]
      go_enter Try.func21, Try.ntmps21
      go_wp2_with fail
      refine (nanInt_any _ _).mono ?_
      rintro e w' ⟨rfl, rfl⟩
      go_wp2_with fail
      refine (nanInt_any _ _).mono ?_
      rintro e w' ⟨rfl, rfl⟩
      go_wp2_with fail
      go_ret
      exact ⟨rfl, rfl⟩
    · rw [if_neg h2]
      go_enter Try.func21, Try.ntmps21
      go_wp2_with fail
      refine (nanInt_any _ _).mono ?_
      rintro e w' ⟨rfl, rfl⟩
      go_wp2_with fail
      refine (nanInt_any _ _).mono ?_
      rintro e w' ⟨rfl, rfl⟩
      go_wp2_with fail
      go_ret
      exact ⟨rfl, rfl⟩
set_option maxHeartbeats 1000000 in
theorem cmpU32_any (a b : Nat) (w : World) : Calls Try.prog 22 #[.int .u32 a, .int .u32 b] w fun e w' => e = .returned (.int .i64 (cmpI a b)) ∧ w = w' := by
  unfold cmpI
  by_cases h1 : (a : Int) < b
  · rw [if_pos h1]
    go_enter Try.func22, Try.ntmps22
    go_wp2_with fail
    refine (nanU32_any _ _).mono ?_
    rintro e w' ⟨rfl, rfl⟩
    go_wp2_with fail
    refine (nanU32_any _ _).mono ?_
    rintro e w' ⟨rfl, rfl⟩
    go_wp2_with fail
    go_ret
    exact ⟨rfl, rfl⟩
  · rw [if_neg h1]
    by_cases h2 : (a : Int) > b
    · rw [if_pos h2]
      go_enter Try.func22, Try.ntmps22
      go_wp2_with fail
      refine (nanU32_any _ _).mono ?_
      rintro e w' ⟨rfl, rfl⟩
      go_wp2_with fail
      refine (nanU32_any _ _).mono ?_
      rintro e w' ⟨rfl, rfl⟩
      go_wp2_with fail
      go_ret
      exact ⟨rfl, rfl⟩
    · rw [if_neg h2]
      go_enter Try.func22, Try.ntmps22
      go_wp2_with fail
      refine (nanU32_any _ _).mono ?_
      rintro e w' ⟨rfl, rfl⟩
      go_wp2_with fail
      refine (nanU32_any _ _).mono ?_
      rintro e w' ⟨rfl, rfl⟩
      go_wp2_with fail
      go_ret
      exact ⟨rfl, rfl⟩

def orN (a b : Nat) : Nat := if a ≠ 0 then a else b
def orI (a b : Int) : Int := if a ≠ 0 then a else b
set_option maxHeartbeats 1000000 in
theorem orU32_any (g c a b : Nat) (z : Nat) (w : World) (hz : Hid (orN a b = z)) (h : Hid (w.rangeAt g 0 [.int .u32 a, .int .u32 b])) :
    Calls Try.prog 14 #[.slice (some ⟨g, 0, none⟩) 2 c] w fun e w' => e = .returned (.int .u32 (z : Nat)) ∧ w = w' := by
  have h0 : w.cell? ⟨g, 0, none⟩ = some (.int .u32 a) := h.out 0 _ rfl
  have h1 : w.cell? ⟨g, 1, none⟩ = some (.int .u32 b) := h.out 1 _ rfl
  clear h
  have hA : Hid (a ≠ 0 → a = z) := Lib.hid (fun e => by rw [← hz.out]; unfold orN; rw [if_pos e])
  have hB : Hid (a = 0 → b = z) := Lib.hid (fun e => by rw [← hz.out]; unfold orN; rw [if_neg (fun h => h e)])
  clear hz
  go_enter Try.func14, Try.ntmps14
  go_wp2_with fail
  go_loop [8] (fun iv => ∃ k : Nat, k ≤ 2 ∧ iv = .int .i64 k ∧ (1 ≤ k → a = 0) ∧ (2 ≤ k → b = 0)) (fun iv => 2 - (intOf iv).toNat)
  case atStart => exact ⟨0, by omega, rfl, by omega, by omega⟩
  case round =>
    obtain ⟨k, hk, rfl, ha, hb⟩ := hrel
    have hk3 : k = 0 ∨ k = 1 ∨ k = 2 := by omega
    rcases hk3 with rfl | rfl | rfl
    · by_cases e : a = 0
      · have e1 : ((a : Int) != 0) = false := by rw [e]; rfl
        have e' := Lib.hid e
        clear e
        go_wp2_with fail
        exact ⟨⟨1, by omega, rfl, fun _ => e'.out, by omega⟩, by simp [intOf]⟩
      · have e1 : ((a : Int) != 0) = true := by rw [bne_iff_ne]; omega
        have ez := Lib.hid (hA.out e)
        clear e ha hb
        go_wp2_with fail
        go_ret
        exact ⟨by rw [ez.out]; rfl, rfl⟩
    · have e0 := ha (by omega)
      have ez := Lib.hid (hB.out e0)
      clear e0
      by_cases e : b = 0
      · have e1 : ((b : Int) != 0) = false := by rw [e]; rfl
        have e' := Lib.hid e
        clear e
        go_wp2_with fail
        exact ⟨⟨2, by omega, rfl, fun _ => ha (by omega), fun _ => e'.out⟩, by simp [intOf]⟩
      · have e1 : ((b : Int) != 0) = true := by rw [bne_iff_ne]; omega
        clear e ha hb
        go_wp2_with fail
        go_ret
        exact ⟨by rw [ez.out]; rfl, rfl⟩
    · have e0 := ha (by omega)
      have e1 := hb (by omega)
      have ez := Lib.hid (e1.symm.trans (hB.out e0))
      clear e0 e1 ha hb
      go_wp2_with fail
      go_ret
      exact ⟨by rw [← ez.out]; rfl, rfl⟩
set_option maxHeartbeats 1000000 in
theorem orInt_any (g c : Nat) (a b : Int) (z : Int) (w : World) (hz : Hid (orI a b = z)) (h : Hid (w.rangeAt g 0 [.int .i64 a, .int .i64 b])) :
    Calls Try.prog 20 #[.slice (some ⟨g, 0, none⟩) 2 c] w fun e w' => e = .returned (.int .i64 z) ∧ w = w' := by
  have h0 : w.cell? ⟨g, 0, none⟩ = some (.int .i64 a) := h.out 0 _ rfl
  have h1 : w.cell? ⟨g, 1, none⟩ = some (.int .i64 b) := h.out 1 _ rfl
  clear h
  have hA : Hid (a ≠ 0 → a = z) := Lib.hid (fun e => by rw [← hz.out]; unfold orI; rw [if_pos e])
  have hB : Hid (a = 0 → b = z) := Lib.hid (fun e => by rw [← hz.out]; unfold orI; rw [if_neg (fun h => h e)])
  clear hz
  go_enter Try.func20, Try.ntmps20
  go_wp2_with fail
  go_loop [8] (fun iv => ∃ k : Nat, k ≤ 2 ∧ iv = .int .i64 k ∧ (1 ≤ k → a = 0) ∧ (2 ≤ k → b = 0)) (fun iv => 2 - (intOf iv).toNat)
  case atStart => exact ⟨0, by omega, rfl, by omega, by omega⟩
  case round =>
    obtain ⟨k, hk, rfl, ha, hb⟩ := hrel
    have hk3 : k = 0 ∨ k = 1 ∨ k = 2 := by omega
    rcases hk3 with rfl | rfl | rfl
    · by_cases e : a = 0
      · have e1 : (a != 0) = false := by rw [e]; rfl
        have e' := Lib.hid e
        clear e
        go_wp2_with fail
        exact ⟨⟨1, by omega, rfl, fun _ => e'.out, by omega⟩, by simp [intOf]⟩
      · have e1 : (a != 0) = true := by rw [bne_iff_ne]; exact e
        have ez := Lib.hid (hA.out e)
        clear e ha hb
        go_wp2_with fail
        go_ret
        exact ⟨by rw [ez.out]; rfl, rfl⟩
    · have e0 := ha (by omega)
      have ez := Lib.hid (hB.out e0)
      clear e0
      by_cases e : b = 0
      · have e1 : (b != 0) = false := by rw [e]; rfl
        have e' := Lib.hid e
        clear e
        go_wp2_with fail
        exact ⟨⟨2, by omega, rfl, fun _ => ha (by omega), fun _ => e'.out⟩, by simp [intOf]⟩
      · have e1 : (b != 0) = true := by rw [bne_iff_ne]; exact e
        clear e ha hb
        go_wp2_with fail
        go_ret
        exact ⟨by rw [ez.out]; rfl, rfl⟩
    · have e0 := ha (by omega)
      have e1 := hb (by omega)
      have ez := Lib.hid (e1.symm.trans (hB.out e0))
      clear e0 e1 ha hb
      go_wp2_with fail
      go_ret
      exact ⟨by rw [← ez.out]; rfl, rfl⟩

theorem elNDr_r (v : VotD) (r : Bool) (w : World) (hr : Hid (decide (v.dr = v.addr) = r)) :
    Calls Try.prog 11 #[.agg #[.int .u32 v.id, .int .u32 v.addr, .int .i64 v.prio, .int .u32 v.dr, .int .u32 v.bdr]] w (fun e w' => e = .returned (.bool r) ∧ Keeps (fun _ => False) w w') := by
  have e := nat_beq hr.out
  clear hr
  go_enter Try.func11, Try.ntmps11
  go_wp2_with fail
  go_ret
  exact ⟨rfl, (Keeps.refl _ _).alloc _⟩
theorem elNBdr_r (v : VotD) (r : Bool) (w : World) (hr : Hid (decide (v.bdr = v.addr) = r)) :
    Calls Try.prog 12 #[.agg #[.int .u32 v.id, .int .u32 v.addr, .int .i64 v.prio, .int .u32 v.dr, .int .u32 v.bdr]] w (fun e w' => e = .returned (.bool r) ∧ Keeps (fun _ => False) w w') := by
  have e := nat_beq hr.out
  clear hr
  go_enter Try.func12, Try.ntmps12
  go_wp2_with fail
  go_ret
  exact ⟨rfl, (Keeps.refl _ _).alloc _⟩
theorem elNNotDr_r (v : VotD) (r : Bool) (w : World) (hr : Hid ((!decide (v.dr = v.addr)) = r)) :
    Calls Try.prog 17 #[.agg #[.int .u32 v.id, .int .u32 v.addr, .int .i64 v.prio, .int .u32 v.dr, .int .u32 v.bdr]] w (fun e w' => e = .returned (.bool r) ∧ Keeps (fun _ => False) w w') := by
  obtain ⟨x, hx⟩ : ∃ x, decide (v.dr = v.addr) = x := ⟨_, rfl⟩
  have h := hr.out
  rw [hx] at h
  have h' := Lib.hid h
  have hx' := Lib.hid hx
  clear hx h hr
  go_enter Try.func17, Try.ntmps17
  go_wp2_with fail
  refine (elNDr_r v x _ hx').mono ?_
  rintro e w2 ⟨rfl, k2⟩
  have k2' := Lib.hid (((Keeps.refl (fun _ => False) w).alloc _).trans k2)
  clear k2
  go_wp2_with fail
  go_ret
  exact ⟨by rw [← h'.out]; rfl, k2'.out⟩
theorem elNBdrAlone_r (v : VotD) (r : Bool) (w : World) (hr : Hid ((decide (v.bdr = v.addr) && !decide (v.dr = v.addr)) = r)) :
    Calls Try.prog 16 #[.agg #[.int .u32 v.id, .int .u32 v.addr, .int .i64 v.prio, .int .u32 v.dr, .int .u32 v.bdr]] w (fun e w' => e = .returned (.bool r) ∧ Keeps (fun _ => False) w w') := by
  obtain ⟨x, hx⟩ : ∃ x, decide (v.bdr = v.addr) = x := ⟨_, rfl⟩
  obtain ⟨y, hy⟩ : ∃ y, decide (v.dr = v.addr) = y := ⟨_, rfl⟩
  have h := hr.out
  rw [hx, hy] at h
  have hx' := Lib.hid hx
  have hy' := Lib.hid hy
  clear hx hy hr
  cases x
  · have h' : false = r := h
    subst h'
    clear h
    go_enter Try.func16, Try.ntmps16
    go_wp2_with fail
    refine (elNBdr_r v false _ hx').mono ?_
    rintro e w2 ⟨rfl, k2⟩
    have k2' := Lib.hid (((Keeps.refl (fun _ => False) w).alloc _).trans k2)
    clear k2
    go_wp2_with fail
    go_ret
    exact ⟨rfl, k2'.out⟩
  · have h' : (!y) = r := h
    subst h'
    clear h
    have hb0 : Hid ((w.alloc (.cells #[.int .u32 v.id, .int .u32 v.addr, .int .i64 v.prio, .int .u32 v.dr, .int .u32 v.bdr] 26)).rangeAt w.heap.size 0 [.int .u32 v.id, .int .u32 v.addr, .int .i64 v.prio, .int .u32 v.dr, .int .u32 v.bdr]) := Lib.hid (fun j u hu => by
      have := cells_new (w := w) (n := w.heap.size) rfl [.int .u32 v.id, .int .u32 v.addr, .int .i64 v.prio, .int .u32 v.dr, .int .u32 v.bdr] 26 j u hu
      rw [Addr.add_mid] at this; exact this)
    go_enter Try.func16, Try.ntmps16
    go_wp2_with fail
    refine (elNBdr_r v true _ hx').mono ?_
    rintro e w2 ⟨rfl, k2⟩
    have hb2 := Lib.hid (k2.rangeAt hb0.out id)
    have k2' := Lib.hid (((Keeps.refl (fun _ => False) w).alloc _).trans k2)
    clear k2
    go_wp2_with ((with_reducible refine at_slot 6 ?_); refine wpList_load_mid_gd (by rfl) 26 (.tmp 1) rfl w.heap.size 0 rfl _ _ hb2.out Try.underlying26 rfl voteInfo ?_)
    refine (elNDr_r v y _ hy').mono ?_
    rintro e w3 ⟨rfl, k3⟩
    have k3' := Lib.hid (k2'.out.trans k3)
    clear k3
    go_wp2_with fail
    go_ret
    exact ⟨rfl, k3'.out⟩
end Go.Proofs.Ytdjbgjcniacgdaa
