/- elect.round, walked. -/
import Derived.Test.YtdjbgjcniacgdaaELC
namespace Go.Proofs.Ytdjbgjcniacgdaa
open Go.RowKit

def pDr (v : VotD) : Bool := decide (v.dr = v.addr)
def pBdr (v : VotD) : Bool := decide (v.bdr = v.addr)
def pNotDr (v : VotD) : Bool := !decide (v.dr = v.addr)
def pAlone (v : VotD) : Bool := decide (v.bdr = v.addr) && !decide (v.dr = v.addr)
def bdrD (l : List VotD) : Nat := orN (bestD pAlone l) (bestD pNotDr l)
def drD (l : List VotD) : Nat := orN (bestD pDr l) (bdrD l)
theorem tDr : Tells 11 pDr := fun v r w hr => elNDr_r v r w hr
theorem tNotDr : Tells 17 pNotDr := fun v r w hr => elNNotDr_r v r w hr
theorem tAlone : Tells 16 pAlone := fun v r w hr => elNBdrAlone_r v r w hr
set_option maxRecDepth 100000 in
theorem elRound_any (sl : Value) (ls : List VotD) (hl : ls.length ≤ 1000000) (x y : Nat) (w : World) (h : Hid (VotersAt w sl ls)) (hx : Hid (drD ls = x)) (hy : Hid (bdrD ls = y)) :
    Calls Try.prog 10 #[sl] w (fun e w' => e = .returned (.tuple #[.int .u32 x, .int .u32 y]) ∧ Keeps (fun _ => False) w w') := by
  obtain ⟨a, ha⟩ : ∃ a, bestD pAlone ls = a := ⟨_, rfl⟩
  obtain ⟨b, hb⟩ : ∃ b, bestD pNotDr ls = b := ⟨_, rfl⟩
  obtain ⟨d, hd⟩ : ∃ d, bestD pDr ls = d := ⟨_, rfl⟩
  have hy2 : Hid (orN a b = y) := Lib.hid (by rw [← hy.out]; unfold bdrD; rw [ha, hb])
  have hx2 : Hid (orN d y = x) := Lib.hid (by rw [← hx.out, ← hy.out]; unfold drD; rw [hd])
  have ha' := Lib.hid ha; have hb' := Lib.hid hb; have hd' := Lib.hid hd
  clear ha hb hd hx hy
  go_enter Try.func10, Try.ntmps10
  go_wp2_with fail
  refine (elBestAlone pAlone tAlone sl ls hl a _ h ha').mono ?_
  rintro e w1 ⟨rfl, k1⟩
  have h1 := Lib.hid (h.out.keep k1)
  have k1' := Lib.hid k1
  clear k1 h
  go_wp2_with fail
  refine (elBestNotDr pNotDr tNotDr sl ls hl b _ h1 hb').mono ?_
  rintro e w2 ⟨rfl, k2⟩
  have h2 := Lib.hid (h1.out.keep k2)
  have k2' := Lib.hid ((k1'.out.trans k2).alloc (.cells #[.int .u32 a, .int .u32 b] 24))
  clear k2 h1 k1'
  go_wp2_with fail
  refine (orU32_any _ _ a b y _ hy2 (Lib.hid (new_rangeb _ _ _))).mono ?_
  rintro e w3 ⟨rfl, rfl⟩
  go_wp2_with fail
  have h3 : Hid (VotersAt (w2.alloc (.cells #[.int .u32 a, .int .u32 b] 24)) sl ls) := Lib.hid (h2.out.keep ((Keeps.refl _ _).alloc _))
  clear h2
  refine (elBestDr pDr tDr sl ls hl d _ h3 hd').mono ?_
  rintro e w4 ⟨rfl, k4⟩
  have k4' := Lib.hid ((k2'.out.trans k4).alloc (.cells #[.int .u32 d, .int .u32 y] 24))
  clear k4 h3 k2'
  go_wp2_with fail
  refine (orU32_any _ _ d y x _ hx2 (Lib.hid (new_rangeb _ _ _))).mono ?_
  rintro e w5 ⟨rfl, rfl⟩
  go_wp2_with fail
  go_ret2
  exact ⟨rfl, k4'.out⟩
end Go.Proofs.Ytdjbgjcniacgdaa
