/- PR -/
import Derived.Test.YtmggbljkehclpaaP15
set_option linter.unusedVariables false
set_option linter.unusedSimpArgs false
namespace Go.Proofs.Ytmggbljkehclpaa
open Go.RowKit
theorem k0a {a b : Int} (h : decide (a = b) = true) : (a != b) = false := by rw [o0f h]; rfl
theorem k0b {a b : Int} (h : decide (a = b) = false) : (a != b) = true := by rw [o0f h]; rfl
theorem k04 {n : Nat} (h : decide (n = 0) = true) : ((n : Int) != 0) = false := by rw [j0p h]; rfl
theorem k05 {n : Nat} (h : decide (n = 0) = false) : ((n : Int) != 0) = true := by rw [j0p h]; rfl
theorem pos_not0 (n : Nat) : decide (0 < n) = !decide (n = 0) := by
 cases n with
 | zero => rfl
 | succ n => simp
set_option maxRecDepth 100000 in
set_option maxHeartbeats 4000000 in
theorem i08 (mask dr bdr : Nat) (interval dead priority : Int) (n : Nat) (pn : Option Addr) (cn : Nat) (z : Bool) (w : World)
 (hz : Hid (none7 (decide (mask = 0)) (decide (interval = 0)) (decide (dead = 0)) (decide (priority = 0)) (decide (dr = 0)) (decide (bdr = 0)) (decide (n = 0)) = z)) :
 Calls Try.prog 52 #[.agg (Ga mask interval dead priority dr bdr (.slice pn n cn))] w (fun e w' => e = .returned (.bool (!z)) ∧ a03 (fun _ => False) w w') := by
 obtain ⟨a, ha⟩ : ∃ a, decide (mask = 0) = a := ⟨_, rfl⟩
 obtain ⟨b, hb⟩ : ∃ a, decide (interval = 0) = a := ⟨_, rfl⟩
 obtain ⟨c, hc⟩ : ∃ a, decide (dead = 0) = a := ⟨_, rfl⟩
 obtain ⟨d, hd⟩ : ∃ a, decide (priority = 0) = a := ⟨_, rfl⟩
 obtain ⟨f, hf⟩ : ∃ a, decide (dr = 0) = a := ⟨_, rfl⟩
 obtain ⟨g, hg⟩ : ∃ a, decide (bdr = 0) = a := ⟨_, rfl⟩
 obtain ⟨i, hi⟩ : ∃ a, decide (n = 0) = a := ⟨_, rfl⟩
 rw [ha, hb, hc, hd, hf, hg, hi] at hz
 have hi' := Hi hi
 clear hi
 cases a with
 | false =>
  have e1 := k05 ha
  clear ha hb hc hd hf hg
  go_enter Try.func52, Try.ntmps52
  go_wp2
  go_ret
  exact ⟨by rw [← hz.out]; rfl, (a03.refl _ _).alloc _⟩
 | true =>
 have e1 := k04 ha
 cases b with
 | false =>
  have e2 := k0b hb
  clear ha hb hc hd hf hg
  go_enter Try.func52, Try.ntmps52
  go_wp2
  go_ret
  exact ⟨by rw [← hz.out]; rfl, (a03.refl _ _).alloc _⟩
 | true =>
 have e2 := k0a hb
 cases c with
 | false =>
  have e3 := k0b hc
  clear ha hb hc hd hf hg
  go_enter Try.func52, Try.ntmps52
  go_wp2
  go_ret
  exact ⟨by rw [← hz.out]; rfl, (a03.refl _ _).alloc _⟩
 | true =>
 have e3 := k0a hc
 cases d with
 | false =>
  have e4 := k0b hd
  clear ha hb hc hd hf hg
  go_enter Try.func52, Try.ntmps52
  go_wp2
  go_ret
  exact ⟨by rw [← hz.out]; rfl, (a03.refl _ _).alloc _⟩
 | true =>
 have e4 := k0a hd
 cases f with
 | false =>
  have e5 := k05 hf
  clear ha hb hc hd hf hg
  go_enter Try.func52, Try.ntmps52
  go_wp2
  go_ret
  exact ⟨by rw [← hz.out]; rfl, (a03.refl _ _).alloc _⟩
 | true =>
 have e5 := k04 hf
 cases g with
 | false =>
  have e6 := k05 hg
  clear ha hb hc hd hf hg
  go_enter Try.func52, Try.ntmps52
  go_wp2
  go_ret
  exact ⟨by rw [← hz.out]; rfl, (a03.refl _ _).alloc _⟩
 | true =>
 have e6 := k04 hg
 clear ha hb hc hd hf hg
 go_enter Try.func52, Try.ntmps52
 go_wp2
 go_ret
 exact ⟨b06 ((pos_not0 n).trans (by rw [hi'.out, ← hz.out]; rfl)), (a03.refl _ _).alloc _⟩
end Go.Proofs.Ytmggbljkehclpaa
