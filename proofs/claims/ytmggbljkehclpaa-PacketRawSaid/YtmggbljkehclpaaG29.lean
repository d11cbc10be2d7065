/- PR -/
import Derived.Test.YtmggbljkehclpaaG15
set_option linter.unusedVariables false
set_option linter.unusedSimpArgs false
namespace Go.Proofs.Ytmggbljkehclpaa
open Go.RowKit
theorem j0h {a b : Int} (h : decide (a = b) = true) : (a != b) = false := by rw [n0d h]; rfl
theorem j0i {a b : Int} (h : decide (a = b) = false) : (a != b) = true := by rw [n0d h]; rfl
theorem j0a {n : Nat} (h : decide (n = 0) = true) : ((n : Int) != 0) = false := by rw [i0u h]; rfl
theorem j0b {n : Nat} (h : decide (n = 0) = false) : ((n : Int) != 0) = true := by rw [i0u h]; rfl
theorem pos_not0 (n : Nat) : decide (0 < n) = !decide (n = 0) := by
 cases n with
 | zero => rfl
 | succ n => simp
set_option maxRecDepth 100000 in
set_option maxHeartbeats 4000000 in
theorem h0c (mask dr bdr : Nat) (interval dead priority : Int) (n : Nat) (pn : Option Addr) (cn : Nat) (z : Bool) (w : World)
 (hz : Hid (none7 (decide (mask = 0)) (decide (interval = 0)) (decide (dead = 0)) (decide (priority = 0)) (decide (dr = 0)) (decide (bdr = 0)) (decide (n = 0)) = z)) :
 Calls Try.prog 52 #[.agg (Ga mask interval dead priority dr bdr (.slice pn n cn))] w (fun e w' => e = .returned (.bool (!z)) ∧ a02 (fun _ => False) w w') := by
 obtain ⟨a, ha⟩ : ∃ a, decide (mask = 0) = a := ⟨_, rfl⟩
 obtain ⟨b, hb⟩ : ∃ a, decide (interval = 0) = a := ⟨_, rfl⟩
 obtain ⟨c, hc⟩ : ∃ a, decide (dead = 0) = a := ⟨_, rfl⟩
 obtain ⟨d, hd⟩ : ∃ a, decide (priority = 0) = a := ⟨_, rfl⟩
 obtain ⟨f, hf⟩ : ∃ a, decide (dr = 0) = a := ⟨_, rfl⟩
 obtain ⟨g, hg⟩ : ∃ a, decide (bdr = 0) = a := ⟨_, rfl⟩
 obtain ⟨i, hi⟩ : ∃ a, decide (n = 0) = a := ⟨_, rfl⟩
 rw [ha, hb, hc, hd, hf, hg, hi] at hz
 have hi' := Hi hi
 clear hi
 cases a with
 | false =>
  have e1 := j0b ha
  clear ha hb hc hd hf hg
  go_enter Try.func52, Try.ntmps52
  go_wp2
  go_ret
  exact ⟨by rw [← hz.out]; rfl, (a02.refl _ _).alloc _⟩
 | true =>
 have e1 := j0a ha
 cases b with
 | false =>
  have e2 := j0i hb
  clear ha hb hc hd hf hg
  go_enter Try.func52, Try.ntmps52
  go_wp2
  go_ret
  exact ⟨by rw [← hz.out]; rfl, (a02.refl _ _).alloc _⟩
 | true =>
 have e2 := j0h hb
 cases c with
 | false =>
  have e3 := j0i hc
  clear ha hb hc hd hf hg
  go_enter Try.func52, Try.ntmps52
  go_wp2
  go_ret
  exact ⟨by rw [← hz.out]; rfl, (a02.refl _ _).alloc _⟩
 | true =>
 have e3 := j0h hc
 cases d with
 | false =>
  have e4 := j0i hd
  clear ha hb hc hd hf hg
  go_enter Try.func52, Try.ntmps52
  go_wp2
  go_ret
  exact ⟨by rw [← hz.out]; rfl, (a02.refl _ _).alloc _⟩
 | true =>
 have e4 := j0h hd
 cases f with
 | false =>
  have e5 := j0b hf
  clear ha hb hc hd hf hg
  go_enter Try.func52, Try.ntmps52
  go_wp2
  go_ret
  exact ⟨by rw [← hz.out]; rfl, (a02.refl _ _).alloc _⟩
 | true =>
 have e5 := j0a hf
 cases g with
 | false =>
  have e6 := j0b hg
  clear ha hb hc hd hf hg
  go_enter Try.func52, Try.ntmps52
  go_wp2
  go_ret
  exact ⟨by rw [← hz.out]; rfl, (a02.refl _ _).alloc _⟩
 | true =>
 have e6 := j0a hg
 clear ha hb hc hd hf hg
 go_enter Try.func52, Try.ntmps52
 go_wp2
 go_ret
 exact ⟨b03 ((pos_not0 n).trans (by rw [hi'.out, ← hz.out]; rfl)), (a02.refl _ _).alloc _⟩
end Go.Proofs.Ytmggbljkehclpaa
