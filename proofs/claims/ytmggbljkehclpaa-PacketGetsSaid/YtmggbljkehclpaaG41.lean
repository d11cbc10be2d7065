/- QG -/
import Derived.Test.YtmggbljkehclpaaG37
import Derived.Test.YtmggbljkehclpaaG38
import Derived.Test.YtmggbljkehclpaaG39
import Derived.Test.YtmggbljkehclpaaG40
set_option linter.unusedVariables false
set_option linter.unusedSimpArgs false
namespace Go.Proofs.Ytmggbljkehclpaa
open Go.RowKit
theorem a0a.first {w : World} {p : Option Addr} {n c : Nat} {x : List UInt8} (h : a0a w (.slice p n c) x) (k : Nat) (hk : k ≤ x.length) : a0a w (.slice p k c) (x.take k) := by
 obtain ⟨p', c', e, hp, hc, hr⟩ := h
 injection e with e1 e2 e3
 subst e1; subst e3
 refine ⟨p, c, by rw [List.length_take, Nat.min_eq_left hk], hp, by rw [List.length_take]; omega, fun h0 => ?_⟩
 rw [List.length_take] at h0
 obtain ⟨b, o, rfl, hra⟩ := hr (by omega)
 have := c0e hra 0 k
 exact ⟨b, o, rfl, by simpa using this⟩
structure a0x.small (p : a0x) : Prop where
 ok : p.ok
 al : p.auth.length ≤ 8
 nl : p.nbs.length ≤ 20
 hl : p.heads.length ≤ 20
 kl : p.keys.length ≤ 20
 ll : p.lsas.length ≤ 20
 ls : ∀ l ∈ p.lsas, l.links.length ≤ 1000000 ∧ l.routers.length ≤ 1000000
theorem e0b : b0y.small :=
 ⟨⟨by decide, by decide, by decide, by decide, by decide, by decide, c0h, g0g, g0x, g0w, by decide, by decide, by decide, by decide⟩, by decide, by decide, by decide, by decide, by decide, fun l h => by simp [b0y] at h⟩
theorem q06 {p : a0x} (h : okP p = true) (hok : p.ok) : p.small := by
 unfold okP at h
 rw [Bool.and_eq_true] at h
 obtain ⟨h1, h2⟩ := h
 obtain ⟨a1, a2, a3, a4, a5, a6⟩ := d0s h1
 obtain ⟨b1, b2, b3, b4, b5⟩ := e0v a6
 have hn : p.nbs.length ≤ 20 := by
  by_cases t : p.type = 1
  ·have := a3 t
   unfold h02 at this
   simp only [Bool.and_eq_true, decide_eq_true_eq] at this
   exact this.2.2.2
  ·unfold e07 at a2
   simp only [Bool.or_eq_false_iff, Bool.and_eq_false_iff, Bool.not_eq_false', decide_eq_true_eq] at a2
   rcases a2.1 with h | h
   ·exact absurd h t
   ·unfold g0l at h
    simp only [Bool.and_eq_true, decide_eq_true_eq] at h
    omega
 have ha : p.auth.length ≤ 8 := by
  unfold m0g at a4
  simp only [Bool.and_eq_true, decide_eq_true_eq] at a4
  exact a4.1
 refine ⟨hok, ha, hn, b1, b3, b5, fun l hl => ?_⟩
 have := e0o (List.all_eq_true.1 h2 l hl)
 omega
theorem k0i (x a : List UInt8) (hx : x.length ≤ 900000) : (getP x a).1.small := by
 have hh := h0o x a hx _ rfl
 unfold getP
 split
 ·exact e0b
 ·split
  ·exact e0b
  ·split
   ·exact e0b
   ·split
    ·exact e0b
    ·split
     ·exact e0b
     ·split
      ·rename_i h; exact q06 h.1 hh
      ·exact e0b
end Go.Proofs.Ytmggbljkehclpaa
