/- PW -/
import Derived.Test.YtmggbljkehclpaaP14
set_option linter.unusedVariables false
set_option linter.unusedSimpArgs false
namespace Go.Proofs.Ytmggbljkehclpaa
theorem j0e : ∀ l : List b09, e0r l l = true
 | [] => rfl
 | a :: r => by unfold e0r; rw [j0e r]; simp [j0g]
theorem k03 : ∀ l : List Nat, f03 l l = true
 | [] => rfl
 | a :: r => by unfold f03; rw [k03 r]; simp
theorem p0i (l : LsaD) : sameB l l = true := by
 unfold sameB n0k keyEq
 rw [j0e, k03]
 simp
theorem e0m (w : World) (b o : Nat) (v : Value) (h : w.cell? ⟨b, o, none⟩ = some v) : (loadVar 28 ⟨b, o, none⟩).run Try.prog w = .ok v w := by simp [go_sem, h]
end Go.Proofs.Ytmggbljkehclpaa
