/- PW -/
import Derived.Test.YtmggbljkehclpaaG14
set_option linter.unusedVariables false
set_option linter.unusedSimpArgs false
namespace Go.Proofs.Ytmggbljkehclpaa
theorem i0h : ∀ l : List b09, e06 l l = true
 | [] => rfl
 | a :: r => by unfold e06; rw [i0h r]; simp [i0k]
theorem j09 : ∀ l : List Nat, e0j l l = true
 | [] => rfl
 | a :: r => by unfold e0j; rw [j09 r]; simp
theorem o0g (l : LsaD) : sameB l l = true := by
 unfold sameB m0k keyEq
 rw [i0h, j09]
 simp
theorem e0u (w : World) (b o : Nat) (v : Value) (h : w.cell? ⟨b, o, none⟩ = some v) : (loadVar 28 ⟨b, o, none⟩).run Try.prog w = .ok v w := by simp [go_sem, h]
end Go.Proofs.Ytmggbljkehclpaa
