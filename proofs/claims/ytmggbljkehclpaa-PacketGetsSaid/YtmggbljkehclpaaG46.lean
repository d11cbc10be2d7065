/- LBH -/
import Derived.Test.YtmggbljkehclpaaG44
set_option linter.unusedVariables false
set_option linter.unusedSimpArgs false
namespace Go.Proofs.Ytmggbljkehclpaa
open Go.ChangeShapes Go.WideShapes Go.ChangeAt Go.RowKit Go.Deep
theorem cArr2 : Try.prog.cellsOf 52 = 2 := by kernel_rfl
section
variable {H : Type} {enc : TypeId × Value → H} {W : World}
set_option maxRecDepth 100000 in
theorem q0v {base : Nat} {v : Value} {d : DataW H} {ps : List MemPlace} (hval : Value.okWide Try.prog W .any base 52 v) (h : DataW.Trod enc Try.prog W 0 (fun _ => true) true 52 v d ps) :
 ∃ a b : Int, v = .agg #[.int .i64 a, .int .i64 b] ∧ (-9223372036854775808 ≤ a ∧ a ≤ 9223372036854775807) ∧ (-9223372036854775808 ≤ b ∧ b ≤ 9223372036854775807) := by
 obtain ⟨cs, rfl, hsz, _⟩ : ∃ cs, v = .agg cs ∧ cs.size = Try.prog.cellsOf 52 ∧ Row.okWide Try.prog W .any base 52 cs := by
  have h2 := hval
  simp only [Value.okWide, Try.underlying52] at h2
  exact h2
 rw [cArr2] at hsz
 obtain ⟨l⟩ := cs
 match l, hsz with
 | [x0, x1], _ =>
  obtain ⟨fuel, hfu⟩ := h
  obtain ⟨xs, n, -, -, -, hlen, hf⟩ := DataW.trod_array Try.underlying52 hfu
  have f0 : DataW.trod enc Try.prog W 0 (fun _ => true) true n 3 ((([x0, x1] : List Value).drop (0 * Try.prog.cellsOf 3)).take (Try.prog.cellsOf 3)) = xs[0]? := hf 0 (by omega)
  have f1 : DataW.trod enc Try.prog W 0 (fun _ => true) true n 3 ((([x0, x1] : List Value).drop (1 * Try.prog.cellsOf 3)).take (Try.prog.cellsOf 3)) = xs[1]? := hf 1 (by omega)
  rw [cInt] at f0 f1
  rw [List.getElem?_eq_getElem (by omega)] at f0 f1
  obtain ⟨a, ea, -, wa⟩ := DataW.trod_int Try.underlying3 f0
  obtain ⟨b, eb, -, wb⟩ := DataW.trod_int Try.underlying3 f1
  simp at ea eb
  subst ea; subst eb
  simp [Lit.wf, IntKind.min, IntKind.max, IntKind.signed, IntKind.bits] at wa wb
  exact ⟨a, b, rfl, by omega, by omega⟩
end
end Go.Proofs.Ytmggbljkehclpaa
