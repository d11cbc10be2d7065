/- ConfSteps, proved in its second form: what is set has that value, and all else what it had; set again it's the same; deleted, it hasn't any; for every input whose bulk is at most 1048576. -/
import Derived.Test.YtdjmhjgfjbcdkaaRows
import Derived.Test.YtdjmhjgfjbcdkaaCGL
import Derived.ProofKit
import Derived.OpenShut
import Derived.ShutString
import Derived.ChangeOld
import Derived.JoinedCond
import Derived.Deep.Grids
set_option linter.unusedVariables false
namespace Go.Proofs.Ytdjmhjgfjbcdkaa
open Go.ChangeShapes Go.WideShapes Go.ChangeAt Go.RowKit Go.WideMaps Go.Deep
open Go.ChangeMaps (open_string)
namespace confStepsProof
theorem own : ownKnob Try.prog.godebug = none := by kernel_rfl
theorem laidOut : laidOutB Try.prog = true := by kernel_rfl
theorem bound {H : Type} {l : List (DataW H)} (hk : Rows.uptoSmall H l = true) : Rows.uptoBulkAll l ≤ 1048576 := by
  simpa [Rows.uptoSmall] using hk
set_option maxRecDepth 100000 in
theorem contract (H : Type) (enc : TypeId × Value → H) (W : World) (base : Nat) (args : Array Value) (ds gs : List (DataW H)) (before : List MemPlace)
    (hval : ∀ (j : Nat) t v, Try.f6.params[j]? = some t → args[j]? = some v → Value.okWide Try.prog W .any base t v)
    (hW : DataW.Whole enc Try.prog Try.f6.params.toList Rows.confStepsSpec.vars false W args.toList ds gs before) (hk : Rows.uptoSmall H (ds ++ gs) = true) :
    Calls Try.prog 6 args W fun e W' => ∃ v, e = .returned v ∧ Rows.confStepsSpec.post enc Try.prog Try.f6 false true false false W args v W' := by
  have hW' := hW
  obtain ⟨p, q, hA0, hV, rfl, hfz, hnd⟩ := hW
  have hA : DataW.TrodAll enc Try.prog W 0 (fun _ => true) true Try.f6.params.toList args.toList ds p := hA0
  rw [Try.params6] at hA hval
  obtain ⟨v0, vs0, d0, ds0, p0, q0, hargs, rfl, rfl, h0, r0⟩ := trodAll_cons hA
  obtain ⟨v1, vs1, d1, ds1, p1, q1, rfl, rfl, rfl, h1, r1⟩ := trodAll_cons r0
  obtain ⟨rfl, rfl, rfl⟩ := trodAll_nil r1
  obtain rfl : args = #[v0, v1] := by cases args; simp_all
  obtain ⟨rfl, rfl⟩ := trodVars_none hV
  have k0 := h0
  have k1 := h1
  have hb := bound hk
  simp only [List.append_nil, Rows.uptoBulkAll] at hb
  have lt0 : ∀ x ∈ p0, x.block < W.heap.size := by obtain ⟨m, hm⟩ := k0; exact DataW.trod_lt m _ _ _ hm
  have lt1 : ∀ x ∈ p1, x.block < W.heap.size := by obtain ⟨m, hm⟩ := k1; exact DataW.trod_lt m _ _ _ hm
  obtain ⟨sa, sl, sc, rfl⟩ := okWide_slice Try.underlying22 (hval 0 22 v0 rfl rfl)
  obtain ⟨m0, hm0⟩ := h0
  obtain ⟨ls, pz, cz, hvz, hrows, hlt, hlen⟩ := lines_came (M := 1048576) (show DataW.trod enc Try.prog W 0 (fun _ => true) true m0 22 [.slice sa sl sc] = some (d0, p0) from hm0) (by simp only; omega)
  rw [hvz] at hW' k0 hA0 ⊢
  obtain ⟨cs, rfl, hsz⟩ := okWide_struct Try.underlying28 (hval 1 28 v1 rfl rfl)
  rw [cxLine] at hsz
  obtain ⟨m1, hm1⟩ := h1
  obtain ⟨l1, ⟨b1, b2, b3⟩, hcs⟩ := line_came (M := 1048576) (show cs.toList.length = 4 by simpa using hsz) hm1 (by simp only; omega)
  obtain ⟨lh, ln, lf, lv⟩ := l1
  obtain rfl : cs = #[.int .i64 lh, .string ⟨ln.toArray⟩, .string ⟨lf.toArray⟩, .string ⟨lv.toArray⟩] := by rw [← Array.toArray_toList (xs := cs), hcs]; rfl
  clear hA0
  simp only [List.append_nil] at hW'
  refine (confSteps_law _ ls lh ⟨ln.toArray⟩ ⟨lf.toArray⟩ ⟨lv.toArray⟩ W (Lib.hid hrows) (by omega) (Lib.hid (hlt.mono (by omega))) (by show ln.length ≤ _; simp only at b1; omega) (by show lv.length ≤ _; simp only at b3; omega)).mono fun e W' ⟨he, hke⟩ => ?_
  have bel := hke.below (Nat.le_refl _) (fun _ f => f.elim)
  subst he
  exact ⟨_, rfl, _, _, _, [], _, [], hW', trodAll_mk1 (shut_bool Try.underlying4 _), (trodAll_cons_mk (Below.trod laidOut (by kernel_rfl) (of_decide_eq_true (by kernel_rfl)) k0 bel lt0) (trodAll_cons_mk (Below.trod laidOut (by kernel_rfl) (of_decide_eq_true (by kernel_rfl)) k1 bel lt1) trodAll_mk0)), rfl, bel.frame _, fun h => by cases h⟩
set_option maxRecDepth 100000 in
theorem lifted (os : Os) (started : os.Started) (H : Type) (enc : TypeId × Value → H) (F : Stop.Interp) :
    ReturnsInHanded {} Try.checked os 6 .any ((Rows.OpenSpec.upto Rows.confStepsSpec).pre6 enc Try.prog Try.f6 Rows.confStepsUptoRow.domain false) (((Rows.OpenSpec.upto Rows.confStepsSpec).at F).post enc Try.prog Try.f6 false true false false) := by
  refine returnsInHanded_of_cond (C := Try.checked) (s := Rows.OpenSpec.upto Rows.confStepsSpec) (k := Rows.uptoSmall) rfl own started (by kernel_rfl) Try.func6
    (OpenSpec.witness (enc := enc) (C := Try.checked) (s := Rows.OpenSpec.upto Rows.confStepsSpec) (k := Rows.uptoSmall) rfl false ⟨#[], #[.slice none 0 0, .agg #[.int .i64 0, .string ByteArray.empty, .string ByteArray.empty, .string ByteArray.empty]], []⟩ 8 (by kernel_rfl) (by kernel_rfl) (by kernel_rfl)
      (x := ([.nil, .agg [.lit (.int .i64 0), .lit (.string []), .lit (.string []), .lit (.string [])]], [], [])) (by kernel_rfl) rfl (by kernel_rfl)) ?_
  intro W base args ds gs before hval hW _ hk _
  exact contract H enc W base args ds gs before hval hW hk
theorem over : Rows.confStepsUptoRow.holds Try.pinned (Rows.OpenSpec.upto Rows.confStepsSpec) :=
  OpenClaim.holds_of_cond 6 Try.f6 rfl rfl rfl rfl rfl rfl rfl ⟨rfl, rfl, rfl, rfl, rfl⟩ rfl rfl rfl rfl rfl (by kernel_rfl) Try.func6 (by kernel_rfl)
    (of_decide_eq_true (by kernel_rfl)) (by unfold Func.isWrapper; first | (rw [if_pos (by decide +kernel)]; kernel_rfl) | (rw [if_neg (by decide +kernel)]; exact ⟨rfl, rfl⟩))
    (fun os started H enc _ F => lifted os started H enc F)
end confStepsProof
theorem confStepsUpto_holds : Rows.ConfStepsUptoSaid := confStepsProof.over
end Go.Proofs.Ytdjmhjgfjbcdkaa
