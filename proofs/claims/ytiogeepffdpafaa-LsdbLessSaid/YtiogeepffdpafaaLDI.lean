/- LsdbLess, proved: of all two Keys it is told which one is ahead; for every input. No condition. -/
import Derived.Test.YtiogeepffdpafaaRows
import Derived.Test.YtiogeepffdpafaaLDH
import Derived.Lib.SmallJoins
import Derived.ProofKit
import Derived.OpenShut
import Derived.ShutString
import Derived.ChangeOld
import Derived.Deep.Grids
namespace Go.Proofs.Ytiogeepffdpafaa
open Go.ChangeShapes Go.WideShapes Go.ChangeAt Go.RowKit Go.WideMaps Go.Deep
open Go.ChangeMaps (open_string)
set_option linter.unusedVariables false
namespace lsdbLessProof
theorem own : ownKnob Try.prog.godebug = none := by kernel_rfl
theorem laidOut : laidOutB Try.prog = true := by kernel_rfl
set_option maxRecDepth 100000 in
theorem lifted (os : Os) (started : os.Started) (H : Type) (enc : TypeId × Value → H) :
    ReturnsInHanded {} Try.checked os 12 .any (Rows.lsdbLessSpec.pre6 enc Try.prog Try.f12 Rows.lsdbLessRow.domain false) (Rows.lsdbLessSpec.post enc Try.prog Try.f12 false true false false) := by
  refine returnsInHanded_of_change (C := Try.checked) own started (by kernel_rfl) Try.func12
    (ChangeSpec.witness6 (enc := enc) (C := Try.checked) false ⟨#[], #[.agg #[.int .i64 0, .int .u32 0, .int .u32 0], .agg #[.int .i64 0, .int .u32 0, .int .u32 0]], []⟩ 8 (by kernel_rfl) (by kernel_rfl) (by kernel_rfl) (by kernel_rfl)) ?_
  intro W base args ds gs before hval0 hW hcnd _
  have hval : ∀ (j : Nat) t v, Try.f12.params[j]? = some t → args[j]? = some v → Value.okWide Try.prog W .any base t v := hval0
  have hW' := hW
  obtain ⟨p, q, hA0, hV, rfl, hfz, hnd⟩ := hW
  have hA : DataW.TrodAll enc Try.prog W 0 (fun _ => true) true Try.f12.params.toList args.toList ds p := hA0
  rw [Try.params12] at hA hval
  obtain ⟨v0, vs0, d0, ds0, p0, q0, hargs, rfl, rfl, h0, r0⟩ := trodAll_cons hA
  obtain ⟨v1, vs1, d1, ds1, p1, q1, rfl, rfl, rfl, h1, r1⟩ := trodAll_cons r0
  obtain ⟨rfl, rfl, rfl⟩ := trodAll_nil r1
  obtain rfl : args = #[v0, v1] := by cases args; simp_all
  obtain ⟨rfl, rfl⟩ := trodVars_none hV
  have k0 := h0
  have lt0 : ∀ x ∈ p0, x.block < W.heap.size := by obtain ⟨m, hm⟩ := k0; exact DataW.trod_lt m _ _ _ hm
  obtain ⟨ca0, cb0, cc0, ya0, yb0, yc0, m0, rfl, hd0, hp0, ha0, hb0, hc0⟩ := Go.Joins.open_agg3 Try.underlying24 (by kernel_rfl) (by kernel_rfl) (hval 0 24 v0 rfl rfl) h0
  obtain ⟨na0, ea0, -, wa0⟩ := DataW.trod_int Try.underlying3 ha0
  injection ea0 with ea0
  subst ea0
  obtain ⟨nb0, eb0, -, wb0⟩ := DataW.trod_int Try.underlying22 hb0
  injection eb0 with eb0
  subst eb0
  simp [Lit.wf, IntKind.min, IntKind.max, IntKind.signed, IntKind.bits] at wb0
  obtain ⟨Nb0, rfl⟩ : ∃ N : Nat, nb0 = (N : Int) := ⟨nb0.toNat, by omega⟩
  obtain ⟨nc0, ec0, -, wc0⟩ := DataW.trod_int Try.underlying22 hc0
  injection ec0 with ec0
  subst ec0
  simp [Lit.wf, IntKind.min, IntKind.max, IntKind.signed, IntKind.bits] at wc0
  obtain ⟨Nc0, rfl⟩ : ∃ N : Nat, nc0 = (N : Int) := ⟨nc0.toNat, by omega⟩
  have k1 := h1
  have lt1 : ∀ x ∈ p1, x.block < W.heap.size := by obtain ⟨m, hm⟩ := k1; exact DataW.trod_lt m _ _ _ hm
  obtain ⟨ca1, cb1, cc1, ya1, yb1, yc1, m1, rfl, hd1, hp1, ha1, hb1, hc1⟩ := Go.Joins.open_agg3 Try.underlying24 (by kernel_rfl) (by kernel_rfl) (hval 1 24 v1 rfl rfl) h1
  obtain ⟨na1, ea1, -, wa1⟩ := DataW.trod_int Try.underlying3 ha1
  injection ea1 with ea1
  subst ea1
  obtain ⟨nb1, eb1, -, wb1⟩ := DataW.trod_int Try.underlying22 hb1
  injection eb1 with eb1
  subst eb1
  simp [Lit.wf, IntKind.min, IntKind.max, IntKind.signed, IntKind.bits] at wb1
  obtain ⟨Nb1, rfl⟩ : ∃ N : Nat, nb1 = (N : Int) := ⟨nb1.toNat, by omega⟩
  obtain ⟨nc1, ec1, -, wc1⟩ := DataW.trod_int Try.underlying22 hc1
  injection ec1 with ec1
  subst ec1
  simp [Lit.wf, IntKind.min, IntKind.max, IntKind.signed, IntKind.bits] at wc1
  obtain ⟨Nc1, rfl⟩ : ∃ N : Nat, nc1 = (N : Int) := ⟨nc1.toNat, by omega⟩
  clear hA0 hval0
  simp only [List.append_nil] at hW'
  refine (lLsdbLess_walk ⟨na0, Nb0, Nc0⟩ ⟨na1, Nb1, Nc1⟩ W  ).mono fun e W' ⟨he, hke⟩ => ?_
  have bel := hke.below (Nat.le_refl _) (fun _ f => f.elim)
  subst he
  exact ⟨_, rfl, _, _, _, [], _, [], hW', trodAll_mk1 (shut_bool Try.underlying4 _), (trodAll_cons_mk (Below.trod laidOut (by kernel_rfl) (of_decide_eq_true (by kernel_rfl)) k0 bel lt0) (trodAll_cons_mk (Below.trod laidOut (by kernel_rfl) (of_decide_eq_true (by kernel_rfl)) k1 bel lt1) trodAll_mk0)), rfl, bel.frame _, fun h => by cases h⟩
theorem over : Rows.lsdbLessRow.holds Try.pinned (OpenSpec.ofChange Rows.lsdbLessSpec) :=
  OpenClaim.holds_of_wide 12 Try.f12 rfl rfl rfl rfl rfl rfl rfl ⟨rfl, rfl, rfl, rfl, rfl⟩ rfl rfl rfl rfl rfl (by kernel_rfl) Try.func12 (by kernel_rfl)
    (of_decide_eq_true (by kernel_rfl)) (by unfold Func.isWrapper; first | (rw [if_pos (by decide +kernel)]; kernel_rfl) | (rw [if_neg (by decide +kernel)]; exact ⟨rfl, rfl⟩))
    (fun os started H enc _ => lifted os started H enc)
end lsdbLessProof
theorem lsdbLess_holds : Rows.LsdbLessSaid := lsdbLessProof.over
end Go.Proofs.Ytiogeepffdpafaa
