/- PacketGets, proved: of all packets, bent ones with a sum that was made right among them, what their bytes tell is told, or the error; for every input. No condition. -/
import Derived.Test.YtmggbljkehclpaaG43
import Derived.Test.YtmggbljkehclpaaG45
import Derived.Test.YtmggbljkehclpaaG46
import Derived.ChangeOld
import Derived.Deep.Grids
import Derived.OpenShut
import Derived.ProofKit
import Derived.ShutString
import Derived.Test.YtmggbljkehclpaaRows
set_option linter.unusedVariables false
set_option linter.unusedSimpArgs false
namespace Go.Proofs.Ytmggbljkehclpaa
open Go.ChangeShapes Go.WideShapes Go.ChangeAt Go.RowKit Go.WideMaps Go.Deep
open Go.ChangeMaps (open_string)
set_option linter.unusedVariables false
namespace packetGetsProof
theorem own : ownKnob Try.prog.godebug = none := by kernel_rfl
theorem laidOut : laidOutB Try.prog = true := by kernel_rfl
set_option maxRecDepth 100000 in
theorem lifted (os : Os) (started : os.Started) (H : Type) (enc : TypeId × Value → H) :
 ReturnsInHanded {} Try.checked os 4 .any (Rows.packetGetsSpec.pre6 enc Try.prog Try.f4 Rows.packetGetsRow.domain false) (Rows.packetGetsSpec.post enc Try.prog Try.f4 false true false false) := by
 refine returnsInHanded_of_change_sized (C := Try.checked) own started (by kernel_rfl) Try.func4
  (ChangeSpec.witness6 (enc := enc) (C := Try.checked) false ⟨#[], #[.agg (Pa 0 0 0 ByteArray.empty 0 0 0 0 0 0 Sn 0 0 Sn Sn Sn), .agg #[.int .i64 0, .int .i64 0], .bool false], []⟩ 8 (by kernel_rfl) (by kernel_rfl) (by kernel_rfl) (by kernel_rfl)) ?_
 intro W base args ds gs before hval0 hW hcnd hwt _
 have hval : ∀ (j : Nat) t v, Try.f4.params[j]? = some t → args[j]? = some v → Value.okWide Try.prog W .any base t v := hval0
 have hW' := hW
 obtain ⟨p, q, hA0, hV, rfl, hfz, hnd⟩ := hW
 have hA : DataW.TrodAll enc Try.prog W 0 (fun _ => true) true Try.f4.params.toList args.toList ds p := hA0
 rw [Try.params4] at hA hval
 obtain ⟨v0, vs0, d0, ds0, p0, q0, hargs, rfl, rfl, h0, r0⟩ := trodAll_cons hA
 obtain ⟨v1, vs1, d1, ds1, p1, q1, rfl, rfl, rfl, h1, r1⟩ := trodAll_cons r0
 obtain ⟨v2, vs2, d2, ds2, p2, q2, rfl, rfl, rfl, h2, r2⟩ := trodAll_cons r1
 obtain ⟨rfl, rfl, rfl⟩ := trodAll_nil r2
 obtain rfl : args = #[v0, v1, v2] := by cases args; simp_all
 obtain ⟨rfl, rfl⟩ := trodVars_none hV
 have k0 := h0
 have lt0 : ∀ x ∈ p0, x.block < W.heap.size := by obtain ⟨m, hm⟩ := k0; exact DataW.trod_lt m _ _ _ hm
 obtain ⟨P0, pn0, ph0, pk0, pl0, cn0, ch0, ck0, cl0, rfl, C0⟩ := n02 (hval 0 30 v0 rfl rfl) h0 (fun q hq => by simpa using List.all_eq_true.1 hwt q (DataW.weights_mem_each (j := 0) rfl rfl q hq))
 have k1 := h1
 have lt1 : ∀ x ∈ p1, x.block < W.heap.size := by obtain ⟨m, hm⟩ := k1; exact DataW.trod_lt m _ _ _ hm
 obtain ⟨xa1, xb1, rfl, wa1, wb1⟩ := q0v (hval 1 52 v1 rfl rfl) h1
 have k2 := h2
 obtain ⟨a2, rfl, rfl, rfl⟩ := open_bool Try.underlying4 (hval 2 4 v2 rfl rfl) h2
 have lt2 : ∀ x ∈ ([] : List MemPlace), x.block < W.heap.size := fun x hx => by cases hx
 clear hA0 hval0
 simp only [List.append_nil] at hW'
 refine (j0w P0 pn0 ph0 pk0 pl0 cn0 ch0 ck0 cl0 (b05 P0 (.slice pn0 P0.nbs.length cn0) (.slice ph0 P0.heads.length ch0) (.slice pk0 P0.keys.length ck0) (.slice pl0 P0.lsas.length cl0)) xa1 xb1 a2 W (Hi rfl) (Hi C0.at') (Hi C0.ok) C0.al wa1.1 wa1.2 wb1.1 wb1.2).mono fun e W' ⟨he, hke⟩ => ?_
 have bel := hke.below (Nat.le_refl _) (fun _ f => f.elim)
 subst he
 exact ⟨_, rfl, _, _, _, [], _, [], hW', trodAll_mk1 (shut_bool Try.underlying4 _), (trodAll_cons_mk (Below.trod laidOut (by kernel_rfl) (of_decide_eq_true (by kernel_rfl)) k0 bel lt0) (trodAll_cons_mk (Below.trod laidOut (by kernel_rfl) (of_decide_eq_true (by kernel_rfl)) k1 bel lt1) (trodAll_cons_mk (Below.trod laidOut (by kernel_rfl) (of_decide_eq_true (by kernel_rfl)) k2 bel lt2) trodAll_mk0))), rfl, bel.frame _, fun h => by cases h⟩
theorem over : Rows.packetGetsRow.holds Try.pinned (OpenSpec.ofChange Rows.packetGetsSpec) :=
 OpenClaim.holds_of_wide 4 Try.f4 rfl rfl rfl rfl rfl rfl rfl ⟨rfl, rfl, rfl, rfl, rfl⟩ rfl rfl rfl rfl rfl (by kernel_rfl) Try.func4 (by kernel_rfl)
  (of_decide_eq_true (by kernel_rfl)) (by unfold Func.isWrapper; first | (rw [if_pos (by decide +kernel)]; kernel_rfl) | (rw [if_neg (by decide +kernel)]; exact ⟨rfl, rfl⟩))
  (fun os started H enc _ => lifted os started H enc)
end packetGetsProof
theorem packetGets_holds : Rows.PacketGetsSaid := packetGetsProof.over
end Go.Proofs.Ytmggbljkehclpaa
