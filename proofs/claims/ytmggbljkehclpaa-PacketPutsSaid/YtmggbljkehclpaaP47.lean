/- PacketPuts, proved: of all packets the bytes are told, or that they can't be; they are got again by their own key, and by no other one; for every input. No condition. -/
import Derived.Test.YtmggbljkehclpaaP46
import Derived.ChangeOld
import Derived.Deep.Grids
import Derived.OpenShut
import Derived.ProofKit
import Derived.ShutString
import Derived.Test.YtmggbljkehclpaaRows
set_option linter.unusedVariables false
set_option linter.unusedSimpArgs false
namespace Go.Proofs.Ytmggbljkehclpaa
open Go.ChangeShapes Go.WideShapes Go.ChangeAt Go.RowKit Go.WideMaps Go.Deep
open Go.ChangeMaps (open_string)
set_option linter.unusedVariables false
namespace packetPutsProof
theorem own : ownKnob Try.prog.godebug = none := by kernel_rfl
theorem laidOut : laidOutB Try.prog = true := by kernel_rfl
set_option maxRecDepth 100000 in
theorem lifted (os : Os) (started : os.Started) (H : Type) (enc : TypeId × Value → H) :
 ReturnsInHanded {} Try.checked os 3 .any (Rows.packetPutsSpec.pre6 enc Try.prog Try.f3 Rows.packetPutsRow.domain false) (Rows.packetPutsSpec.post enc Try.prog Try.f3 false true false false) := by
 refine returnsInHanded_of_change_sized (C := Try.checked) own started (by kernel_rfl) Try.func3
  (ChangeSpec.witness6 (enc := enc) (C := Try.checked) false ⟨#[], #[.agg (Pa 0 0 0 ByteArray.empty 0 0 0 0 0 0 Sn 0 0 Sn Sn Sn), .string ByteArray.empty], []⟩ 8 (by kernel_rfl) (by kernel_rfl) (by kernel_rfl) (by kernel_rfl)) ?_
 intro W base args ds gs before hval0 hW hcnd hwt _
 have hval : ∀ (j : Nat) t v, Try.f3.params[j]? = some t → args[j]? = some v → Value.okWide Try.prog W .any base t v := hval0
 have hW' := hW
 obtain ⟨p, q, hA0, hV, rfl, hfz, hnd⟩ := hW
 have hA : DataW.TrodAll enc Try.prog W 0 (fun _ => true) true Try.f3.params.toList args.toList ds p := hA0
 rw [Try.params3] at hA hval
 obtain ⟨v0, vs0, d0, ds0, p0, q0, hargs, rfl, rfl, h0, r0⟩ := trodAll_cons hA
 obtain ⟨v1, vs1, d1, ds1, p1, q1, rfl, rfl, rfl, h1, r1⟩ := trodAll_cons r0
 obtain ⟨rfl, rfl, rfl⟩ := trodAll_nil r1
 obtain rfl : args = #[v0, v1] := by cases args; simp_all
 obtain ⟨rfl, rfl⟩ := trodVars_none hV
 have k0 := h0
 have lt0 : ∀ x ∈ p0, x.block < W.heap.size := by obtain ⟨m, hm⟩ := k0; exact DataW.trod_lt m _ _ _ hm
 obtain ⟨P0, pn0, ph0, pk0, pl0, cn0, ch0, ck0, cl0, rfl, C0⟩ := o04 (hval 0 30 v0 rfl rfl) h0 (fun q hq => by simpa using List.all_eq_true.1 hwt q (DataW.weights_mem_each (j := 0) rfl rfl q hq))
 have k1 := h1
 obtain ⟨a1, rfl, rfl, rfl, w1⟩ := open_string Try.underlying9 (hval 1 9 v1 rfl rfl) h1
 have b1 : a1.size ≤ 9223372036854775807 := by unfold maxLen at w1; exact w1
 have lt1 : ∀ x ∈ ([] : List MemPlace), x.block < W.heap.size := fun x hx => by cases hx
 clear hA0 hval0
 simp only [List.append_nil] at hW'
 refine (k0q P0 pn0 ph0 pk0 pl0 cn0 ch0 ck0 cl0 (a0w P0 (.slice pn0 P0.nbs.length cn0) (.slice ph0 P0.heads.length ch0) (.slice pk0 P0.keys.length ck0) (.slice pl0 P0.lsas.length cl0)) a1 W (Hi rfl) (Hi C0.at') (Hi C0.ok) C0.al C0.nl C0.hl C0.kl C0.ll (Hi C0.bd) (Hi C0.oks) b1).mono fun e W' ⟨he, hke⟩ => ?_
 have bel := hke.below (Nat.le_refl _) (fun _ f => f.elim)
 subst he
 exact ⟨_, rfl, _, _, _, [], _, [], hW', trodAll_mk1 (shut_bool Try.underlying4 _), (trodAll_cons_mk (Below.trod laidOut (by kernel_rfl) (of_decide_eq_true (by kernel_rfl)) k0 bel lt0) (trodAll_cons_mk (Below.trod laidOut (by kernel_rfl) (of_decide_eq_true (by kernel_rfl)) k1 bel lt1) trodAll_mk0)), rfl, bel.frame _, fun h => by cases h⟩
theorem over : Rows.packetPutsRow.holds Try.pinned (OpenSpec.ofChange Rows.packetPutsSpec) :=
 OpenClaim.holds_of_wide 3 Try.f3 rfl rfl rfl rfl rfl rfl rfl ⟨rfl, rfl, rfl, rfl, rfl⟩ rfl rfl rfl rfl rfl (by kernel_rfl) Try.func3 (by kernel_rfl)
  (of_decide_eq_true (by kernel_rfl)) (by unfold Func.isWrapper; first | (rw [if_pos (by decide +kernel)]; kernel_rfl) | (rw [if_neg (by decide +kernel)]; exact ⟨rfl, rfl⟩))
  (fun os started H enc _ => lifted os started H enc)
end packetPutsProof
theorem packetPuts_holds : Rows.PacketPutsSaid := packetPutsProof.over
end Go.Proofs.Ytmggbljkehclpaa
