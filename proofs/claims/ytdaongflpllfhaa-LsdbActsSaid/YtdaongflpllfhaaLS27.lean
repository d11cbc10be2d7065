/- Acts that came in. -/
import Derived.Test.YtdaongflpllfhaaLS25
import Derived.Test.YtdaongflpllfhaaRows
import Derived.Test.YtdaongflpllfhaaLS26
import Derived.ProofKit
import Derived.OpenShut
import Derived.ShutString
import Derived.ChangeOld
import Derived.Deep.Grids
import Derived.Deep.Slices
set_option linter.unusedVariables false
set_option linter.unusedSimpArgs false
set_option linter.unusedVariables false
set_option linter.unusedSimpArgs false
namespace Go.Proofs.Ytdaongflpllfhaa
open Go.ChangeShapes Go.WideShapes Go.ChangeAt Go.RowKit Go.Deep

theorem list12 {α : Type} {l : List α} (h : l.length = 12) : ∃ a b c d e f g i j k m n, l = [a, b, c, d, e, f, g, i, j, k, m, n] := by
  match l, h with
  | [a, b, c, d, e, f, g, i, j, k, m, n], _ => exact ⟨a, b, c, d, e, f, g, i, j, k, m, n, rfl⟩
theorem cAct12 : Try.prog.cellsOf 50 = 12 := by kernel_rfl
theorem bAct12 : Try.prog.bytesOf 50 = 120 := by kernel_rfl
section
variable {H : Type} {enc : TypeId × Value → H} {W : World}
theorem act12_came {fuel : Nat} {cs : List Value} {x : DataW H × List MemPlace} (hl : cs.length = 12) (h : DataW.trod enc Try.prog W 0 (fun _ => true) true fuel 50 cs = some x) (hs : ∀ n ∈ x.1.weights Try.prog 50, n ≤ reachBytes) : ∃ a : ActM, ActC W a ∧ cs = rowA a := by
  obtain ⟨c0, c1, c2, c3, c4, c5, c6, c7, c8, c9, c10, c11, rfl⟩ := list12 hl
  obtain ⟨xs, n, -, hx, -, hlen, hf⟩ := DataW.trod_struct Try.underlying50 h
  obtain ⟨y0, y1, y2, y3, rfl⟩ := list4 hlen
  subst hx
  have f0 : DataW.trod enc Try.prog W 0 (fun _ => true) true n 3 ((([c0, c1, c2, c3, c4, c5, c6, c7, c8, c9, c10, c11] : List Value).drop 0).take (Try.prog.cellsOf 3)) = some y0 := hf 0 _ rfl
  rw [cInt] at f0
  have f1 : DataW.trod enc Try.prog W 0 (fun _ => true) true n 48 ((([c0, c1, c2, c3, c4, c5, c6, c7, c8, c9, c10, c11] : List Value).drop 1).take (Try.prog.cellsOf 48)) = some y1 := hf 1 _ rfl
  rw [cLsa] at f1
  have f2 : DataW.trod enc Try.prog W 0 (fun _ => true) true n 3 ((([c0, c1, c2, c3, c4, c5, c6, c7, c8, c9, c10, c11] : List Value).drop 10).take (Try.prog.cellsOf 3)) = some y2 := hf 2 _ rfl
  rw [cInt] at f2
  have f3 : DataW.trod enc Try.prog W 0 (fun _ => true) true n 3 ((([c0, c1, c2, c3, c4, c5, c6, c7, c8, c9, c10, c11] : List Value).drop 11).take (Try.prog.cellsOf 3)) = some y3 := hf 3 _ rfl
  rw [cInt] at f3
  obtain ⟨n0, e0, -, w0⟩ := DataW.trod_int Try.underlying3 f0
  obtain ⟨n2, e2, -, w2⟩ := DataW.trod_int Try.underlying3 f2
  obtain ⟨n3, e3, -, w3⟩ := DataW.trod_int Try.underlying3 f3
  obtain ⟨m, hm, em⟩ := lsam_came rfl f1 (fun q hq => hs q (by
    simp only [DataW.weights, Try.underlying50]
    exact DataW.weights_mem_each (j := 1) (t := 48) (d := y1.1) rfl rfl q hq))
  have em' : [c1, c2, c3, c4, c5, c6, c7, c8, c9] = lsaRow m := em
  injection e0 with e0 _; injection e2 with e2 _; injection e3 with e3 _
  subst e0; subst e2; subst e3
  refine ⟨⟨n0, m, n2, n3⟩, ⟨hm, wf_int w0, wf_int w2, wf_int w3⟩, ?_⟩
  show Value.int .i64 n0 :: ([c1, c2, c3, c4, c5, c6, c7, c8, c9] ++ [.int .i64 n2, .int .i64 n3]) = _
  rw [em']; rfl
set_option maxRecDepth 100000 in
theorem acts12_came {base : Nat} {v : Value} {d : DataW H} {ps : List MemPlace} (hval : Value.okWide Try.prog W .any base 22 v) (h : DataW.Trod enc Try.prog W 0 (fun _ => true) true 22 v d ps) (hs : ∀ n ∈ d.weights Try.prog 22, n ≤ reachBytes) :
    ∃ rs : List ActM, RowsAt 12 rowA W v rs ∧ (∀ a ∈ rs, ActC W a) ∧ rs.length ≤ 9223372036854775807 := by
  obtain ⟨p, n, c, rfl⟩ := okWide_slice Try.underlying22 hval
  obtain ⟨fuel, hf⟩ := h
  obtain ⟨ls, p2, c2, e, hR, hg, -, hlen⟩ := rows_came Try.underlying22 cAct12 bAct12 (by decide) rowA_len (ActC W) (fun fuel cs x hl ht hw => act12_came hl ht hw) (by simpa [Value.cells] using hf) hs
  exact ⟨ls, by rw [e]; exact hR, hg, hlen⟩
end
end Go.Proofs.Ytdaongflpllfhaa
/- LsdbActs, proved: in every row of calls a Db has what it should, in order; a copy goes its own way; of none nothing is told; for every input. No condition. -/
namespace Go.Proofs.Ytdaongflpllfhaa
open Go.ChangeShapes Go.WideShapes Go.ChangeAt Go.RowKit Go.WideMaps Go.Deep
open Go.ChangeMaps (open_string)
set_option linter.unusedVariables false
namespace lsdbActsProof
theorem own : ownKnob Try.prog.godebug = none := by kernel_rfl
theorem laidOut : laidOutB Try.prog = true := by kernel_rfl
set_option maxRecDepth 100000 in
theorem lifted (os : Os) (started : os.Started) (H : Type) (enc : TypeId × Value → H) :
    ReturnsInHanded {} Try.checked os 3 .any (Rows.lsdbActsSpec.pre6 enc Try.prog Try.f3 Rows.lsdbActsRow.domain false) (Rows.lsdbActsSpec.post enc Try.prog Try.f3 false true false false) := by
  refine returnsInHanded_of_change_sized (C := Try.checked) own started (by kernel_rfl) Try.func3
    (ChangeSpec.witness6 (enc := enc) (C := Try.checked) false ⟨#[], #[.slice none 0 0], []⟩ 8 (by kernel_rfl) (by kernel_rfl) (by kernel_rfl) (by kernel_rfl)) ?_
  intro W base args ds gs before hval0 hW hcnd hwt _
  have hval : ∀ (j : Nat) t v, Try.f3.params[j]? = some t → args[j]? = some v → Value.okWide Try.prog W .any base t v := hval0
  have hW' := hW
  obtain ⟨p, q, hA0, hV, rfl, hfz, hnd⟩ := hW
  have hA : DataW.TrodAll enc Try.prog W 0 (fun _ => true) true Try.f3.params.toList args.toList ds p := hA0
  rw [Try.params3] at hA hval
  obtain ⟨v0, vs0, d0, ds0, p0, q0, hargs, rfl, rfl, h0, r0⟩ := trodAll_cons hA
  obtain ⟨rfl, rfl, rfl⟩ := trodAll_nil r0
  obtain rfl : args = #[v0] := by cases args; simp_all
  obtain ⟨rfl, rfl⟩ := trodVars_none hV
  have k0 := h0
  have lt0 : ∀ x ∈ p0, x.block < W.heap.size := by obtain ⟨m, hm⟩ := k0; exact DataW.trod_lt m _ _ _ hm
  obtain ⟨a0, w0, c0, b0⟩ := acts12_came (hval 0 22 v0 rfl rfl) h0 (fun q hq => by simpa using List.all_eq_true.1 hwt q (DataW.weights_mem_each (j := 0) rfl rfl q hq))
  clear hA0 hval0
  simp only [List.append_nil] at hW'
  refine (lLsdbActs_walk v0 a0 W (Lib.hid w0) (Lib.hid c0) b0).mono fun e W' ⟨he, hke⟩ => ?_
  have bel := hke.below (Nat.le_refl _) (fun _ f => f.elim)
  subst he
  exact ⟨_, rfl, _, _, _, [], _, [], hW', trodAll_mk1 (shut_bool Try.underlying4 _), (trodAll_cons_mk (Below.trod laidOut (by kernel_rfl) (of_decide_eq_true (by kernel_rfl)) k0 bel lt0) trodAll_mk0), rfl, bel.frame _, fun h => by cases h⟩
theorem over : Rows.lsdbActsRow.holds Try.pinned (OpenSpec.ofChange Rows.lsdbActsSpec) :=
  OpenClaim.holds_of_wide 3 Try.f3 rfl rfl rfl rfl rfl rfl rfl ⟨rfl, rfl, rfl, rfl, rfl⟩ rfl rfl rfl rfl rfl (by kernel_rfl) Try.func3 (by kernel_rfl)
    (of_decide_eq_true (by kernel_rfl)) (by unfold Func.isWrapper; first | (rw [if_pos (by decide +kernel)]; kernel_rfl) | (rw [if_neg (by decide +kernel)]; exact ⟨rfl, rfl⟩))
    (fun os started H enc _ => lifted os started H enc)
end lsdbActsProof
theorem lsdbActs_holds : Rows.LsdbActsSaid := lsdbActsProof.over
end Go.Proofs.Ytdaongflpllfhaa
