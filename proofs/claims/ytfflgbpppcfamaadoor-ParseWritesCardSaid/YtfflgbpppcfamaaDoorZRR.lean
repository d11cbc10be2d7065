/- ParseWrites, proved: of all commands the words are told, or that there are none; they are read again; for every input. Its card lists three tables of Go's library and the words of commands as their texts lay them. -/
import Derived.Test.YtfflgbpppcfamaaDoorRows
import Derived.Test.YtfflgbpppcfamaaDoorTie
import Derived.Test.YtfflgbpppcfamaaDoorCards
import Derived.Test.YtfflgbpppcfamaaDoorZRQ
import Derived.Test.YtfflgbpppcfamaaDoorZRJ
import Derived.ProofKit
import Derived.OpenShut
import Derived.ShutString
import Derived.ChangeOld
import Derived.LaidMore
import Derived.Stop.Joined
import Derived.SevenTiedAt
import Derived.Lib.LaidTab
import Derived.Deep.Grids
set_option linter.unusedVariables false
set_option linter.unusedSimpArgs false
namespace Go.Proofs.YtfflgbpppcfamaaDoor
open Go.ChangeShapes Go.WideShapes Go.ChangeAt Go.RowKit Go.WideMaps Go.Deep
open Go.ChangeMaps (open_string)
theorem list6 {α : Type} {l : List α} (h : l.length = 6) : ∃ a b c d e f, l = [a, b, c, d, e, f] := by
  match l, h with
  | [a, b, c, d, e, f], _ => exact ⟨a, b, c, d, e, f, rfl⟩
theorem list3c {α : Type} {l : List α} (h : l.length = 3) : ∃ a b c, l = [a, b, c] := by
  match l, h with
  | [a, b, c], _ => exact ⟨a, b, c, rfl⟩
theorem list4c {α : Type} {l : List α} (h : l.length = 4) : ∃ a b c d, l = [a, b, c, d] := by
  match l, h with
  | [a, b, c, d], _ => exact ⟨a, b, c, d, rfl⟩
theorem ccInt : Tryd.prog.cellsOf 3 = 1 := by kernel_rfl
theorem ccStr : Tryd.prog.cellsOf 9 = 1 := by kernel_rfl
theorem ccLine : Tryd.prog.cellsOf 29 = 4 := by kernel_rfl
theorem ccCmd : Tryd.prog.cellsOf 31 = 6 := by kernel_rfl
theorem wf_i {n : Int} (h : (Lit.int .i64 n).wf = true) : -9223372036854775808 ≤ n ∧ n ≤ 9223372036854775807 := by
  simpa [Lit.wf, IntKind.min, IntKind.max, IntKind.signed, IntKind.bits] using h
set_option maxRecDepth 100000 in
theorem cmd_came {H : Type} {enc : TypeId × Value → H} {W : World} {base : Nat} {v : Value} {d : DataW H} {ps : List MemPlace} (hval : Value.okWide Tryd.prog W .any base 31 v) (h : DataW.Trod enc Tryd.prog W 0 (fun _ => true) true 31 v d ps) :
    ∃ (a h n : Int) (N L V : ByteArray), v = .agg #[.int .i64 a, .int .i64 h, .string N, .string L, .string V, .int .i64 n] ∧ -9223372036854775808 ≤ n ∧ n ≤ 9223372036854775807 := by
  obtain ⟨cs, rfl, hsz⟩ := okWide_struct Tryd.underlying31 hval
  rw [ccCmd] at hsz
  obtain ⟨x0, x1, x2, x3, x4, x5, hcs⟩ := list6 (show cs.toList.length = 6 by simpa using hsz)
  obtain rfl : cs = #[x0, x1, x2, x3, x4, x5] := by rw [← Array.toArray_toList (xs := cs), hcs]
  obtain ⟨fuel, hfu⟩ := h
  obtain ⟨xs, n, -, -, -, hlen, hf⟩ := DataW.trod_struct Tryd.underlying31 hfu
  obtain ⟨y0, y1, y2, rfl⟩ := list3c hlen
  have f0 : DataW.trod enc Tryd.prog W 0 (fun _ => true) true n 3 ((([x0, x1, x2, x3, x4, x5] : List Value).drop 0).take (Tryd.prog.cellsOf 3)) = some y0 := hf 0 _ rfl
  rw [ccInt] at f0
  have f1 : DataW.trod enc Tryd.prog W 0 (fun _ => true) true n 29 ((([x0, x1, x2, x3, x4, x5] : List Value).drop 1).take (Tryd.prog.cellsOf 29)) = some y1 := hf 1 _ rfl
  rw [ccLine] at f1
  have f2 : DataW.trod enc Tryd.prog W 0 (fun _ => true) true n 3 ((([x0, x1, x2, x3, x4, x5] : List Value).drop 5).take (Tryd.prog.cellsOf 3)) = some y2 := hf 2 _ rfl
  rw [ccInt] at f2
  obtain ⟨n0, e0, -, w0⟩ := DataW.trod_int Tryd.underlying3 f0
  obtain ⟨n2, e2, -, w2⟩ := DataW.trod_int Tryd.underlying3 f2
  obtain ⟨zs, m, -, -, -, hlen2, hk⟩ := DataW.trod_struct Tryd.underlying29 f1
  obtain ⟨z0, z1, z2, z3, rfl⟩ := list4c hlen2
  have k0 : DataW.trod enc Tryd.prog W 0 (fun _ => true) true m 3 ((([x1, x2, x3, x4] : List Value).drop 0).take (Tryd.prog.cellsOf 3)) = some z0 := hk 0 _ rfl
  rw [ccInt] at k0
  have k1 : DataW.trod enc Tryd.prog W 0 (fun _ => true) true m 9 ((([x1, x2, x3, x4] : List Value).drop 1).take (Tryd.prog.cellsOf 9)) = some z1 := hk 1 _ rfl
  rw [ccStr] at k1
  have k2 : DataW.trod enc Tryd.prog W 0 (fun _ => true) true m 9 ((([x1, x2, x3, x4] : List Value).drop 2).take (Tryd.prog.cellsOf 9)) = some z2 := hk 2 _ rfl
  rw [ccStr] at k2
  have k3 : DataW.trod enc Tryd.prog W 0 (fun _ => true) true m 9 ((([x1, x2, x3, x4] : List Value).drop 3).take (Tryd.prog.cellsOf 9)) = some z3 := hk 3 _ rfl
  rw [ccStr] at k3
  obtain ⟨m0, g0, -, u0⟩ := DataW.trod_int Tryd.underlying3 k0
  obtain ⟨N, g1, -, -⟩ := DataW.trod_string Tryd.underlying9 k1
  obtain ⟨L, g2, -, -⟩ := DataW.trod_string Tryd.underlying9 k2
  obtain ⟨V, g3, -, -⟩ := DataW.trod_string Tryd.underlying9 k3
  injection e0 with e0 _; injection e2 with e2 _
  injection g0 with g0 _; injection g1 with g1 _; injection g2 with g2 _; injection g3 with g3 _
  subst e0; subst e2; subst g0; subst g1; subst g2; subst g3
  exact ⟨n0, m0, n2, N, L, V, rfl, wf_i w2⟩
namespace parseWritesProof
theorem own : ownKnob Tryd.prog.godebug = none := by kernel_rfl
theorem laidOut : laidOutB Tryd.prog = true := by kernel_rfl
def laid3 : List (String × DataW Unit) := Rows.parseWritesRow.laid
theorem door_met (os : Os) (args : Array Value) : laidMetH Tryd.prog laid3 ((World.doorLaid Tryd.prog 4000 os).forCall (fun _ _ => 0) ⟨#[], args, []⟩).memory := by
  rw [MakeChecks.laidMetH_plain _ _ _ (by kernel_rfl)]
  exact laidMet_of_run' 8 (by kernel_rfl) (by kernel_rfl)
theorem tabs_of {W : World} (h : laidMetH Tryd.prog laid3 W) : TabOk W ∧ VerbsOk W := by
  rw [MakeChecks.laidMetH_plain _ _ _ (by kernel_rfl)] at h
  obtain ⟨ps, ⟨g0, t0, cs0, f0, p0, q0, hg0, ht0, hv0, hd0, ⟨g1, t1, cs1, f1, p1, q1, hg1, ht1, hv1, hd1, ⟨g2, t2, cs2, f2, p2, q2, hg2, ht2, hv2, hd2, ⟨g3, t3, cs3, f3, p3, q3, hg3, ht3, hv3, hd3, _, _⟩, _⟩, _⟩, _⟩, _, _⟩ := h
  constructor
  · have hN : Tryd.prog.globalNamed "internal/strconv.uint64pow10" = some 2 := by kernel_rfl
    have hT : (Tryd.prog.globals[(2 : Nat)]?).map (·.type) = some 115 := by kernel_rfl
    obtain rfl := Option.some.inj (hN.symm.trans hg2)
    obtain rfl := Option.some.inj (hT.symm.trans ht2)
    have e2 : (Rows.laid_internal_strconv_uint64pow10 : DataW Unit) = Lib.tabData .u64 Lib.pow10Tab := by kernel_rfl
    rw [e2] at hd2
    unfold TabOk Lib.TabIs
    rw [hv2, ← Lib.cells_of_tab (zs := Lib.pow10Tab) (k := .u64) Tryd.underlying115 Tryd.underlying107 (by kernel_rfl) (by kernel_rfl) hd2]
  · have hN : Tryd.prog.globalNamed "waystone/parse.verbs" = some 0 := by kernel_rfl
    have hT : (Tryd.prog.globals[(0 : Nat)]?).map (·.type) = some 87 := by kernel_rfl
    obtain rfl := Option.some.inj (hN.symm.trans hg3)
    obtain rfl := Option.some.inj (hT.symm.trans ht3)
    have e2 : (Rows.laid_waystone_parse_verbs : DataW Unit) = .agg (verbsL.map fun l => .lit (.string l)) := by kernel_rfl
    rw [e2] at hd3
    have hcs := strs_of_laid Tryd.underlying87 Tryd.underlying9 (by kernel_rfl) (by kernel_rfl) hd3
    intro j v hv
    rw [World.var?_cell hN hv3, Nat.zero_add, ← Array.getElem?_toList, hcs]
    exact hv
set_option maxRecDepth 100000 in
theorem lifted (os : Os) (started : os.Started) (H : Type) (enc : TypeId × Value → H) :
    ReturnsInHanded {} Tryd.checked os 4 .any (fun w args => (Rows.parseWritesSpec.pre enc Tryd.prog Tryd.f4 [] false w args ∧ laidMetH Tryd.prog laid3 w) ∧ sizedMet enc Tryd.prog Tryd.f4 (OpenSpec.ofChange Rows.parseWritesSpec) false w args)
      (Rows.parseWritesSpec.post enc Tryd.prog Tryd.f4 false true false false) := by
  refine returnsInHanded_of_change_and (C := Tryd.checked) (X := fun w _ => laidMetH Tryd.prog laid3 w) (fun _ _ _ hh h => h.of_heap hh) own started (by kernel_rfl) Tryd.func4
    (ChangeSpec.witness_shaped (enc := enc) (C := Tryd.checked) (os := os) (X := fun w _ => laidMetH Tryd.prog laid3 w) false (World.doorLaid Tryd.prog 4000 os) #[.agg #[.int .i64 0, .int .i64 0, .string ByteArray.empty, .string ByteArray.empty, .string ByteArray.empty, .int .i64 0]] 8 rfl (World.shaped_of_RefB (by kernel_rfl) (by kernel_rfl)) (by kernel_rfl) (by kernel_rfl) (by kernel_rfl) (door_met os _)) ?_
  intro W base args ds gs before hval0 hW _ _ hL _
  have hval : ∀ (j : Nat) t v, Tryd.f4.params[j]? = some t → args[j]? = some v → Value.okWide Tryd.prog W .any base t v := hval0
  have hW' := hW
  obtain ⟨p, q, hA0, hV, rfl, hfz, hnd⟩ := hW
  have hA : DataW.TrodAll enc Tryd.prog W 0 (fun _ => true) true Tryd.f4.params.toList args.toList ds p := hA0
  rw [Tryd.params4] at hA hval
  obtain ⟨v0, vs0, d0, ds0, p0, q0, hargs, rfl, rfl, h0, r0⟩ := trodAll_cons hA
  obtain ⟨rfl, rfl, rfl⟩ := trodAll_nil r0
  obtain rfl : args = #[v0] := by cases args; simp_all
  obtain ⟨rfl, rfl⟩ := trodVars_none hV
  have k0 := h0
  have lt0 : ∀ x ∈ p0, x.block < W.heap.size := by obtain ⟨m, hm⟩ := k0; exact DataW.trod_lt m _ _ _ hm
  obtain ⟨xa, xh, xn, xN, xL, xV, rfl, b1, b2⟩ := cmd_came (hval 0 31 v0 rfl rfl) h0
  have ht := Lib.hid (tabs_of hL).2
  have htab := Lib.hid (tabs_of hL).1
  clear hA0 hval0
  simp only [List.append_nil] at hW'
  refine (parseWrites_law xa xh xN xL xV xn W b1 b2 ht htab).mono fun e W' ⟨he, bel⟩ => ?_
  subst he
  exact ⟨_, rfl, _, _, _, [], _, [], hW', trodAll_mk1 (shut_bool Tryd.underlying4 _), (trodAll_cons_mk (Below.trod laidOut (by kernel_rfl) (of_decide_eq_true (by kernel_rfl)) k0 bel lt0) trodAll_mk0), rfl, bel.frame _, fun h => by cases h⟩
theorem over : Rows.parseWritesRow.holds Tryd.pinned (OpenSpec.ofChange Rows.parseWritesSpec) :=
  OpenClaim.holds_of_wide 4 Tryd.f4 rfl rfl rfl rfl rfl rfl rfl ⟨rfl, rfl, rfl, rfl, rfl⟩ rfl rfl rfl rfl rfl (by kernel_rfl) Tryd.func4 (by kernel_rfl)
    (of_decide_eq_true (by kernel_rfl)) (by unfold Func.isWrapper; first | (rw [if_pos (by decide +kernel)]; kernel_rfl) | (rw [if_neg (by decide +kernel)]; exact ⟨rfl, rfl⟩))
    (fun os started H enc _ => lifted os started H enc)
end parseWritesProof
theorem parseWrites_holds : Rows.ParseWritesCardSaid :=
  Claim7.holds_tied_plain_at .later [] [.data, .data, .data, .data] true (true, "e2645a7dd349e238bfe91752c819ad2f5c2637fb680d734cbd05a6e88b5677e2") false
    parseWritesProof.over (fun _ h => by cases h) (by kernel_rfl) (fun _ h => by cases h) parseWrites_row_tie rfl ⟨rfl, rfl⟩ (by kernel_rfl) rfl
    (fun f fn hf hfn => by
      obtain rfl : f = 4 := Option.some.inj ((show Tryd.prog.funcNamed "waystone/waystonelaw06.ParseWrites" = some 4 by kernel_rfl).symm.trans hf) |>.symm
      obtain rfl : fn = Tryd.f4 := (Option.some.inj (Tryd.func4.symm.trans hfn)).symm
      exact ⟨by kernel_rfl, fun j t ht => by
        rw [Tryd.params4] at ht
        match j, ht with
        | 0, ht => (obtain rfl : t = 31 := by simpa using ht.symm); exact (show Tryd.prog.wantsStandIn 31 = false by kernel_rfl)
        | j + 1, ht => simp at ht⟩)
    (by kernel_rfl)
end Go.Proofs.YtfflgbpppcfamaaDoor
