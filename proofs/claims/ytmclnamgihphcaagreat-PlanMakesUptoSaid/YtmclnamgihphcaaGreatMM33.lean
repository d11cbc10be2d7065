/- Lines and faults of the document that came in, of a bulk that is bounded (gen_rvg.py, out of CGL). -/
import Derived.Test.YtmclnamgihphcaaGreatRows
import Derived.Test.YtmclnamgihphcaaGreatMM32
import Derived.ProofKit
import Derived.OpenShut
import Derived.JoinedCond
import Derived.Deep.Grids
import Derived.Deep.Slices
import Derived.ShutString
import Derived.ChangeOld
set_option linter.unusedVariables false
set_option linter.unusedSimpArgs false
set_option linter.unusedVariables false
set_option linter.unusedSimpArgs false
namespace Go.Proofs.YtmclnamgihphcaaGreat
open Go.ChangeShapes Go.WideShapes Go.ChangeAt Go.RowKit Go.Deep

theorem bulk_part {H : Type} {d : DataW H} {l : List (DataW H)} (h : d ∈ l) : Rows.uptoBulk d ≤ Rows.uptoBulkAll l := by
  induction l with
  | nil => cases h
  | cons x r ih =>
    simp only [Rows.uptoBulkAll]
    rcases List.mem_cons.1 h with e | e
    · subst e; omega
    · have := ih e; omega
theorem bulk_len {H : Type} (l : List (DataW H)) : l.length ≤ Rows.uptoBulkAll l := by
  induction l with
  | nil => simp [Rows.uptoBulkAll]
  | cons x r ih =>
    have h1 : 1 ≤ Rows.uptoBulk x := by
      cases x with
      | lit l => cases l <;> simp [Rows.uptoBulk]
      | _ => simp [Rows.uptoBulk]
    simp only [Rows.uptoBulkAll, List.length_cons]; omega
theorem listX4 {α : Type} {l : List α} (h : l.length = 4) : ∃ a b c d, l = [a, b, c, d] := by
  match l, h with
  | [a, b, c, d], _ => exact ⟨a, b, c, d, rfl⟩
theorem listX2 {α : Type} {l : List α} (h : l.length = 2) : ∃ a b, l = [a, b] := by
  match l, h with
  | [a, b], _ => exact ⟨a, b, rfl⟩
theorem cxAct : Tryz.prog.cellsOf 43 = 2 := by kernel_rfl
theorem cxInt : Tryz.prog.cellsOf 3 = 1 := by kernel_rfl
theorem cxStr : Tryz.prog.cellsOf 9 = 1 := by kernel_rfl
theorem cxLine : Tryz.prog.cellsOf 48 = 4 := by kernel_rfl
theorem choose_l {α : Type} (n : Nat) (P : Nat → α → Prop) (h : ∀ i, i < n → ∃ a, P i a) : ∃ l : List α, l.length = n ∧ ∀ i a, l[i]? = some a → P i a := by
  induction n with
  | zero => exact ⟨[], rfl, fun i a e => by simp at e⟩
  | succ n ih =>
    obtain ⟨l, hl, hP⟩ := ih (fun i hi => h i (by omega))
    obtain ⟨a, ha⟩ := h n (by omega)
    refine ⟨l ++ [a], by simp [hl], fun i b e => ?_⟩
    by_cases hi : i < l.length
    · rw [List.getElem?_append_left hi] at e; exact hP i b e
    · rw [List.getElem?_append_right (by omega)] at e
      have : i = n := by have := (List.getElem?_eq_some_iff.1 e).1; simp at this; omega
      subst this
      rw [hl, Nat.sub_self] at e
      injection e with e; subst e; exact ha
section
variable {H : Type} {enc : TypeId × Value → H} {W : World}
set_option maxRecDepth 100000 in
theorem line_came {fuel : Nat} {cs : List Value} {x : DataW H × List MemPlace} {M : Nat} (hl : cs.length = 4) (h : DataW.trod enc Tryz.prog W 0 (fun _ => true) true fuel 48 cs = some x) (hM : Rows.uptoBulk x.1 ≤ M) :
    ∃ l : LineD, (l.name.length ≤ M ∧ l.leaf.length ≤ M ∧ l.value.length ≤ M) ∧ cs = lineVals l := by
  obtain ⟨c0, c1, c2, c3, rfl⟩ := listX4 hl
  obtain ⟨xs, n, -, hx, -, hlen, hf⟩ := DataW.trod_struct Tryz.underlying48 h
  obtain ⟨y0, y1, y2, y3, rfl⟩ := listX4 hlen
  have f0 : DataW.trod enc Tryz.prog W 0 (fun _ => true) true n 3 ((([c0, c1, c2, c3] : List Value).drop 0).take (Tryz.prog.cellsOf 3)) = some y0 := hf 0 _ rfl
  rw [cxInt] at f0
  have f1 : DataW.trod enc Tryz.prog W 0 (fun _ => true) true n 9 ((([c0, c1, c2, c3] : List Value).drop 1).take (Tryz.prog.cellsOf 9)) = some y1 := hf 1 _ rfl
  rw [cxStr] at f1
  have f2 : DataW.trod enc Tryz.prog W 0 (fun _ => true) true n 9 ((([c0, c1, c2, c3] : List Value).drop 2).take (Tryz.prog.cellsOf 9)) = some y2 := hf 2 _ rfl
  rw [cxStr] at f2
  have f3 : DataW.trod enc Tryz.prog W 0 (fun _ => true) true n 9 ((([c0, c1, c2, c3] : List Value).drop 3).take (Tryz.prog.cellsOf 9)) = some y3 := hf 3 _ rfl
  rw [cxStr] at f3
  obtain ⟨n0, e0, -, w0⟩ := DataW.trod_int Tryz.underlying3 f0
  obtain ⟨N, e1, r1, -⟩ := DataW.trod_string Tryz.underlying9 f1
  obtain ⟨F, e2, r2, -⟩ := DataW.trod_string Tryz.underlying9 f2
  obtain ⟨V, e3, r3, -⟩ := DataW.trod_string Tryz.underlying9 f3
  injection e0 with e0 _; injection e1 with e1 _; injection e2 with e2 _; injection e3 with e3 _
  subst e0; subst e1; subst e2; subst e3
  subst r1; subst r2; subst r3
  subst hx
  simp only [List.map_cons, List.map_nil, Rows.uptoBulk, Rows.uptoBulkAll] at hM
  exact ⟨⟨n0, N.data.toList, F.data.toList, V.data.toList⟩, ⟨by show N.data.toList.length ≤ M; omega, by show F.data.toList.length ≤ M; omega, by show V.data.toList.length ≤ M; omega⟩, rfl⟩
theorem lines_came {fuel : Nat} {x0 : Value} {x : DataW H × List MemPlace} {M : Nat} (h : DataW.trod enc Tryz.prog W 0 (fun _ => true) true fuel 22 [x0] = some x) (hM : Rows.uptoBulk x.1 ≤ M) :
    ∃ (ls : List LineD) (p : Option Addr) (c : Nat), x0 = .slice p ls.length c ∧ RowsAt 4 lineVals W (.slice p ls.length c) ls ∧ LinesLt ls M ∧ ls.length ≤ M := by
  rcases Go.Deep.open_slice Tryz.underlying22 h with ⟨hcs, -⟩ | ⟨a, len, cap, m, n, D, Pl, hcs, -, hlc, hm, hmm, hx, hall⟩
  · injection hcs with hcs _; subst hcs
    exact ⟨[], none, 0, rfl, RowsAt.nil _, (fun l hl => by cases hl), by simp⟩
  · injection hcs with hcs _; subst hcs
    simp only [if_true] at hmm
    subst hmm
    subst hx
    simp only [Rows.uptoBulk] at hM
    have hex : ∀ i, i < len → ∃ l : LineD, (l.name.length ≤ M ∧ l.leaf.length ≤ M ∧ l.value.length ≤ M) ∧ ∀ j, j < 4 → W.cell? ((a.add (i * 4)).add j) = (lineVals l)[j]? := fun i hi => by
      obtain ⟨cs', h1, h2⟩ := hall i (by omega)
      rw [cxLine] at h1
      obtain ⟨-, hl, hc⟩ := World.cells?_some h1
      obtain ⟨l, hok, rfl⟩ := line_came (M := M) hl h2 (Nat.le_trans (bulk_part (List.mem_map.2 ⟨i, List.mem_range.2 hi, rfl⟩)) (by omega))
      exact ⟨l, hok, hc⟩
    have hlenM : len ≤ M := by
      have h1 := bulk_len ((List.range len).map D)
      rw [List.length_map, List.length_range] at h1
      omega
    obtain ⟨ls, hlen2, hls⟩ := choose_l len _ hex
    refine ⟨ls, some a, m, by rw [hlen2], ⟨some a, m, rfl, (fun e => nomatch e), by rw [hlen2]; exact hlc, fun h0 => ?_⟩, fun l hl => ?_, by rw [hlen2]; exact hlenM⟩
    · obtain ⟨b, o, s⟩ := a
      have h00 := (hls 0 ls[0] (List.getElem?_eq_getElem h0)).2 0 (by omega)
      have hsn : s = none := by simpa [Addr.add] using World.cell?_spot (h00.trans (show (lineVals ls[0])[0]? = some (.int .i64 ls[0].head) from rfl))
      subst hsn
      refine ⟨b, o, rfl, fun i l hl j u hu => ?_⟩
      have hj : j < 4 := by have := (List.getElem?_eq_some_iff.1 hu).1; simpa [lineVals] using this
      have := (hls i l hl).2 j hj
      rw [hu, Addr.add_mid, Addr.add_mid] at this
      exact this
    · obtain ⟨i, hi, rfl⟩ := List.mem_iff_getElem.1 hl
      exact (hls i _ (List.getElem?_eq_getElem hi)).1
set_option maxRecDepth 100000 in
theorem act_came {fuel : Nat} {cs : List Value} {x : DataW H × List MemPlace} {M : Nat} (hl : cs.length = 2) (h : DataW.trod enc Tryz.prog W 0 (fun _ => true) true fuel 43 cs = some x) (hM : Rows.uptoBulk x.1 ≤ M) :
    ∃ l : ActD, l.name.length ≤ M ∧ cs = aVals l := by
  obtain ⟨c0, c1, rfl⟩ := listX2 hl
  obtain ⟨xs, n, -, hx, -, hlen, hf⟩ := DataW.trod_struct Tryz.underlying43 h
  obtain ⟨y0, y1, rfl⟩ := listX2 hlen
  have f0 : DataW.trod enc Tryz.prog W 0 (fun _ => true) true n 3 ((([c0, c1] : List Value).drop 0).take (Tryz.prog.cellsOf 3)) = some y0 := hf 0 _ rfl
  rw [cxInt] at f0
  have f1 : DataW.trod enc Tryz.prog W 0 (fun _ => true) true n 9 ((([c0, c1] : List Value).drop 1).take (Tryz.prog.cellsOf 9)) = some y1 := hf 1 _ rfl
  rw [cxStr] at f1
  obtain ⟨n0, e0, -, w0⟩ := DataW.trod_int Tryz.underlying3 f0
  obtain ⟨N, e1, r1, -⟩ := DataW.trod_string Tryz.underlying9 f1
  injection e0 with e0 _; injection e1 with e1 _
  subst e0; subst e1
  subst r1
  subst hx
  simp only [List.map_cons, List.map_nil, Rows.uptoBulk, Rows.uptoBulkAll] at hM
  exact ⟨⟨n0, N.data.toList⟩, by show N.data.toList.length ≤ M; omega, rfl⟩
theorem acts_came {fuel : Nat} {x0 : Value} {x : DataW H × List MemPlace} {M : Nat} (h : DataW.trod enc Tryz.prog W 0 (fun _ => true) true fuel 31 [x0] = some x) (hM : Rows.uptoBulk x.1 ≤ M) :
    ∃ (ls : List ActD) (p : Option Addr) (c : Nat), x0 = .slice p ls.length c ∧ RowsAt 2 aVals W (.slice p ls.length c) ls ∧ ActsLt ls M ∧ ls.length ≤ M := by
  rcases Go.Deep.open_slice Tryz.underlying31 h with ⟨hcs, -⟩ | ⟨a, len, cap, m, n, D, Pl, hcs, -, hlc, hm, hmm, hx, hall⟩
  · injection hcs with hcs _; subst hcs
    exact ⟨[], none, 0, rfl, RowsAt.nil _, (fun l hl => by cases hl), by simp⟩
  · injection hcs with hcs _; subst hcs
    simp only [if_true] at hmm
    subst hmm
    subst hx
    simp only [Rows.uptoBulk] at hM
    have hex : ∀ i, i < len → ∃ l : ActD, l.name.length ≤ M ∧ ∀ j, j < 2 → W.cell? ((a.add (i * 2)).add j) = (aVals l)[j]? := fun i hi => by
      obtain ⟨cs', h1, h2⟩ := hall i (by omega)
      rw [cxAct] at h1
      obtain ⟨-, hl, hc⟩ := World.cells?_some h1
      obtain ⟨l, hok, rfl⟩ := act_came (M := M) hl h2 (Nat.le_trans (bulk_part (List.mem_map.2 ⟨i, List.mem_range.2 hi, rfl⟩)) (by omega))
      exact ⟨l, hok, hc⟩
    have hlenM : len ≤ M := by
      have h1 := bulk_len ((List.range len).map D)
      rw [List.length_map, List.length_range] at h1
      omega
    obtain ⟨ls, hlen2, hls⟩ := choose_l len _ hex
    refine ⟨ls, some a, m, by rw [hlen2], ⟨some a, m, rfl, (fun e => nomatch e), by rw [hlen2]; exact hlc, fun h0 => ?_⟩, fun l hl => ?_, by rw [hlen2]; exact hlenM⟩
    · obtain ⟨b, o, s⟩ := a
      have h00 := (hls 0 ls[0] (List.getElem?_eq_getElem h0)).2 0 (by omega)
      have hsn : s = none := by simpa [Addr.add] using World.cell?_spot (h00.trans (show (aVals ls[0])[0]? = some (.int .i64 ls[0].kind) from rfl))
      subst hsn
      refine ⟨b, o, rfl, fun i l hl j u hu => ?_⟩
      have hj : j < 2 := by have := (List.getElem?_eq_some_iff.1 hu).1; simpa [aVals] using this
      have := (hls i l hl).2 j hj
      rw [hu, Addr.add_mid, Addr.add_mid] at this
      exact this
    · obtain ⟨i, hi, rfl⟩ := List.mem_iff_getElem.1 hl
      exact (hls i _ (List.getElem?_eq_getElem hi)).1
end
end Go.Proofs.YtmclnamgihphcaaGreat
/- PlanMakes, proved in its second form, for every input whose bulk is at most 1048576 (gen_pmt.py, out of PLQ). -/
set_option linter.unusedVariables false
namespace Go.Proofs.YtmclnamgihphcaaGreat
open Go.ChangeShapes Go.WideShapes Go.ChangeAt Go.RowKit Go.WideMaps Go.Deep
open Go.ChangeMaps (open_string)
theorem small_mono {D : List LineD} {m k : Nat} (h : LinesLt D m) (hk : m ≤ k) : LinesLt D k := fun l hl => by have := h l hl; omega
namespace planMakesProof
theorem own : ownKnob Tryz.prog.godebug = none := by kernel_rfl
theorem laidOut : laidOutB Tryz.prog = true := by kernel_rfl
theorem bound {H : Type} {l : List (DataW H)} (hk : Rows.uptoSmall H l = true) : Rows.uptoBulkAll l ≤ 1048576 := by
  simpa [Rows.uptoSmall] using hk
set_option maxRecDepth 100000 in
theorem contract (H : Type) (enc : TypeId × Value → H) (W : World) (base : Nat) (args : Array Value) (ds gs : List (DataW H)) (before : List MemPlace)
    (hval : ∀ (j : Nat) t v, Tryz.f3.params[j]? = some t → args[j]? = some v → Value.okWide Tryz.prog W .any base t v)
    (hW : DataW.Whole enc Tryz.prog Tryz.f3.params.toList Rows.planMakesSpec.vars false W args.toList ds gs before) (hk : Rows.uptoSmall H (ds ++ gs) = true) :
    Calls Tryz.prog 3 args W fun e W' => ∃ v, e = .returned v ∧ Rows.planMakesSpec.post enc Tryz.prog Tryz.f3 false true false false W args v W' := by
  have hW' := hW
  obtain ⟨p, q, hA0, hV, rfl, hfz, hnd⟩ := hW
  have hA : DataW.TrodAll enc Tryz.prog W 0 (fun _ => true) true Tryz.f3.params.toList args.toList ds p := hA0
  rw [Tryz.params3] at hA hval
  obtain ⟨v0, vs0, d0, ds0, p0, q0, hargs, rfl, rfl, h0, r0⟩ := trodAll_cons hA
  obtain ⟨v1, vs1, d1, ds1, p1, q1, rfl, rfl, rfl, h1, r1⟩ := trodAll_cons r0
  obtain ⟨rfl, rfl, rfl⟩ := trodAll_nil r1
  obtain rfl : args = #[v0, v1] := by cases args; simp_all
  obtain ⟨rfl, rfl⟩ := trodVars_none hV
  have k0 := h0
  have k1 := h1
  have hb := bound hk
  simp only [List.append_nil, Rows.uptoBulkAll] at hb
  have lt0 : ∀ x ∈ p0, x.block < W.heap.size := by obtain ⟨m, hm⟩ := k0; exact DataW.trod_lt m _ _ _ hm
  have lt1 : ∀ x ∈ p1, x.block < W.heap.size := by obtain ⟨m, hm⟩ := k1; exact DataW.trod_lt m _ _ _ hm
  obtain ⟨sa, sl, sc, rfl⟩ := okWide_slice Tryz.underlying22 (hval 0 22 v0 rfl rfl)
  obtain ⟨m0, hm0⟩ := h0
  obtain ⟨ls, pz, cz, hvz, hrows, hlt, hlen⟩ := lines_came (M := 1048576) (show DataW.trod enc Tryz.prog W 0 (fun _ => true) true m0 22 [.slice sa sl sc] = some (d0, p0) from hm0) (by simp only; omega)
  rw [hvz] at hW' k0 hA0 ⊢
  obtain ⟨ta, tl, tc, rfl⟩ := okWide_slice Tryz.underlying22 (hval 1 22 v1 rfl rfl)
  obtain ⟨m1, hm1⟩ := h1
  obtain ⟨ys, py, cy, hvy, hrowy, hlty, hleny⟩ := lines_came (M := 1048576) (show DataW.trod enc Tryz.prog W 0 (fun _ => true) true m1 22 [.slice ta tl tc] = some (d1, p1) from hm1) (by simp only; omega)
  rw [hvy] at hW' k1 hA0 ⊢
  clear hA0
  simp only [List.append_nil] at hW'
  refine (planMakes_law _ _ ls ys W (Lib.hid hrows) (Lib.hid hrowy) (by omega) (by omega) (Lib.hid (small_mono hlt (by omega))) (Lib.hid (small_mono hlty (by omega)))).mono fun e W' ⟨he, hke⟩ => ?_
  have bel := hke.below (Nat.le_refl _) (fun _ f => f.elim)
  subst he
  exact ⟨_, rfl, _, _, _, [], _, [], hW', trodAll_mk1 (shut_bool Tryz.underlying4 _), (trodAll_cons_mk (Below.trod laidOut (by kernel_rfl) (of_decide_eq_true (by kernel_rfl)) k0 bel lt0) (trodAll_cons_mk (Below.trod laidOut (by kernel_rfl) (of_decide_eq_true (by kernel_rfl)) k1 bel lt1) trodAll_mk0)), rfl, bel.frame _, fun h => by cases h⟩
set_option maxRecDepth 100000 in
theorem lifted (os : Os) (started : os.Started) (H : Type) (enc : TypeId × Value → H) (F : Stop.Interp) :
    ReturnsInHanded {} Tryz.checked os 3 .any ((Rows.OpenSpec.upto Rows.planMakesSpec).pre6 enc Tryz.prog Tryz.f3 Rows.planMakesUptoRow.domain false) (((Rows.OpenSpec.upto Rows.planMakesSpec).at F).post enc Tryz.prog Tryz.f3 false true false false) := by
  refine returnsInHanded_of_cond (C := Tryz.checked) (s := Rows.OpenSpec.upto Rows.planMakesSpec) (k := Rows.uptoSmall) rfl own started (by kernel_rfl) Tryz.func3
    (OpenSpec.witness (enc := enc) (C := Tryz.checked) (s := Rows.OpenSpec.upto Rows.planMakesSpec) (k := Rows.uptoSmall) rfl false ⟨#[], #[.slice none 0 0, .slice none 0 0], []⟩ 8 (by kernel_rfl) (by kernel_rfl) (by kernel_rfl)
      (x := ([.nil, .nil], [], [])) (by kernel_rfl) rfl (by kernel_rfl)) ?_
  intro W base args ds gs before hval hW _ hk _
  exact contract H enc W base args ds gs before hval hW hk
theorem over : Rows.planMakesUptoRow.holds Tryz.pinned (Rows.OpenSpec.upto Rows.planMakesSpec) :=
  OpenClaim.holds_of_cond 3 Tryz.f3 rfl rfl rfl rfl rfl rfl rfl ⟨rfl, rfl, rfl, rfl, rfl⟩ rfl rfl rfl rfl rfl (by kernel_rfl) Tryz.func3 (by kernel_rfl)
    (of_decide_eq_true (by kernel_rfl)) (by unfold Func.isWrapper; first | (rw [if_pos (by decide +kernel)]; kernel_rfl) | (rw [if_neg (by decide +kernel)]; exact ⟨rfl, rfl⟩))
    (fun os started H enc _ F => lifted os started H enc F)
end planMakesProof
theorem planMakesUpto_holds : Rows.PlanMakesUptoSaid := planMakesProof.over
end Go.Proofs.YtmclnamgihphcaaGreat
