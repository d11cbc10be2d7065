/- RulesCheck, walked. -/
import Derived.Test.YthofplmjlfhloaaMC13
import Derived.Test.YthofplmjlfhloaaMC14
import Derived.Test.YthofplmjlfhloaaMC12
import Derived.Test.YthofplmjlfhloaaMC08
import Derived.Test.YthofplmjlfhloaaRows
import Derived.ProofKit
import Derived.OpenShut
import Derived.JoinedCond
import Derived.Deep.Grids
import Derived.Deep.Slices
import Derived.ShutString
import Derived.ChangeOld
set_option linter.unusedVariables false
set_option linter.unusedSimpArgs false
set_option linter.unusedVariables false
set_option linter.unusedSimpArgs false
namespace Go.Proofs.Ythofplmjlfhloaa
open Go.RowKit

theorem one8_name {b : Bool} {k : Int} {n : List UInt8} {f : FaultD} (h : f ∈ one8 b k n) : f.name = n := by
  unfold one8 at h
  split at h
  · simp at h; rw [h]
  · simp at h
theorem names_small {ls : List LineD} (hr : rightC ls = true) (h : Int) : ∀ n ∈ namesA h ls, n.length ≤ 100 := fun n hn => by
  unfold namesA at hn
  split at hn
  · simp at hn
  · obtain ⟨q, hq, -, rfl⟩ := (names_nodup h (right_rises hr)).2 n hn
    exact (line_small (right_line hr q hq)).1
theorem doc_small {ls : List LineD} (hr : rightC ls = true) : FaultsLt (docR ls) 100 := fun f hf => by
  unfold docR docTo at hf
  rw [List.mem_flatMap] at hf
  obtain ⟨i, -, hf⟩ := hf
  unfold docK at hf
  simp only [List.mem_append] at hf
  rcases hf with (((h | h) | h) | h) | h
  · rw [one8_name h]; simp
  · rw [one8_name h]; simp
  · unfold docF at h
    rw [List.mem_flatMap] at h
    obtain ⟨j, -, h⟩ := h
    rw [one8_name h, List.getD_eq_getElem?_getD]
    cases e : (namesA 2 ls)[j]? with
    | none => simp
    | some n => exact names_small hr 2 n (List.mem_of_getElem? e)
  · unfold docA at h
    rw [List.mem_flatMap] at h
    obtain ⟨a, ha, h⟩ := h
    rw [one8_name h]
    exact names_small hr 1 a ha
  · rw [one8_name h]; simp
theorem doc_len {ls : List LineD} (hr : rightC ls = true) : (docR ls).length ≤ 1600 := by
  have h0 := right_len hr
  have h1 := namesA_len 2 ls
  have h2 := namesA_len 1 ls
  exact docTo_len ls _ _ 8 (by omega) (by omega)

set_option maxRecDepth 100000 in
set_option maxHeartbeats 8000000 in
theorem rulesCheck_law (v : Value) (ls : List LineD) (w : World) (hv : Hid (RowsAt 4 lineVals w v ls)) (hl : ls.length ≤ 1000000000000) (hlt : Hid (LinesLt ls 8796093022000)) :
    Calls Try.prog 3 #[v] w (lawEndR w) := by
  obtain ⟨p, c, rfl⟩ := hv.out.slice
  have hr0 := build_right ls
  have hb := Lib.hid (build_any _ ls w hv hl hlt)
  generalize buildC ls = L at hr0 hb
  have hr := Lib.hid hr0
  have hlen := right_len hr0
  have hdl := doc_len hr0
  have hds : Hid (docR L = checkC L) := Lib.hid (doc_same hr0)
  have hzz := textF_len (doc_small hr0)
  have hz : (textF (docR L)).length ≤ 1000000000 := by
    have : (docR L).length * (100 + 11) ≤ 1600 * (100 + 11) := Nat.mul_le_mul_right _ hdl
    omega
  clear hr0 hzz hlt
  go_enter Try.func3, Try.ntmps3
  go_wp2_with fail
  refine hb.out.mono ?_
  rintro e w1 ⟨p1, c1, rfl, hX, k1⟩
  have hC1 := Lib.hid (hX.at lineVals_len)
  have hk1 := Lib.hid k1
  clear hX k1 hb hv
  go_wp2_with fail
  refine (to_any _ L _ hC1 (by omega)).mono ?_
  rintro e w2 ⟨p2, c2, rfl, hX, k2⟩
  have hT2 := Lib.hid (hX.at lineVals_len)
  have hC2 := Lib.hid (hC1.out.keep k2)
  have hk2 := Lib.hid (hk1.out.trans k2)
  clear hX k2 hC1 hk1
  go_wp2_with fail
  refine (ruCheck_c _ L _ hT2 hr).mono ?_
  rw [← hds.out]
  rintro e w3 ⟨p3, c3, rfl, hX, k3⟩
  have hf3 := Lib.hid (hX.at fVals_len)
  have hC3 := Lib.hid (hC2.out.keep k3)
  have hk3 := Lib.hid (hk2.out.trans k3)
  clear hX k3 hC2 hk2 hT2 hds
  go_wp2_with fail
  refine (r8Check_c _ L _ hC3 hr).mono ?_
  rintro e w4 ⟨p4, c4, rfl, hX, k4⟩
  have hd4 := Lib.hid (hX.at fVals_len)
  have hf4 := Lib.hid (hf3.out.keep k4)
  have hk4 := Lib.hid (hk3.out.trans k4)
  clear hX k4 hC3 hk3 hf3
  generalize docR L = fs at hd4 hf4 hdl hz ⊢
  obtain ⟨T, hT⟩ : ∃ T : ByteArray, T = ⟨(textF fs).toArray⟩ := ⟨_, rfl⟩
  have hT' := Lib.hid hT
  clear hT
  go_wp2_with fail
  refine (tells_any _).mono ?_
  rintro e w5 ⟨rfl, k5⟩
  have hd5 := Lib.hid (hd4.out.keep k5)
  have hf5 := Lib.hid (hf4.out.keep k5)
  have hk5 := Lib.hid (hk4.out.trans k5)
  clear k5 hd4 hf4 hk4
  go_wp2_with fail
  refine (from8_any _ fs _ hf5 (by omega)).mono ?_
  rintro e w6 ⟨p6, c6, rfl, hX, k6⟩
  have hg6 := Lib.hid (hX.at fVals_len)
  have hd6 := Lib.hid (hd5.out.keep k6)
  have hf6 := Lib.hid (hf5.out.keep k6)
  have hk6 := Lib.hid (hk5.out.trans k6)
  clear hX k6 hd5 hf5 hk5
  go_wp2_with fail
  refine (r8Same_refl _ _ fs _ hg6 hd6 (by omega)).mono ?_
  rintro e w7 ⟨rfl, k7⟩
  have hd7 := Lib.hid (hd6.out.keep k7)
  have hf7 := Lib.hid (hf6.out.keep k7)
  have hk7 := Lib.hid (hk6.out.trans k7)
  clear k7 hd6 hf6 hk6 hg6
  go_wp2_with fail
  refine (ruText_any _ fs T _ hf7 (by omega) hz hT').mono ?_
  rintro e w8 ⟨rfl, k8⟩
  have hd8 := Lib.hid (hd7.out.keep k8)
  have hk8 := Lib.hid (hk7.out.trans k8)
  clear k8 hd7 hf7 hk7
  go_wp2_with fail
  refine (r8Text_any _ fs T _ hd8 (by omega) hz hT').mono ?_
  rintro e w9 ⟨rfl, k9⟩
  have hk9 := Lib.hid (hk8.out.trans k9)
  clear k9 hd8 hk8
  go_wp2_with fail
  go_ret
  exact ⟨rfl, hk9.out⟩
end Go.Proofs.Ythofplmjlfhloaa
/- Lines and faults of the document that came in, of a bulk that is bounded (gen_rvg.py, out of CGL). -/
set_option linter.unusedVariables false
set_option linter.unusedSimpArgs false
namespace Go.Proofs.Ythofplmjlfhloaa
open Go.ChangeShapes Go.WideShapes Go.ChangeAt Go.RowKit Go.Deep

theorem bulk_part {H : Type} {d : DataW H} {l : List (DataW H)} (h : d ∈ l) : Rows.uptoBulk d ≤ Rows.uptoBulkAll l := by
  induction l with
  | nil => cases h
  | cons x r ih =>
    simp only [Rows.uptoBulkAll]
    rcases List.mem_cons.1 h with e | e
    · subst e; omega
    · have := ih e; omega
theorem bulk_len {H : Type} (l : List (DataW H)) : l.length ≤ Rows.uptoBulkAll l := by
  induction l with
  | nil => simp [Rows.uptoBulkAll]
  | cons x r ih =>
    have h1 : 1 ≤ Rows.uptoBulk x := by
      cases x with
      | lit l => cases l <;> simp [Rows.uptoBulk]
      | _ => simp [Rows.uptoBulk]
    simp only [Rows.uptoBulkAll, List.length_cons]; omega
theorem listX4 {α : Type} {l : List α} (h : l.length = 4) : ∃ a b c d, l = [a, b, c, d] := by
  match l, h with
  | [a, b, c, d], _ => exact ⟨a, b, c, d, rfl⟩
theorem listX2 {α : Type} {l : List α} (h : l.length = 2) : ∃ a b, l = [a, b] := by
  match l, h with
  | [a, b], _ => exact ⟨a, b, rfl⟩
theorem cxFault : Try.prog.cellsOf 40 = 2 := by kernel_rfl
theorem cxInt : Try.prog.cellsOf 3 = 1 := by kernel_rfl
theorem cxStr : Try.prog.cellsOf 9 = 1 := by kernel_rfl
theorem cxLine : Try.prog.cellsOf 45 = 4 := by kernel_rfl
theorem choose_l {α : Type} (n : Nat) (P : Nat → α → Prop) (h : ∀ i, i < n → ∃ a, P i a) : ∃ l : List α, l.length = n ∧ ∀ i a, l[i]? = some a → P i a := by
  induction n with
  | zero => exact ⟨[], rfl, fun i a e => by simp at e⟩
  | succ n ih =>
    obtain ⟨l, hl, hP⟩ := ih (fun i hi => h i (by omega))
    obtain ⟨a, ha⟩ := h n (by omega)
    refine ⟨l ++ [a], by simp [hl], fun i b e => ?_⟩
    by_cases hi : i < l.length
    · rw [List.getElem?_append_left hi] at e; exact hP i b e
    · rw [List.getElem?_append_right (by omega)] at e
      have : i = n := by have := (List.getElem?_eq_some_iff.1 e).1; simp at this; omega
      subst this
      rw [hl, Nat.sub_self] at e
      injection e with e; subst e; exact ha
section
variable {H : Type} {enc : TypeId × Value → H} {W : World}
set_option maxRecDepth 100000 in
theorem line_came {fuel : Nat} {cs : List Value} {x : DataW H × List MemPlace} {M : Nat} (hl : cs.length = 4) (h : DataW.trod enc Try.prog W 0 (fun _ => true) true fuel 45 cs = some x) (hM : Rows.uptoBulk x.1 ≤ M) :
    ∃ l : LineD, (l.name.length ≤ M ∧ l.leaf.length ≤ M ∧ l.value.length ≤ M) ∧ cs = lineVals l := by
  obtain ⟨c0, c1, c2, c3, rfl⟩ := listX4 hl
  obtain ⟨xs, n, -, hx, -, hlen, hf⟩ := DataW.trod_struct Try.underlying45 h
  obtain ⟨y0, y1, y2, y3, rfl⟩ := listX4 hlen
  have f0 : DataW.trod enc Try.prog W 0 (fun _ => true) true n 3 ((([c0, c1, c2, c3] : List Value).drop 0).take (Try.prog.cellsOf 3)) = some y0 := hf 0 _ rfl
  rw [cxInt] at f0
  have f1 : DataW.trod enc Try.prog W 0 (fun _ => true) true n 9 ((([c0, c1, c2, c3] : List Value).drop 1).take (Try.prog.cellsOf 9)) = some y1 := hf 1 _ rfl
  rw [cxStr] at f1
  have f2 : DataW.trod enc Try.prog W 0 (fun _ => true) true n 9 ((([c0, c1, c2, c3] : List Value).drop 2).take (Try.prog.cellsOf 9)) = some y2 := hf 2 _ rfl
  rw [cxStr] at f2
  have f3 : DataW.trod enc Try.prog W 0 (fun _ => true) true n 9 ((([c0, c1, c2, c3] : List Value).drop 3).take (Try.prog.cellsOf 9)) = some y3 := hf 3 _ rfl
  rw [cxStr] at f3
  obtain ⟨n0, e0, -, w0⟩ := DataW.trod_int Try.underlying3 f0
  obtain ⟨N, e1, r1, -⟩ := DataW.trod_string Try.underlying9 f1
  obtain ⟨F, e2, r2, -⟩ := DataW.trod_string Try.underlying9 f2
  obtain ⟨V, e3, r3, -⟩ := DataW.trod_string Try.underlying9 f3
  injection e0 with e0 _; injection e1 with e1 _; injection e2 with e2 _; injection e3 with e3 _
  subst e0; subst e1; subst e2; subst e3
  subst r1; subst r2; subst r3
  subst hx
  simp only [List.map_cons, List.map_nil, Rows.uptoBulk, Rows.uptoBulkAll] at hM
  exact ⟨⟨n0, N.data.toList, F.data.toList, V.data.toList⟩, ⟨by show N.data.toList.length ≤ M; omega, by show F.data.toList.length ≤ M; omega, by show V.data.toList.length ≤ M; omega⟩, rfl⟩
theorem lines_came {fuel : Nat} {x0 : Value} {x : DataW H × List MemPlace} {M : Nat} (h : DataW.trod enc Try.prog W 0 (fun _ => true) true fuel 22 [x0] = some x) (hM : Rows.uptoBulk x.1 ≤ M) :
    ∃ (ls : List LineD) (p : Option Addr) (c : Nat), x0 = .slice p ls.length c ∧ RowsAt 4 lineVals W (.slice p ls.length c) ls ∧ LinesLt ls M ∧ ls.length ≤ M := by
  rcases Go.Deep.open_slice Try.underlying22 h with ⟨hcs, -⟩ | ⟨a, len, cap, m, n, D, Pl, hcs, -, hlc, hm, hmm, hx, hall⟩
  · injection hcs with hcs _; subst hcs
    exact ⟨[], none, 0, rfl, RowsAt.nil _, (fun l hl => by cases hl), by simp⟩
  · injection hcs with hcs _; subst hcs
    simp only [if_true] at hmm
    subst hmm
    subst hx
    simp only [Rows.uptoBulk] at hM
    have hex : ∀ i, i < len → ∃ l : LineD, (l.name.length ≤ M ∧ l.leaf.length ≤ M ∧ l.value.length ≤ M) ∧ ∀ j, j < 4 → W.cell? ((a.add (i * 4)).add j) = (lineVals l)[j]? := fun i hi => by
      obtain ⟨cs', h1, h2⟩ := hall i (by omega)
      rw [cxLine] at h1
      obtain ⟨-, hl, hc⟩ := World.cells?_some h1
      obtain ⟨l, hok, rfl⟩ := line_came (M := M) hl h2 (Nat.le_trans (bulk_part (List.mem_map.2 ⟨i, List.mem_range.2 hi, rfl⟩)) (by omega))
      exact ⟨l, hok, hc⟩
    have hlenM : len ≤ M := by
      have h1 := bulk_len ((List.range len).map D)
      rw [List.length_map, List.length_range] at h1
      omega
    obtain ⟨ls, hlen2, hls⟩ := choose_l len _ hex
    refine ⟨ls, some a, m, by rw [hlen2], ⟨some a, m, rfl, (fun e => nomatch e), by rw [hlen2]; exact hlc, fun h0 => ?_⟩, fun l hl => ?_, by rw [hlen2]; exact hlenM⟩
    · obtain ⟨b, o, s⟩ := a
      have h00 := (hls 0 ls[0] (List.getElem?_eq_getElem h0)).2 0 (by omega)
      have hsn : s = none := by simpa [Addr.add] using World.cell?_spot (h00.trans (show (lineVals ls[0])[0]? = some (.int .i64 ls[0].head) from rfl))
      subst hsn
      refine ⟨b, o, rfl, fun i l hl j u hu => ?_⟩
      have hj : j < 4 := by have := (List.getElem?_eq_some_iff.1 hu).1; simpa [lineVals] using this
      have := (hls i l hl).2 j hj
      rw [hu, Addr.add_mid, Addr.add_mid] at this
      exact this
    · obtain ⟨i, hi, rfl⟩ := List.mem_iff_getElem.1 hl
      exact (hls i _ (List.getElem?_eq_getElem hi)).1
set_option maxRecDepth 100000 in
theorem fault_came {fuel : Nat} {cs : List Value} {x : DataW H × List MemPlace} {M : Nat} (hl : cs.length = 2) (h : DataW.trod enc Try.prog W 0 (fun _ => true) true fuel 40 cs = some x) (hM : Rows.uptoBulk x.1 ≤ M) :
    ∃ l : FaultD, l.name.length ≤ M ∧ cs = fVals l := by
  obtain ⟨c0, c1, rfl⟩ := listX2 hl
  obtain ⟨xs, n, -, hx, -, hlen, hf⟩ := DataW.trod_struct Try.underlying40 h
  obtain ⟨y0, y1, rfl⟩ := listX2 hlen
  have f0 : DataW.trod enc Try.prog W 0 (fun _ => true) true n 3 ((([c0, c1] : List Value).drop 0).take (Try.prog.cellsOf 3)) = some y0 := hf 0 _ rfl
  rw [cxInt] at f0
  have f1 : DataW.trod enc Try.prog W 0 (fun _ => true) true n 9 ((([c0, c1] : List Value).drop 1).take (Try.prog.cellsOf 9)) = some y1 := hf 1 _ rfl
  rw [cxStr] at f1
  obtain ⟨n0, e0, -, w0⟩ := DataW.trod_int Try.underlying3 f0
  obtain ⟨N, e1, r1, -⟩ := DataW.trod_string Try.underlying9 f1
  injection e0 with e0 _; injection e1 with e1 _
  subst e0; subst e1
  subst r1
  subst hx
  simp only [List.map_cons, List.map_nil, Rows.uptoBulk, Rows.uptoBulkAll] at hM
  exact ⟨⟨n0, N.data.toList⟩, by show N.data.toList.length ≤ M; omega, rfl⟩
theorem faults_came {fuel : Nat} {x0 : Value} {x : DataW H × List MemPlace} {M : Nat} (h : DataW.trod enc Try.prog W 0 (fun _ => true) true fuel 31 [x0] = some x) (hM : Rows.uptoBulk x.1 ≤ M) :
    ∃ (ls : List FaultD) (p : Option Addr) (c : Nat), x0 = .slice p ls.length c ∧ RowsAt 2 fVals W (.slice p ls.length c) ls ∧ FaultsLt ls M ∧ ls.length ≤ M := by
  rcases Go.Deep.open_slice Try.underlying31 h with ⟨hcs, -⟩ | ⟨a, len, cap, m, n, D, Pl, hcs, -, hlc, hm, hmm, hx, hall⟩
  · injection hcs with hcs _; subst hcs
    exact ⟨[], none, 0, rfl, RowsAt.nil _, (fun l hl => by cases hl), by simp⟩
  · injection hcs with hcs _; subst hcs
    simp only [if_true] at hmm
    subst hmm
    subst hx
    simp only [Rows.uptoBulk] at hM
    have hex : ∀ i, i < len → ∃ l : FaultD, l.name.length ≤ M ∧ ∀ j, j < 2 → W.cell? ((a.add (i * 2)).add j) = (fVals l)[j]? := fun i hi => by
      obtain ⟨cs', h1, h2⟩ := hall i (by omega)
      rw [cxFault] at h1
      obtain ⟨-, hl, hc⟩ := World.cells?_some h1
      obtain ⟨l, hok, rfl⟩ := fault_came (M := M) hl h2 (Nat.le_trans (bulk_part (List.mem_map.2 ⟨i, List.mem_range.2 hi, rfl⟩)) (by omega))
      exact ⟨l, hok, hc⟩
    have hlenM : len ≤ M := by
      have h1 := bulk_len ((List.range len).map D)
      rw [List.length_map, List.length_range] at h1
      omega
    obtain ⟨ls, hlen2, hls⟩ := choose_l len _ hex
    refine ⟨ls, some a, m, by rw [hlen2], ⟨some a, m, rfl, (fun e => nomatch e), by rw [hlen2]; exact hlc, fun h0 => ?_⟩, fun l hl => ?_, by rw [hlen2]; exact hlenM⟩
    · obtain ⟨b, o, s⟩ := a
      have h00 := (hls 0 ls[0] (List.getElem?_eq_getElem h0)).2 0 (by omega)
      have hsn : s = none := by simpa [Addr.add] using World.cell?_spot (h00.trans (show (fVals ls[0])[0]? = some (.int .i64 ls[0].kind) from rfl))
      subst hsn
      refine ⟨b, o, rfl, fun i l hl j u hu => ?_⟩
      have hj : j < 2 := by have := (List.getElem?_eq_some_iff.1 hu).1; simpa [fVals] using this
      have := (hls i l hl).2 j hj
      rw [hu, Addr.add_mid, Addr.add_mid] at this
      exact this
    · obtain ⟨i, hi, rfl⟩ := List.mem_iff_getElem.1 hl
      exact (hls i _ (List.getElem?_eq_getElem hi)).1
end
end Go.Proofs.Ythofplmjlfhloaa
/- RulesCheck, proved in its second form, for every input whose bulk is at most 1048576 (gen_rvt.py, out of RVH). -/
set_option linter.unusedVariables false
namespace Go.Proofs.Ythofplmjlfhloaa
open Go.ChangeShapes Go.WideShapes Go.ChangeAt Go.RowKit Go.WideMaps Go.Deep
open Go.ChangeMaps (open_string)
namespace rulesCheckProof
theorem own : ownKnob Try.prog.godebug = none := by kernel_rfl
theorem laidOut : laidOutB Try.prog = true := by kernel_rfl
theorem bound {H : Type} {l : List (DataW H)} (hk : Rows.uptoSmall H l = true) : Rows.uptoBulkAll l ≤ 1048576 := by
  simpa [Rows.uptoSmall] using hk
set_option maxRecDepth 100000 in
theorem contract (H : Type) (enc : TypeId × Value → H) (W : World) (base : Nat) (args : Array Value) (ds gs : List (DataW H)) (before : List MemPlace)
    (hval : ∀ (j : Nat) t v, Try.f3.params[j]? = some t → args[j]? = some v → Value.okWide Try.prog W .any base t v)
    (hW : DataW.Whole enc Try.prog Try.f3.params.toList Rows.rulesCheckSpec.vars false W args.toList ds gs before) (hk : Rows.uptoSmall H (ds ++ gs) = true) :
    Calls Try.prog 3 args W fun e W' => ∃ v, e = .returned v ∧ Rows.rulesCheckSpec.post enc Try.prog Try.f3 false true false false W args v W' := by
  have hW' := hW
  obtain ⟨p, q, hA0, hV, rfl, hfz, hnd⟩ := hW
  have hA : DataW.TrodAll enc Try.prog W 0 (fun _ => true) true Try.f3.params.toList args.toList ds p := hA0
  rw [Try.params3] at hA hval
  obtain ⟨v0, vs0, d0, ds0, p0, q0, hargs, rfl, rfl, h0, r0⟩ := trodAll_cons hA
  obtain ⟨rfl, rfl, rfl⟩ := trodAll_nil r0
  obtain rfl : args = #[v0] := by cases args; simp_all
  obtain ⟨rfl, rfl⟩ := trodVars_none hV
  have k0 := h0
  have hb := bound hk
  simp only [List.append_nil, Rows.uptoBulkAll] at hb
  have lt0 : ∀ x ∈ p0, x.block < W.heap.size := by obtain ⟨m, hm⟩ := k0; exact DataW.trod_lt m _ _ _ hm
  obtain ⟨sa, sl, sc, rfl⟩ := okWide_slice Try.underlying22 (hval 0 22 v0 rfl rfl)
  obtain ⟨m0, hm0⟩ := h0
  obtain ⟨ls, pz, cz, hvz, hrows, hlt, hlen⟩ := lines_came (M := 1048576) (show DataW.trod enc Try.prog W 0 (fun _ => true) true m0 22 [.slice sa sl sc] = some (d0, p0) from hm0) (by simp only; omega)
  rw [hvz] at hW' k0 hA0 ⊢
  clear hA0
  simp only [List.append_nil] at hW'
  refine (rulesCheck_law _ ls W (Lib.hid hrows) (by omega) (Lib.hid (small_mono hlt (by omega)))).mono fun e W' ⟨he, hke⟩ => ?_
  have bel := hke.below (Nat.le_refl _) (fun _ f => f.elim)
  subst he
  exact ⟨_, rfl, _, _, _, [], _, [], hW', trodAll_mk1 (shut_bool Try.underlying4 _), (trodAll_cons_mk (Below.trod laidOut (by kernel_rfl) (of_decide_eq_true (by kernel_rfl)) k0 bel lt0) trodAll_mk0), rfl, bel.frame _, fun h => by cases h⟩
set_option maxRecDepth 100000 in
theorem lifted (os : Os) (started : os.Started) (H : Type) (enc : TypeId × Value → H) (F : Stop.Interp) :
    ReturnsInHanded {} Try.checked os 3 .any ((Rows.OpenSpec.upto Rows.rulesCheckSpec).pre6 enc Try.prog Try.f3 Rows.rulesCheckUptoRow.domain false) (((Rows.OpenSpec.upto Rows.rulesCheckSpec).at F).post enc Try.prog Try.f3 false true false false) := by
  refine returnsInHanded_of_cond (C := Try.checked) (s := Rows.OpenSpec.upto Rows.rulesCheckSpec) (k := Rows.uptoSmall) rfl own started (by kernel_rfl) Try.func3
    (OpenSpec.witness (enc := enc) (C := Try.checked) (s := Rows.OpenSpec.upto Rows.rulesCheckSpec) (k := Rows.uptoSmall) rfl false ⟨#[], #[.slice none 0 0], []⟩ 8 (by kernel_rfl) (by kernel_rfl) (by kernel_rfl)
      (x := ([.nil], [], [])) (by kernel_rfl) rfl (by kernel_rfl)) ?_
  intro W base args ds gs before hval hW _ hk _
  exact contract H enc W base args ds gs before hval hW hk
theorem over : Rows.rulesCheckUptoRow.holds Try.pinned (Rows.OpenSpec.upto Rows.rulesCheckSpec) :=
  OpenClaim.holds_of_cond 3 Try.f3 rfl rfl rfl rfl rfl rfl rfl ⟨rfl, rfl, rfl, rfl, rfl⟩ rfl rfl rfl rfl rfl (by kernel_rfl) Try.func3 (by kernel_rfl)
    (of_decide_eq_true (by kernel_rfl)) (by unfold Func.isWrapper; first | (rw [if_pos (by decide +kernel)]; kernel_rfl) | (rw [if_neg (by decide +kernel)]; exact ⟨rfl, rfl⟩))
    (fun os started H enc _ F => lifted os started H enc F)
end rulesCheckProof
theorem rulesCheckUpto_holds : Rows.RulesCheckUptoSaid := rulesCheckProof.over
end Go.Proofs.Ythofplmjlfhloaa
