/- AdvAll, walked. -/
import Derived.Test.YtialookpnoaogaaGreatAA26
import Derived.Test.YtialookpnoaogaaGreatAA09
import Derived.Test.YtialookpnoaogaaGreatRows
import Derived.Test.YtialookpnoaogaaGreatAA03
import Derived.ProofKit
import Derived.OpenShut
import Derived.JoinedCond
import Derived.Deep.Grids
import Derived.Deep.Slices
import Derived.Test.YtialookpnoaogaaGreatAA17
import Derived.ShutString
import Derived.ChangeOld
set_option linter.unusedVariables false
set_option linter.unusedSimpArgs false
set_option linter.unusedVariables false
set_option linter.unusedSimpArgs false
namespace Go.Proofs.YtialookpnoaogaaGreat
open Go.RowKit

set_option maxRecDepth 100000 in
set_option maxHeartbeats 16000000 in
theorem advAll_law (v fv : Value) (ls : List LineD) (fs0 : List FaceE) (w : World) (hv : Hid (RowsAt 4 lineVals w v ls)) (hl : ls.length ≤ 1000000000000) (hlt : Hid (LinesLt ls 8796093022000))
    (hf : Hid (RowsAt 3 FaceE.vals w fv fs0)) (hfp : Hid (∀ f ∈ fs0, RowsAt 2 peerVals w (.slice f.p f.full.length f.c) f.full)) (hfm : Hid (∀ f ∈ fs0, f.full.length ≤ 100000000)) :
    Calls Tryz.prog 3 #[v, fv] w (NewRes (.bool true) w) := by
  obtain ⟨p, c, rfl⟩ := hv.out.slice
  obtain ⟨fp, fc, rfl⟩ := hf.out.slice
  have hr0 := build_right ls
  have hb := Lib.hid (build_any _ ls w hv hl hlt)
  generalize buildC ls = L at hr0 hb
  have hr := Lib.hid hr0
  have hlen := right_len hr0
  have hcap : fs0.length ≤ fc := by
    obtain ⟨p', c', e, -, hc, -⟩ := hf.out
    injection e with e1 e2 e3
    omega
  obtain ⟨m12, hm12⟩ : ∃ m, min fs0.length 12 = m := ⟨_, rfl⟩
  have hf2 : Hid (RowsAt 3 FaceE.vals w (.slice fp m12 fc) (fs0.take m12)) := Lib.hid (hf.out.take m12 (by omega))
  have hfp2 : Hid (∀ f ∈ fs0.take m12, RowsAt 2 peerVals w (.slice f.p f.full.length f.c) f.full) := Lib.hid (fun f h => hfp.out f (List.mem_of_mem_take h))
  have hfm2 : Hid (∀ f ∈ fs0.take m12, f.full.length ≤ 100000000) := Lib.hid (fun f h => hfm.out f (List.mem_of_mem_take h))
  have hfl : (fs0.take m12).length = m12 := by rw [List.length_take]; omega
  have m1 : min (fs0.length : Int) 12 = (m12 : Int) := by omega
  have m2 : (0 : Int) ≤ (m12 : Int) := by omega
  have m3 : (m12 : Int) ≤ (fc : Int) := by omega
  have hm12' : m12 ≤ 12 := by omega
  generalize fs0.take m12 = fs at hf2 hfp2 hfm2 hfl
  have hfl' := Lib.hid hfl
  obtain ⟨me, hme⟩ : ∃ m, meOf L = m := ⟨_, rfl⟩
  have hme' := Lib.hid hme
  clear hfp hfm hr0 hlt hf hcap hm12 hfl hme
  go_enter Tryz.func3, Tryz.ntmps3
  go_wp2_with fail
  refine hb.out.mono ?_
  rintro e w1 ⟨p1, c1, rfl, hX, k1⟩
  have hC1 := Lib.hid (hX.at lineVals_len)
  have hk1 := Lib.hid k1
  clear hX k1 hb hv
  go_wp2_with fail
  refine (to_any _ L _ hC1 (by omega)).mono ?_
  rintro e w2 ⟨p2, c2, rfl, hX, k2⟩
  have hT2 := Lib.hid (hX.at lineVals_len)
  have hC2 := Lib.hid (hC1.out.keep k2)
  have hk2 := Lib.hid (hk1.out.trans k2)
  have hto := Lib.hid (advTo_any (.slice fp m12 fc) fs w2 (Lib.hid (hf2.out.keep hk2.out)) (by have := hfl'.out; omega) (Lib.hid (fun f h => (hfp2.out f h).keep hk2.out)) hfm2)
  clear hX k2 hC1 hk1
  go_wp2_with fail
  refine hto.out.mono ?_
  rintro e w3 ⟨gs, q3, d3, rfl, hG, hGp, hGe, k3⟩
  obtain ⟨T, f, hTb, hTl, hA, hD⟩ := all_both L gs fs hr.out hGe (by have := hfl'.out; omega) hfm2.out
  have hT3 := hT2.out.keep k3
  have hA' := Lib.hid (hA (.slice p2 L.length c2) (.slice q3 gs.length d3) w3 hT3 hG hGp)
  have hD' := Lib.hid hD
  have hTb' := Lib.hid hTb
  have hTl' := Lib.hid hTl
  have hC3 := Lib.hid (hC2.out.keep k3)
  have hk3 := Lib.hid (hk2.out.trans k3)
  clear hto hG hGp hGe k3 hT2 hT3 hA hD hTb hTl hC2 hk2
  go_wp2_with fail
  refine hA'.out.mono ?_
  rintro e w4 ⟨za, pa, ca, rfl, hRa, hOa, hEa, k4⟩
  have hRa' := Lib.hid hRa
  have hOa' := Lib.hid hOa
  have hEa' := Lib.hid hEa
  have hC4 := Lib.hid (hC3.out.keep k4)
  have hk4 := Lib.hid (hk3.out.trans k4)
  have hDd := Lib.hid (hD'.out (.slice p1 L.length c1) (.slice fp m12 fc) w4 hC4.out (hf2.out.keep hk4.out) (fun f h => (hfp2.out f h).keep hk4.out))
  clear hRa hOa hEa k4 hC3 hk3 hA' hD'
  go_wp2_with fail
  refine hDd.out.mono ?_
  rintro e w5 ⟨zd, pd, cd, rfl, hRd, hOd, hEd, k5⟩
  have hRd' := Lib.hid hRd
  have hOd' := Lib.hid hOd
  have hEd' := Lib.hid hEd
  have hRa5 := Lib.hid (hRa'.out.keep k5)
  have hOa5 : Hid (∀ z ∈ za, OwnOf w5 z.1 z.2) := Lib.hid (fun z h => (hOa'.out z h).keepF k5 (fun _ _ _ f => f) (fun _ _ _ f => f))
  have hC5 := Lib.hid (hC4.out.keep k5)
  have hk5 := Lib.hid (hk4.out.trans k5)
  clear hRd hOd hEd k5 hC4 hk4 hDd hRa' hOa' hf2 hfp2
  go_wp2_with fail
  refine (tells_yes _).mono ?_
  rintro e w6 ⟨rfl, k6⟩
  have hRa6 := Lib.hid (hRa5.out.keep k6)
  have hza : za.length ≤ 1000 := by have := congrArg List.length hEa'.out; rw [List.length_map] at this; rw [this]; exact hTl'.out
  have hOa6 : Hid (∀ z ∈ za, OwnOf w6 z.1 z.2 ∧ z.2.links.length ≤ 1000 ∧ z.2.nums.length ≤ 1000) := Lib.hid (fun z h => ⟨(hOa5.out z h).keepF k6 (fun _ _ _ f => f) (fun _ _ _ f => f), hTb'.out z.2 (by rw [← hEa'.out]; exact List.mem_map.2 ⟨z, h, rfl⟩)⟩)
  have hRd6 := Lib.hid (hRd'.out.keep k6)
  have hOd6 : Hid (∀ z ∈ zd, OwnOf w6 z.1 z.2) := Lib.hid (fun z h => (hOd'.out z h).keepF k6 (fun _ _ _ f => f) (fun _ _ _ f => f))
  have hC6 := Lib.hid (hC5.out.keep k6)
  have hk6 := Lib.hid (hk5.out.trans k6)
  clear k6 hRa5 hOa5 hRd' hOd' hC5 hk5
  go_wp2_with fail
  refine (advFrom_any _ za w6 hRa6 hza hOa6).mono ?_
  rintro e w7 ⟨zo, po, co, rfl, hRo, hEo, hOo, k7⟩
  have hRo' := Lib.hid hRo
  have hOo' := Lib.hid hOo
  have hRd7 := Lib.hid (hRd6.out.keep k7)
  have hOd7 : Hid (∀ z ∈ zd, OwnOf w7 z.1 z.2) := Lib.hid (fun z h => (hOd6.out z h).keepF k7 (fun _ _ _ f => f) (fun _ _ _ f => f))
  have hEq : zo.map (·.2) = zd.map (·.2) := by rw [hEo, hEa'.out, hEd'.out]
  have hzo : zo.length ≤ 1000 := by have := congrArg List.length hEo; rw [List.length_map, List.length_map] at this; omega
  have hOo7 : Hid (∀ z ∈ zo, OwnOf w7 z.1 z.2 ∧ z.2.links.length ≤ 1000 ∧ z.2.nums.length ≤ 1000) := Lib.hid (fun z h => ⟨hOo z h, hTb'.out z.2 (by rw [← hEd'.out, ← hEq]; exact List.mem_map.2 ⟨z, h, rfl⟩)⟩)
  have hsm := Lib.hid (ref15Same_yes (.slice po zo.length co) (.slice pd zd.length cd) zo zd w7 hRo' hRd7 hzo hEq hOo7 hOd7)
  have hC7 := Lib.hid (hC6.out.keep k7)
  have hk7 := Lib.hid (hk6.out.trans k7)
  clear hRo hEo hOo k7 hRa6 hOa6 hRd6 hOd6 hC6 hk6 hEq
  go_wp2_with fail
  refine hsm.out.mono ?_
  rintro e w8 ⟨rfl, k8⟩
  have hC8 := Lib.hid (hC7.out.keep k8)
  have hk8 := Lib.hid (hk7.out.trans k8)
  clear k8 hsm hC7 hk7 hRo' hOo' hRd7 hOd7 hOo7
  go_wp2_with fail
  refine (to_any _ L _ hC8 (by omega)).mono ?_
  rintro e w9 ⟨p9, c9, rfl, hX, k9⟩
  have hT9 := Lib.hid (hX.at lineVals_len)
  have hC9 := Lib.hid (hC8.out.keep k9)
  have hk9 := Lib.hid (hk8.out.trans k9)
  clear hX k9 hC8 hk8
  go_wp2_with fail
  refine (advId_c _ L _ hT9 hr me hme').mono ?_
  rintro e w10 ⟨rfl, k10⟩
  have hC10 := Lib.hid (hC9.out.keep k10)
  have hk10 := Lib.hid (hk9.out.trans k10)
  clear k10 hC9 hk9
  go_wp2_with fail
  refine (ref15Id_c _ L _ hC10 hr me hme').mono ?_
  rintro e w11 ⟨rfl, k11⟩
  have hk11 := Lib.hid (hk10.out.trans k11)
  clear k11 hC10 hk10
  go_wp2_with fail
  go_ret
  exact ⟨by simp, hk11.out⟩
end Go.Proofs.YtialookpnoaogaaGreat
/- Lines of the document that came in, of a bulk that is bounded. -/
set_option linter.unusedVariables false
set_option linter.unusedSimpArgs false
namespace Go.Proofs.YtialookpnoaogaaGreat
open Go.ChangeShapes Go.WideShapes Go.ChangeAt Go.RowKit Go.Deep

theorem bulk_part {H : Type} {d : DataW H} {l : List (DataW H)} (h : d ∈ l) : Rows.uptoBulk d ≤ Rows.uptoBulkAll l := by
  induction l with
  | nil => cases h
  | cons x r ih =>
    simp only [Rows.uptoBulkAll]
    rcases List.mem_cons.1 h with e | e
    · subst e; omega
    · have := ih e; omega
theorem bulk_len {H : Type} (l : List (DataW H)) : l.length ≤ Rows.uptoBulkAll l := by
  induction l with
  | nil => simp [Rows.uptoBulkAll]
  | cons x r ih =>
    have h1 : 1 ≤ Rows.uptoBulk x := by
      cases x with
      | lit l => cases l <;> simp [Rows.uptoBulk]
      | _ => simp [Rows.uptoBulk]
    simp only [Rows.uptoBulkAll, List.length_cons]; omega
theorem listX4 {α : Type} {l : List α} (h : l.length = 4) : ∃ a b c d, l = [a, b, c, d] := by
  match l, h with
  | [a, b, c, d], _ => exact ⟨a, b, c, d, rfl⟩
theorem cxInt : Tryz.prog.cellsOf 3 = 1 := by kernel_rfl
theorem cxStr : Tryz.prog.cellsOf 9 = 1 := by kernel_rfl
theorem cxLine : Tryz.prog.cellsOf 55 = 4 := by kernel_rfl
theorem choose_l {α : Type} (n : Nat) (P : Nat → α → Prop) (h : ∀ i, i < n → ∃ a, P i a) : ∃ l : List α, l.length = n ∧ ∀ i a, l[i]? = some a → P i a := by
  induction n with
  | zero => exact ⟨[], rfl, fun i a e => by simp at e⟩
  | succ n ih =>
    obtain ⟨l, hl, hP⟩ := ih (fun i hi => h i (by omega))
    obtain ⟨a, ha⟩ := h n (by omega)
    refine ⟨l ++ [a], by simp [hl], fun i b e => ?_⟩
    by_cases hi : i < l.length
    · rw [List.getElem?_append_left hi] at e; exact hP i b e
    · rw [List.getElem?_append_right (by omega)] at e
      have : i = n := by have := (List.getElem?_eq_some_iff.1 e).1; simp at this; omega
      subst this
      rw [hl, Nat.sub_self] at e
      injection e with e; subst e; exact ha
section
variable {H : Type} {enc : TypeId × Value → H} {W : World}
set_option maxRecDepth 100000 in
theorem line_came {fuel : Nat} {cs : List Value} {x : DataW H × List MemPlace} {M : Nat} (hl : cs.length = 4) (h : DataW.trod enc Tryz.prog W 0 (fun _ => true) true fuel 55 cs = some x) (hM : Rows.uptoBulk x.1 ≤ M) :
    ∃ l : LineD, (l.name.length ≤ M ∧ l.leaf.length ≤ M ∧ l.value.length ≤ M) ∧ cs = lineVals l := by
  obtain ⟨c0, c1, c2, c3, rfl⟩ := listX4 hl
  obtain ⟨xs, n, -, hx, -, hlen, hf⟩ := DataW.trod_struct Tryz.underlying55 h
  obtain ⟨y0, y1, y2, y3, rfl⟩ := listX4 hlen
  have f0 : DataW.trod enc Tryz.prog W 0 (fun _ => true) true n 3 ((([c0, c1, c2, c3] : List Value).drop 0).take (Tryz.prog.cellsOf 3)) = some y0 := hf 0 _ rfl
  rw [cxInt] at f0
  have f1 : DataW.trod enc Tryz.prog W 0 (fun _ => true) true n 9 ((([c0, c1, c2, c3] : List Value).drop 1).take (Tryz.prog.cellsOf 9)) = some y1 := hf 1 _ rfl
  rw [cxStr] at f1
  have f2 : DataW.trod enc Tryz.prog W 0 (fun _ => true) true n 9 ((([c0, c1, c2, c3] : List Value).drop 2).take (Tryz.prog.cellsOf 9)) = some y2 := hf 2 _ rfl
  rw [cxStr] at f2
  have f3 : DataW.trod enc Tryz.prog W 0 (fun _ => true) true n 9 ((([c0, c1, c2, c3] : List Value).drop 3).take (Tryz.prog.cellsOf 9)) = some y3 := hf 3 _ rfl
  rw [cxStr] at f3
  obtain ⟨n0, e0, -, w0⟩ := DataW.trod_int Tryz.underlying3 f0
  obtain ⟨N, e1, r1, -⟩ := DataW.trod_string Tryz.underlying9 f1
  obtain ⟨F, e2, r2, -⟩ := DataW.trod_string Tryz.underlying9 f2
  obtain ⟨V, e3, r3, -⟩ := DataW.trod_string Tryz.underlying9 f3
  injection e0 with e0 _; injection e1 with e1 _; injection e2 with e2 _; injection e3 with e3 _
  subst e0; subst e1; subst e2; subst e3
  subst r1; subst r2; subst r3
  subst hx
  simp only [List.map_cons, List.map_nil, Rows.uptoBulk, Rows.uptoBulkAll] at hM
  exact ⟨⟨n0, N.data.toList, F.data.toList, V.data.toList⟩, ⟨by show N.data.toList.length ≤ M; omega, by show F.data.toList.length ≤ M; omega, by show V.data.toList.length ≤ M; omega⟩, rfl⟩
theorem lines_came {fuel : Nat} {x0 : Value} {x : DataW H × List MemPlace} {M : Nat} (h : DataW.trod enc Tryz.prog W 0 (fun _ => true) true fuel 22 [x0] = some x) (hM : Rows.uptoBulk x.1 ≤ M) :
    ∃ (ls : List LineD) (p : Option Addr) (c : Nat), x0 = .slice p ls.length c ∧ RowsAt 4 lineVals W (.slice p ls.length c) ls ∧ LinesLt ls M ∧ ls.length ≤ M := by
  rcases Go.Deep.open_slice Tryz.underlying22 h with ⟨hcs, -⟩ | ⟨a, len, cap, m, n, D, Pl, hcs, -, hlc, hm, hmm, hx, hall⟩
  · injection hcs with hcs _; subst hcs
    exact ⟨[], none, 0, rfl, RowsAt.nil _, (fun l hl => by cases hl), by simp⟩
  · injection hcs with hcs _; subst hcs
    simp only [if_true] at hmm
    subst hmm
    subst hx
    simp only [Rows.uptoBulk] at hM
    have hex : ∀ i, i < len → ∃ l : LineD, (l.name.length ≤ M ∧ l.leaf.length ≤ M ∧ l.value.length ≤ M) ∧ ∀ j, j < 4 → W.cell? ((a.add (i * 4)).add j) = (lineVals l)[j]? := fun i hi => by
      obtain ⟨cs', h1, h2⟩ := hall i (by omega)
      rw [cxLine] at h1
      obtain ⟨-, hl, hc⟩ := World.cells?_some h1
      obtain ⟨l, hok, rfl⟩ := line_came (M := M) hl h2 (Nat.le_trans (bulk_part (List.mem_map.2 ⟨i, List.mem_range.2 hi, rfl⟩)) (by omega))
      exact ⟨l, hok, hc⟩
    have hlenM : len ≤ M := by
      have h1 := bulk_len ((List.range len).map D)
      rw [List.length_map, List.length_range] at h1
      omega
    obtain ⟨ls, hlen2, hls⟩ := choose_l len _ hex
    refine ⟨ls, some a, m, by rw [hlen2], ⟨some a, m, rfl, (fun e => nomatch e), by rw [hlen2]; exact hlc, fun h0 => ?_⟩, fun l hl => ?_, by rw [hlen2]; exact hlenM⟩
    · obtain ⟨b, o, s⟩ := a
      have h00 := (hls 0 ls[0] (List.getElem?_eq_getElem h0)).2 0 (by omega)
      have hsn : s = none := by simpa [Addr.add] using World.cell?_spot (h00.trans (show (lineVals ls[0])[0]? = some (.int .i64 ls[0].head) from rfl))
      subst hsn
      refine ⟨b, o, rfl, fun i l hl j u hu => ?_⟩
      have hj : j < 4 := by have := (List.getElem?_eq_some_iff.1 hu).1; simpa [lineVals] using this
      have := (hls i l hl).2 j hj
      rw [hu, Addr.add_mid, Addr.add_mid] at this
      exact this
    · obtain ⟨i, hi, rfl⟩ := List.mem_iff_getElem.1 hl
      exact (hls i _ (List.getElem?_eq_getElem hi)).1
end
end Go.Proofs.YtialookpnoaogaaGreat
/- Faces of the document that came in, of a bulk that is bounded. -/
set_option linter.unusedVariables false
set_option linter.unusedSimpArgs false
namespace Go.Proofs.YtialookpnoaogaaGreat
open Go.ChangeShapes Go.WideShapes Go.ChangeAt Go.RowKit Go.Deep

theorem listX2 {α : Type} {l : List α} (h : l.length = 2) : ∃ a b, l = [a, b] := by
  match l, h with
  | [a, b], _ => exact ⟨a, b, rfl⟩
theorem listX3 {α : Type} {l : List α} (h : l.length = 3) : ∃ a b c, l = [a, b, c] := by
  match l, h with
  | [a, b, c], _ => exact ⟨a, b, c, rfl⟩
theorem cxU32 : Tryz.prog.cellsOf 40 = 1 := by kernel_rfl
theorem cxPeer : Tryz.prog.cellsOf 84 = 2 := by kernel_rfl
theorem cxPeers : Tryz.prog.cellsOf 80 = 1 := by kernel_rfl
theorem cxFace : Tryz.prog.cellsOf 82 = 3 := by kernel_rfl
theorem wfx_nat {n : Int} (h : (Lit.int .u32 n).wf = true) : ∃ m : Nat, n = (m : Int) := by
  simp [Lit.wf, IntKind.min, IntKind.max, IntKind.signed, IntKind.bits] at h
  exact ⟨n.toNat, by omega⟩
section
variable {H : Type} {enc : TypeId × Value → H} {W : World}
/-- a slice of structs that came in, of a bulk that is bounded -/
theorem rows_bulk {α : Type} {sz M : Nat} {cv : α → List Value} {t e : TypeId} (ht : Tryz.prog.underlying t = some (.slice e)) (hcz : Tryz.prog.cellsOf e = sz) (hsz : 0 < sz) (hlen : ∀ a, (cv a).length = sz) (good : α → Prop)
    (hget : ∀ (fuel : Nat) (cs : List Value) (x : DataW H × List MemPlace), cs.length = sz → DataW.trod enc Tryz.prog W 0 (fun _ => true) true fuel e cs = some x → Rows.uptoBulk x.1 ≤ M → ∃ a, good a ∧ cs = cv a)
    {fuel : Nat} {x0 : Value} {x : DataW H × List MemPlace} (h : DataW.trod enc Tryz.prog W 0 (fun _ => true) true fuel t [x0] = some x) (hM : Rows.uptoBulk x.1 ≤ M) :
    ∃ (ls : List α) (p : Option Addr) (c : Nat), x0 = .slice p ls.length c ∧ RowsAt sz cv W (.slice p ls.length c) ls ∧ (∀ l ∈ ls, good l) ∧ ls.length ≤ M := by
  rcases Go.Deep.open_slice ht h with ⟨hcs, -⟩ | ⟨a, len, cap, m, n, D, Pl, hcs, -, hlc, hm, hmm, hx, hall⟩
  · injection hcs with hcs _; subst hcs
    exact ⟨[], none, 0, rfl, RowsAt.nil _, by simp, by simp⟩
  · injection hcs with hcs _; subst hcs
    simp only [if_true] at hmm
    subst hmm
    subst hx
    simp only [Rows.uptoBulk] at hM
    have hex : ∀ i, i < len → ∃ l : α, good l ∧ ∀ j, j < sz → W.cell? ((a.add (i * sz)).add j) = (cv l)[j]? := fun i hi => by
      obtain ⟨cs', h1, h2⟩ := hall i (by omega)
      rw [hcz] at h1
      obtain ⟨-, hl, hc⟩ := World.cells?_some h1
      obtain ⟨l, hok, rfl⟩ := hget _ _ _ hl h2 (Nat.le_trans (bulk_part (List.mem_map.2 ⟨i, List.mem_range.2 hi, rfl⟩)) (by omega))
      exact ⟨l, hok, hc⟩
    have hlenM : len ≤ M := by
      have h1 := bulk_len ((List.range len).map D)
      rw [List.length_map, List.length_range] at h1
      omega
    obtain ⟨ls, hlen2, hls⟩ := choose_l len _ hex
    refine ⟨ls, some a, m, by rw [hlen2], ⟨some a, m, rfl, (fun e => nomatch e), by rw [hlen2]; exact hlc, fun h0 => ?_⟩, fun l hl => ?_, by rw [hlen2]; exact hlenM⟩
    · obtain ⟨b, o, s⟩ := a
      have h00 := (hls 0 ls[0] (List.getElem?_eq_getElem h0)).2 0 hsz
      have hcv0 : 0 < (cv ls[0]).length := by rw [hlen]; exact hsz
      have hsn : s = none := by simpa [Addr.add] using World.cell?_spot (h00.trans (List.getElem?_eq_getElem hcv0))
      subst hsn
      refine ⟨b, o, rfl, fun i l hl j u hu => ?_⟩
      have hj : j < sz := by have := (List.getElem?_eq_some_iff.1 hu).1; rw [hlen] at this; exact this
      have := (hls i l hl).2 j hj
      rw [hu, Addr.add_mid, Addr.add_mid] at this
      exact this
    · obtain ⟨i, hi, rfl⟩ := List.mem_iff_getElem.1 hl
      exact (hls i _ (List.getElem?_eq_getElem hi)).1
theorem peer_came {fuel : Nat} {cs : List Value} {x : DataW H × List MemPlace} (hl : cs.length = 2) (h : DataW.trod enc Tryz.prog W 0 (fun _ => true) true fuel 84 cs = some x) : ∃ k : PeerD, True ∧ cs = peerVals k := by
  obtain ⟨c0, c1, rfl⟩ := listX2 hl
  obtain ⟨xs, n, -, -, -, hlen, hf⟩ := DataW.trod_struct Tryz.underlying84 h
  obtain ⟨y0, y1, rfl⟩ := listX2 hlen
  have f0 : DataW.trod enc Tryz.prog W 0 (fun _ => true) true n 40 ((([c0, c1] : List Value).drop 0).take (Tryz.prog.cellsOf 40)) = some y0 := hf 0 _ rfl
  rw [cxU32] at f0
  have f1 : DataW.trod enc Tryz.prog W 0 (fun _ => true) true n 40 ((([c0, c1] : List Value).drop 1).take (Tryz.prog.cellsOf 40)) = some y1 := hf 1 _ rfl
  rw [cxU32] at f1
  obtain ⟨n0, e0, -, w0⟩ := DataW.trod_int Tryz.underlying40 f0
  obtain ⟨n1, e1, -, w1⟩ := DataW.trod_int Tryz.underlying40 f1
  injection e0 with e0 _; injection e1 with e1 _
  subst e0; subst e1
  obtain ⟨m0, rfl⟩ := wfx_nat w0
  obtain ⟨m1, rfl⟩ := wfx_nat w1
  exact ⟨⟨m0, m1⟩, trivial, rfl⟩
def FaceC (W : World) (M : Nat) (f : FaceE) : Prop := RowsAt 2 peerVals W (.slice f.p f.full.length f.c) f.full ∧ f.full.length ≤ M ∧ f.nm.length ≤ M
theorem face_came {fuel : Nat} {cs : List Value} {x : DataW H × List MemPlace} {M : Nat} (hl : cs.length = 3) (h : DataW.trod enc Tryz.prog W 0 (fun _ => true) true fuel 82 cs = some x) (hM : Rows.uptoBulk x.1 ≤ M) : ∃ k : FaceE, FaceC W M k ∧ cs = k.vals := by
  obtain ⟨c0, c1, c2, rfl⟩ := listX3 hl
  obtain ⟨xs, n, -, hx, -, hlen, hf⟩ := DataW.trod_struct Tryz.underlying82 h
  obtain ⟨y0, y1, y2, rfl⟩ := listX3 hlen
  subst hx
  have f0 : DataW.trod enc Tryz.prog W 0 (fun _ => true) true n 9 ((([c0, c1, c2] : List Value).drop 0).take (Tryz.prog.cellsOf 9)) = some y0 := hf 0 _ rfl
  rw [cxStr] at f0
  have f1 : DataW.trod enc Tryz.prog W 0 (fun _ => true) true n 40 ((([c0, c1, c2] : List Value).drop 1).take (Tryz.prog.cellsOf 40)) = some y1 := hf 1 _ rfl
  rw [cxU32] at f1
  have f2 : DataW.trod enc Tryz.prog W 0 (fun _ => true) true n 80 ((([c0, c1, c2] : List Value).drop 2).take (Tryz.prog.cellsOf 80)) = some y2 := hf 2 _ rfl
  rw [cxPeers] at f2
  obtain ⟨N, e0, r0, -⟩ := DataW.trod_string Tryz.underlying9 f0
  obtain ⟨n1, e1, r1, w1⟩ := DataW.trod_int Tryz.underlying40 f1
  simp only [List.map_cons, List.map_nil, Rows.uptoBulk, Rows.uptoBulkAll] at hM
  have f2' : DataW.trod enc Tryz.prog W 0 (fun _ => true) true n 80 [c2] = some y2 := f2
  obtain ⟨ps, p, c, e2, hr, -, hpl⟩ := rows_bulk (M := M) Tryz.underlying80 cxPeer (by decide) (fun _ => rfl) (fun _ : PeerD => True) (fun _ _ _ h1 h2 _ => peer_came h1 h2) f2' (by omega)
  injection e0 with e0 _; injection e1 with e1 _
  subst e0; subst e1; subst e2
  obtain ⟨m1, rfl⟩ := wfx_nat w1
  subst r0
  simp only [Rows.uptoBulk] at hM
  exact ⟨⟨N.data.toList, m1, p, c, ps⟩, ⟨hr, hpl, by show N.data.toList.length ≤ M; omega⟩, rfl⟩
theorem faces_came {fuel : Nat} {x0 : Value} {x : DataW H × List MemPlace} {M : Nat} (h : DataW.trod enc Tryz.prog W 0 (fun _ => true) true fuel 23 [x0] = some x) (hM : Rows.uptoBulk x.1 ≤ M) :
    ∃ (fs : List FaceE) (p : Option Addr) (c : Nat), x0 = .slice p fs.length c ∧ RowsAt 3 FaceE.vals W (.slice p fs.length c) fs ∧ (∀ f ∈ fs, FaceC W M f) ∧ fs.length ≤ M :=
  rows_bulk Tryz.underlying23 cxFace (by decide) (fun _ => rfl) (FaceC W M) (fun _ _ _ h1 h2 h3 => face_came h1 h2 h3) h hM
end
end Go.Proofs.YtialookpnoaogaaGreat
/- AdvAll, proved in its second form: of all configurations and faces what the router tells is told, or why nothing is, for every input whose bulk is at most 1048576. -/
set_option linter.unusedVariables false
namespace Go.Proofs.YtialookpnoaogaaGreat
open Go.ChangeShapes Go.WideShapes Go.ChangeAt Go.RowKit Go.WideMaps Go.Deep
open Go.ChangeMaps (open_string)
namespace advAllProof
theorem own : ownKnob Tryz.prog.godebug = none := by kernel_rfl
theorem laidOut : laidOutB Tryz.prog = true := by kernel_rfl
theorem bound {H : Type} {l : List (DataW H)} (hk : Rows.uptoSmall H l = true) : Rows.uptoBulkAll l ≤ 1048576 := by
  simpa [Rows.uptoSmall] using hk
set_option maxRecDepth 100000 in
theorem contract (H : Type) (enc : TypeId × Value → H) (W : World) (base : Nat) (args : Array Value) (ds gs : List (DataW H)) (before : List MemPlace)
    (hval : ∀ (j : Nat) t v, Tryz.f3.params[j]? = some t → args[j]? = some v → Value.okWide Tryz.prog W .any base t v)
    (hW : DataW.Whole enc Tryz.prog Tryz.f3.params.toList Rows.advAllSpec.vars false W args.toList ds gs before) (hk : Rows.uptoSmall H (ds ++ gs) = true) :
    Calls Tryz.prog 3 args W fun e W' => ∃ v, e = .returned v ∧ Rows.advAllSpec.post enc Tryz.prog Tryz.f3 false true false false W args v W' := by
  have hW' := hW
  obtain ⟨p, q, hA0, hV, rfl, hfz, hnd⟩ := hW
  have hA : DataW.TrodAll enc Tryz.prog W 0 (fun _ => true) true Tryz.f3.params.toList args.toList ds p := hA0
  rw [Tryz.params3] at hA hval
  obtain ⟨v0, vs0, d0, ds0, p0, q0, hargs, rfl, rfl, h0, r0⟩ := trodAll_cons hA
  obtain ⟨v1, vs1, d1, ds1, p1, q1, rfl, rfl, rfl, h1, r1⟩ := trodAll_cons r0
  obtain ⟨rfl, rfl, rfl⟩ := trodAll_nil r1
  obtain rfl : args = #[v0, v1] := by cases args; simp_all
  obtain ⟨rfl, rfl⟩ := trodVars_none hV
  have k0 := h0
  have k1 := h1
  have hb := bound hk
  simp only [List.append_nil, Rows.uptoBulkAll] at hb
  have lt0 : ∀ x ∈ p0, x.block < W.heap.size := by obtain ⟨m, hm⟩ := k0; exact DataW.trod_lt m _ _ _ hm
  have lt1 : ∀ x ∈ p1, x.block < W.heap.size := by obtain ⟨m, hm⟩ := k1; exact DataW.trod_lt m _ _ _ hm
  obtain ⟨sa, sl, sc, rfl⟩ := okWide_slice Tryz.underlying22 (hval 0 22 v0 rfl rfl)
  obtain ⟨ta, tl, tc, rfl⟩ := okWide_slice Tryz.underlying23 (hval 1 23 v1 rfl rfl)
  obtain ⟨m0, hm0⟩ := h0
  obtain ⟨m1, hm1⟩ := h1
  obtain ⟨ls, pz, cz, hvz, hrows, hlt, hlen⟩ := lines_came (M := 1048576) (show DataW.trod enc Tryz.prog W 0 (fun _ => true) true m0 22 [.slice sa sl sc] = some (d0, p0) from hm0) (by simp only; omega)
  obtain ⟨fs, py, cy, hvy, hfr, hfc, hfl⟩ := faces_came (M := 1048576) (show DataW.trod enc Tryz.prog W 0 (fun _ => true) true m1 23 [.slice ta tl tc] = some (d1, p1) from hm1) (by simp only; omega)
  rw [hvz] at hW' k0 hA0 ⊢
  rw [hvy] at hW' k1 hA0 ⊢
  clear hA0
  simp only [List.append_nil] at hW'
  refine (show Calls Tryz.prog 3 #[.slice pz ls.length cz, .slice py fs.length cy] W (NewRes (.bool true) W) from advAll_law (.slice pz ls.length cz) (.slice py fs.length cy) ls fs W (Lib.hid hrows) (by omega) (Lib.hid (fun l hl => by have h := hlt l hl; omega)) (Lib.hid hfr) (Lib.hid (fun f hf => (hfc f hf).1)) (Lib.hid (fun f hf => by have := (hfc f hf).2.1; omega))).mono fun e W' ⟨he, hke⟩ => ?_
  have bel := hke.below (Nat.le_refl _) (fun _ f => f.elim)
  subst he
  exact ⟨_, rfl, _, _, _, [], _, [], hW', trodAll_mk1 (shut_bool Tryz.underlying4 _), (trodAll_cons_mk (Below.trod laidOut (by kernel_rfl) (of_decide_eq_true (by kernel_rfl)) k0 bel lt0) (trodAll_cons_mk (Below.trod laidOut (by kernel_rfl) (of_decide_eq_true (by kernel_rfl)) k1 bel lt1) trodAll_mk0)), rfl, bel.frame _, fun h => by cases h⟩
set_option maxRecDepth 100000 in
theorem lifted (os : Os) (started : os.Started) (H : Type) (enc : TypeId × Value → H) (F : Stop.Interp) :
    ReturnsInHanded {} Tryz.checked os 3 .any ((Rows.OpenSpec.upto Rows.advAllSpec).pre6 enc Tryz.prog Tryz.f3 Rows.advAllUptoRow.domain false) (((Rows.OpenSpec.upto Rows.advAllSpec).at F).post enc Tryz.prog Tryz.f3 false true false false) := by
  refine returnsInHanded_of_cond (C := Tryz.checked) (s := Rows.OpenSpec.upto Rows.advAllSpec) (k := Rows.uptoSmall) rfl own started (by kernel_rfl) Tryz.func3
    (OpenSpec.witness (enc := enc) (C := Tryz.checked) (s := Rows.OpenSpec.upto Rows.advAllSpec) (k := Rows.uptoSmall) rfl false ⟨#[], #[.slice none 0 0, .slice none 0 0], []⟩ 8 (by kernel_rfl) (by kernel_rfl) (by kernel_rfl)
      (x := ([.nil, .nil], [], [])) (by kernel_rfl) rfl (by kernel_rfl)) ?_
  intro W base args ds gs before hval hW _ hk _
  exact contract H enc W base args ds gs before hval hW hk
theorem over : Rows.advAllUptoRow.holds Tryz.pinned (Rows.OpenSpec.upto Rows.advAllSpec) :=
  OpenClaim.holds_of_cond 3 Tryz.f3 rfl rfl rfl rfl rfl rfl rfl ⟨rfl, rfl, rfl, rfl, rfl⟩ rfl rfl rfl rfl rfl (by kernel_rfl) Tryz.func3 (by kernel_rfl)
    (of_decide_eq_true (by kernel_rfl)) (by unfold Func.isWrapper; first | (rw [if_pos (by decide +kernel)]; kernel_rfl) | (rw [if_neg (by decide +kernel)]; exact ⟨rfl, rfl⟩))
    (fun os started H enc _ F => lifted os started H enc F)
end advAllProof
theorem advAllUpto_holds : Rows.AdvAllUptoSaid := advAllProof.over
end Go.Proofs.YtialookpnoaogaaGreat
