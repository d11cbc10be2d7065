/- rules.parted, overlaps, badDeads, backbones, walked (gen_rux.py). -/
import Derived.Test.YtialookpnoaogaaGreatZZ22
set_option linter.unusedVariables false
set_option linter.unusedSimpArgs false
set_option linter.unusedVariables false
set_option linter.unusedSimpArgs false
namespace Go.Proofs.YtialookpnoaogaaGreat
open Go.RowKit

def partL : List (List UInt8) → List UInt8 → Bool → Bool
  | [], _, sv => sv
  | a :: r, f, sv => if a = [] then partL r f sv else if a = boneW then false else partL r a (sv || (decide (f ≠ []) && decide (a ≠ f)))
def partedC (areas : List (List UInt8)) : Bool := partL areas [] false

set_option maxRecDepth 100000 in
set_option maxHeartbeats 8000000 in
theorem ruParted_any (av : Value) (areas : List (List UInt8)) (z : Bool) (w : World) (ha : Hid (StrsAt w av areas)) (hl : areas.length ≤ 64) (hz : Hid (partedC areas = z)) :
    Calls Tryz.prog 112 #[av] w (NewRes (.bool z) w) := by
  obtain ⟨p, c, rfl⟩ := strs_slice ha.out
  go_enter Tryz.func112, Tryz.ntmps112
  go_wp2_with fail
  go_loopw [9, 3, 4] (fun iv fv sv wr => ∃ (k : Nat) (Fs : ByteArray) (b : Bool), k ≤ areas.length ∧ iv = .int .i64 k ∧ fv = .string Fs ∧ sv = .bool b ∧ Hid (partL (areas.drop k) Fs.data.toList b = z) ∧ Hid (Keeps (fun _ => False) w wr)) (fun iv _ _ _ => areas.length - (intOf iv).toNat)
  case atStart => exact ⟨0, ⟨#[]⟩, false, by omega, rfl, rfl, rfl, hz, Lib.hid (Keeps.refl _ _)⟩
  case round =>
    obtain ⟨k, Fs, b, hk, rfl, rfl, rfl, hp, hK⟩ := hrel
    by_cases hlk : k < areas.length
    · obtain ⟨x, hx⟩ : ∃ x, areas[k]? = some x := ⟨_, List.getElem?_eq_getElem hlk⟩
      obtain ⟨g, o, rfl, hc⟩ := strs_get ha.out hx
      obtain ⟨X, hX⟩ : ∃ X : ByteArray, X = ⟨x.toArray⟩ := ⟨_, rfl⟩
      have c0 : wr.cell? ⟨g, o + k, none⟩ = some (.string X) := by rw [hX]; exact (hK.out.cell (p := ⟨g, o + k, none⟩) (World.block_lt_of_cell? w _ hc) id).trans hc
      have m1 : (k : Int) < (areas.length : Int) := by omega
      have m2 : (0 : Int) ≤ (k : Int) := by omega
      have hXd : Hid (X.data.toList = x) := Lib.hid (by rw [hX])
      have hstep : Hid ((if x = [] then partL (areas.drop (k + 1)) Fs.data.toList b else if x = boneW then false else partL (areas.drop (k + 1)) x (b || (decide (Fs.data.toList ≠ []) && decide (x ≠ Fs.data.toList)))) = z) := Lib.hid (by
        have h1 := hp.out
        rw [List.drop_eq_getElem_cons hlk] at h1
        have h2 : areas[k] = x := by
          have := List.getElem?_eq_getElem hlk
          rw [this] at hx; injection hx
        rw [h2] at h1
        exact h1)
      clear hc hX hx hp
      by_cases hx0 : x = []
      · obtain ⟨e1, e2, e3⟩ := nil_yes (hXd.out.trans hx0)
        rw [if_pos hx0] at hstep
        clear hx0
        go_wp2_with fail
        exact ⟨⟨k + 1, Fs, b, by omega, by go_num, rfl, rfl, hstep, hK⟩, by simp [intOf]; omega⟩
      · obtain ⟨e1, e2, e3⟩ := nil_no (a := X) (by rw [hXd.out]; exact hx0)
        rw [if_neg hx0] at hstep
        have hb := ba_eqr X [48, 46, 48, 46, 48, 46, 48]
        by_cases hbn : x = boneW
        · have e4 : (X.toList == [48, 46, 48, 46, 48, 46, 48]) = true := by rw [hb, hXd.out]; simp [hbn, boneW]
          rw [if_pos hbn] at hstep
          clear hb hx0 hbn
          go_wp2_with fail
          go_ret
          exact ⟨by rw [← hstep.out]; rfl, hK.out⟩
        · have e4 : (X.toList == [48, 46, 48, 46, 48, 46, 48]) = false := by rw [hb, hXd.out]; exact decide_eq_false hbn
          rw [if_neg hbn] at hstep
          clear hb hx0 hbn
          cases b with
          | true =>
            rw [Bool.true_or, ← hXd.out] at hstep
            go_wp2_with fail
            exact ⟨⟨k + 1, X, true, by omega, by go_num, rfl, rfl, hstep, hK⟩, by simp [intOf]; omega⟩
          | false =>
            rw [Bool.false_or] at hstep
            by_cases hf0 : Fs.data.toList = []
            · obtain ⟨f1, f2, f3⟩ := nil_yes hf0
              have hd : (decide (Fs.data.toList ≠ []) && decide (x ≠ Fs.data.toList)) = false := by simp [hf0]
              rw [hd, ← hXd.out] at hstep
              clear hd hf0
              go_wp2_with fail
              exact ⟨⟨k + 1, X, false, by omega, by go_num, rfl, rfl, hstep, hK⟩, by simp [intOf]; omega⟩
            · obtain ⟨f1, f2, f3⟩ := nil_no hf0
              by_cases hxf : X.data.toList = Fs.data.toList
              · have g1 : (X.toList == Fs.toList) = true := by rw [Lib.toList_data, Lib.toList_data]; simpa using hxf
                have hd : (decide (Fs.data.toList ≠ []) && decide (x ≠ Fs.data.toList)) = false := by rw [← hXd.out]; simp [hxf]
                rw [hd, ← hXd.out] at hstep
                clear hd hf0 hxf
                go_wp2_with fail
                exact ⟨⟨k + 1, X, false, by omega, by go_num, rfl, rfl, hstep, hK⟩, by simp [intOf]; omega⟩
              · have g1 : (X.toList == Fs.toList) = false := by rw [Lib.toList_data, Lib.toList_data]; simpa using hxf
                have hd : (decide (Fs.data.toList ≠ []) && decide (x ≠ Fs.data.toList)) = true := by rw [← hXd.out]; simp [hxf, hf0]
                rw [hd, ← hXd.out] at hstep
                clear hd hf0 hxf
                go_wp2_with fail
                exact ⟨⟨k + 1, X, true, by omega, by go_num, rfl, rfl, hstep, hK⟩, by simp [intOf]; omega⟩
    · obtain rfl : k = areas.length := by omega
      have hzz : Hid (b = z) := Lib.hid (by have h1 := hp.out; rw [List.drop_of_length_le (Nat.le_refl _)] at h1; exact h1)
      clear hp
      go_wp2_with fail
      go_ret
      exact ⟨by rw [hzz.out]; rfl, hK.out⟩

/-! the row's number of a leaf's text -/
def decV (s : List UInt8) : Int := match decL s with | some n => (n : Int) | none => 0
def badC (names deads hellos : List (List UInt8)) : List FaultD := (names.zip (deads.zip hellos)).flatMap (fun p => if decV p.2.1 ≤ decV p.2.2 then [⟨5, p.1⟩] else [])
theorem zip_take' {α β : Type} (xs : List α) (ys : List β) (k : Nat) : (xs.zip ys).take k = (xs.take k).zip (ys.take k) := (zip_take xs ys k).symm
theorem bad_step {names deads hellos : List (List UInt8)} {k : Nat} {x y u : List UInt8} (hx : names[k]? = some x) (hy : deads[k]? = some y) (hu : hellos[k]? = some u) :
    badC (names.take (k + 1)) (deads.take (k + 1)) (hellos.take (k + 1)) = badC (names.take k) (deads.take k) (hellos.take k) ++ (if decV y ≤ decV u then [⟨5, x⟩] else []) := by
  unfold badC
  have hz : (names.zip (deads.zip hellos))[k]? = some (x, (y, u)) := by
    rw [List.getElem?_zip_eq_some]; refine ⟨hx, ?_⟩
    rw [List.getElem?_zip_eq_some]; exact ⟨hy, hu⟩
  rw [zip_take, zip_take, zip_take, zip_take, List.take_add_one, hz]
  simp
theorem dec_k (s : ByteArray) (n : Int) (w : World) (hn : Hid (decV s.data.toList = n)) :
    Calls Tryz.prog 55 #[.string s] w (fun e w' => (∃ b : Bool, e = .returned (.tuple #[.int .i64 n, .bool b])) ∧ w = w') := by
  have h1 := hn.out
  unfold decV at h1
  cases hd : decL s.data.toList with
  | none =>
    rw [hd] at h1
    simp only at h1
    refine (dec_r s none w (Lib.hid hd)).mono ?_
    rintro e w' ⟨rfl, rfl⟩
    exact ⟨⟨false, by rw [← h1]; rfl⟩, rfl⟩
  | some m =>
    rw [hd] at h1
    simp only at h1
    refine (dec_r s (some m) w (Lib.hid hd)).mono ?_
    rintro e w' ⟨rfl, rfl⟩
    exact ⟨⟨true, by rw [← h1]; rfl⟩, rfl⟩
end Go.Proofs.YtialookpnoaogaaGreat
/- rules.badDeads, overlaps, backbones, walked (gen_ruy.py). -/
set_option linter.unusedVariables false
set_option linter.unusedSimpArgs false
namespace Go.Proofs.YtialookpnoaogaaGreat
open Go.RowKit

def deadW : List UInt8 := [100, 101, 97, 100]
def helloW : List UInt8 := [104, 101, 108, 108, 111]
def overStep (names nets : List (List UInt8)) (i : Nat) : List FaultD := if (nets.take i).any (fun x => meetL x (nets.getD i [])) = true then [⟨4, names.getD i []⟩] else []
def overlapsC (names nets : List (List UInt8)) : List FaultD := (List.range names.length).flatMap (overStep names nets)
theorem valuesC_len (ls : List LineD) (names : List (List UInt8)) (leaf : List UInt8) : (valuesC ls names leaf).length = names.length := by unfold valuesC; simp

set_option maxRecDepth 100000 in
set_option maxHeartbeats 8000000 in
theorem ruBad_any (v nv : Value) (ls : List LineD) (names : List (List UInt8)) (w : World) (hv : Hid (RowsAt 4 lineVals w v ls)) (hr : Hid (rightC ls = true)) (hn : Hid (StrsAt w nv names)) (hl : names.length ≤ 64) :
    Calls Tryz.prog 82 #[v, nv] w (FRes (badC names (valuesC ls names deadW) (valuesC ls names helloW)) w) := by
  obtain ⟨i0, hi0, hi1, hi2, hi3⟩ := faultAll
  obtain ⟨p, c, rfl⟩ := strs_slice hn.out
  go_enter Tryz.func82, Tryz.ntmps82
  go_wp2_with fail
  refine (ruValues_any _ _ ls names ⟨#[100, 101, 97, 100]⟩ _ hv hr hn hl).mono ?_
  rintro e w2 ⟨pd, cd, rfl, hO2, k2⟩
  have hD2 := Lib.hid (rows_strs (hO2.at nv1_len))
  have hv2 := Lib.hid (hv.out.keep k2)
  have hn2 := Lib.hid (hn.out.keep k2 (fun _ _ _ f => f))
  have hk2 := Lib.hid k2
  clear k2 hO2 hv hn
  go_wp2_with fail
  refine (ruValues_any _ _ ls names ⟨#[104, 101, 108, 108, 111]⟩ _ hv2 hr hn2 hl).mono ?_
  rintro e w3 ⟨pe, ce, rfl, hO3, k3⟩
  have hE3 := Lib.hid (rows_strs (hO3.at nv1_len))
  have hD3 := Lib.hid (hD2.out.keep k3 (fun _ _ _ f => f))
  have hn3 := Lib.hid (hn2.out.keep k3 (fun _ _ _ f => f))
  have hk3 := Lib.hid (hk2.out.trans k3)
  clear k3 hO3 hv2 hn2 hD2 hk2
  obtain ⟨ds, hds⟩ : ∃ ds, valuesC ls names deadW = ds := ⟨_, rfl⟩
  obtain ⟨es, hes⟩ : ∃ ds, valuesC ls names helloW = ds := ⟨_, rfl⟩
  have hdl : Hid (ds.length = names.length) := Lib.hid (by rw [← hds]; exact valuesC_len _ _ _)
  have hel : Hid (es.length = names.length) := Lib.hid (by rw [← hes]; exact valuesC_len _ _ _)
  have hEq : Hid (badC names (valuesC ls names deadW) (valuesC ls names helloW) = badC names ds es) := Lib.hid (by rw [hds, hes])
  rw [show valuesC ls names (⟨#[100, 101, 97, 100]⟩ : ByteArray).data.toList = ds from hds] at hD3 ⊢
  rw [show valuesC ls names (⟨#[104, 101, 108, 108, 111]⟩ : ByteArray).data.toList = es from hes] at hE3 ⊢
  clear hds hes
  go_wp2_with fail
  go_loopw [22, 7] (fun iv ov wr => ∃ (k : Nat) (fs : List FaultD) (q : Option Addr) (d : Nat), k ≤ names.length ∧ iv = .int .i64 k ∧ ov = .slice q fs.length d ∧ fs.length ≤ k ∧ Hid (fs = badC (names.take k) (ds.take k) (es.take k)) ∧ Hid (OwnR 185 2 fVals w3 wr ov fs) ∧ Hid (Keeps (fun _ => False) w3 wr)) (fun iv _ _ => names.length - (intOf iv).toNat)
  case atStart => exact ⟨0, [], none, 0, by omega, rfl, rfl, by simp, Lib.hid rfl, Lib.hid (OwnR.nil _ _ (Nat.le_refl _)), Lib.hid (Keeps.refl _ _)⟩
  case round =>
    obtain ⟨k, fs, q, d, hk, rfl, rfl, hfl, hfs, hO, hK⟩ := hrel
    by_cases hlk : k < names.length
    · have hkd : k < ds.length := by rw [hdl.out]; exact hlk
      have hke : k < es.length := by rw [hel.out]; exact hlk
      obtain ⟨x, hx⟩ : ∃ x, names[k]? = some x := ⟨_, List.getElem?_eq_getElem hlk⟩
      obtain ⟨y, hy⟩ : ∃ x, ds[k]? = some x := ⟨_, List.getElem?_eq_getElem hkd⟩
      obtain ⟨u, hu⟩ : ∃ x, es[k]? = some x := ⟨_, List.getElem?_eq_getElem hke⟩
      obtain ⟨g, o, rfl, hc⟩ := strs_get hn3.out hx
      obtain ⟨g2, o2, rfl, hc2⟩ := strs_get hD3.out hy
      obtain ⟨g3, o3, rfl, hc3⟩ := strs_get hE3.out hu
      obtain ⟨X, hX⟩ : ∃ X : ByteArray, X = ⟨x.toArray⟩ := ⟨_, rfl⟩
      obtain ⟨Y, hY⟩ : ∃ X : ByteArray, X = ⟨y.toArray⟩ := ⟨_, rfl⟩
      obtain ⟨Z, hZ⟩ : ∃ X : ByteArray, X = ⟨u.toArray⟩ := ⟨_, rfl⟩
      have c0 : wr.cell? ⟨g, o + k, none⟩ = some (.string X) := by rw [hX]; exact (hK.out.cell (p := ⟨g, o + k, none⟩) (World.block_lt_of_cell? w3 _ hc) id).trans hc
      have c1 : wr.cell? ⟨g2, o2 + k, none⟩ = some (.string Y) := by rw [hY]; exact (hK.out.cell (p := ⟨g2, o2 + k, none⟩) (World.block_lt_of_cell? w3 _ hc2) id).trans hc2
      have c2 : wr.cell? ⟨g3, o3 + k, none⟩ = some (.string Z) := by rw [hZ]; exact (hK.out.cell (p := ⟨g3, o3 + k, none⟩) (World.block_lt_of_cell? w3 _ hc3) id).trans hc3
      have hstep := Lib.hid (bad_step hx hy hu)
      rw [← hfs.out] at hstep
      have m1 : (k : Int) < (names.length : Int) := by omega
      have m2 : (0 : Int) ≤ (k : Int) := by omega
      have m3 : (k : Int) < (ds.length : Int) := by omega
      have m4 : (k : Int) < (es.length : Int) := by omega
      obtain ⟨a, ha⟩ : ∃ a, decV y = a := ⟨_, rfl⟩
      obtain ⟨b, hb⟩ : ∃ a, decV u = a := ⟨_, rfl⟩
      have ha' : Hid (decV Y.data.toList = a) := Lib.hid (by rw [hY]; exact ha)
      have hb' : Hid (decV Z.data.toList = b) := Lib.hid (by rw [hZ]; exact hb)
      have hXd : Hid (X.data.toList = x) := Lib.hid (by rw [hX])
      rw [ha, hb] at hstep
      clear hc hc2 hc3 hX hY hZ hx hy hu ha hb
      go_wp2_with fail
      refine (dec_k Y a _ ha').mono ?_
      rintro e wy ⟨⟨b1, rfl⟩, rfl⟩
      go_wp2_with fail
      refine (dec_k Z b _ hb').mono ?_
      rintro e wy ⟨⟨b2, rfl⟩, rfl⟩
      by_cases hab : a ≤ b
      · rw [if_pos hab, ← hXd.out] at hstep
        go_wp2_with ((with_reducible refine at_slot 50 ?_); go_must (refine wpList_append_r rfl (.tmp 46) (.tmp 49) 112 185 rfl i0 _ 24 Tryz.underlying112 hi0 hi1 hi2 hi3 rfl (by decide) (by decide) fVals_len w3 _ fs.length fs rfl rfl (hO.out.keep ((Keeps.refl (fun _ => False) _).alloc _) (fun _ _ f => f)) _ rfl ⟨5, X.data.toList⟩ (cells_new rfl [.int .i64 (5), .string X] _) (fVals_one _) (by omega) ?_); intro q8 d8 w8 hO8 hg8)
        have hk9 := Lib.hid ((hO.out.keep ((Keeps.refl (fun _ => False) wr).alloc (.cells #[.int .i64 5, .string X] 185)) (fun _ _ f => f)).keeps (hK.out.alloc _) hg8.out)
        exact ⟨⟨k + 1, fs ++ [⟨5, X.data.toList⟩], q8, d8, by omega, by go_num, by simp, by simp; omega, Lib.hid hstep.out.symm, by simpa using hO8, hk9⟩, by simp [intOf]; omega⟩
      · rw [if_neg hab, List.append_nil] at hstep
        go_wp2_with fail
        exact ⟨⟨k + 1, fs, q, d, by omega, by go_num, rfl, by omega, Lib.hid hstep.out.symm, hO, hK⟩, by simp [intOf]; omega⟩
    · obtain rfl : k = names.length := by omega
      have hx2 := Lib.hid (hfs.out.trans (by rw [List.take_length, List.take_of_length_le (by rw [hdl.out]; exact Nat.le_refl _), List.take_of_length_le (by rw [hel.out]; exact Nat.le_refl _)]))
      clear hfs
      go_wp2_with fail
      go_ret
      refine ⟨q, d, ?_, ?_, hk3.out.trans hK.out⟩
      · rw [hEq.out, ← hx2.out]; rfl
      · rw [hEq.out, ← hx2.out]; exact hO.out.older hk3.out.size

def normalW : List UInt8 := [110, 111, 114, 109, 97, 108]
def typeW : List UInt8 := [116, 121, 112, 101]
def backC (ls : List LineD) (areas : List (List UInt8)) : List FaultD := (if partedC areas = true then [⟨6, []⟩] else []) ++ (if valueR ls 1 boneW typeW = normalW then [] else [⟨6, boneW⟩])
set_option maxRecDepth 100000 in
set_option maxHeartbeats 8000000 in
theorem ruBack_any (v av : Value) (ls : List LineD) (areas : List (List UInt8)) (w : World) (hv : Hid (RowsAt 4 lineVals w v ls)) (hr : Hid (rightC ls = true)) (ha : Hid (StrsAt w av areas)) (hl : areas.length ≤ 64) :
    Calls Tryz.prog 83 #[v, av] w (FRes (backC ls areas) w) := by
  obtain ⟨i0, hi0, hi1, hi2, hi3⟩ := faultAll
  obtain ⟨V, hV⟩ : ∃ V : ByteArray, V = ⟨(valueR ls 1 boneW typeW).toArray⟩ := ⟨_, rfl⟩
  have hV' : Hid (V = ⟨(valueR ls 1 (⟨#[48, 46, 48, 46, 48, 46, 48]⟩ : ByteArray).data.toList (⟨#[116, 121, 112, 101]⟩ : ByteArray).data.toList).toArray⟩) := Lib.hid hV
  have hVd : Hid (V.data.toList = valueR ls 1 boneW typeW) := Lib.hid (by rw [hV])
  clear hV
  obtain ⟨z, hz⟩ : ∃ z, partedC areas = z := ⟨_, rfl⟩
  have hz' := Lib.hid hz
  clear hz
  go_enter Tryz.func83, Tryz.ntmps83
  go_wp2_with fail
  refine (ruParted_any _ areas z _ ha hl hz').mono ?_
  rintro e w2 ⟨rfl, k2⟩
  have hk2 := Lib.hid k2
  clear k2 ha
  have hb := ba_eqr V [110, 111, 114, 109, 97, 108]
  go_upto_if 7 with fail
  go_cut [5] (fun ov wx => (∃ (fs : List FaultD) (q : Option Addr) (d : Nat), ov = .slice q fs.length d ∧ fs.length ≤ 1 ∧ Hid (fs = if z = true then [⟨6, []⟩] else []) ∧ Hid (OwnR 185 2 fVals w wx ov fs)) ∧ Hid (Keeps (fun _ => False) w wx))
  case first =>
    cases z with
    | false =>
      go_wp2_with fail
      go_meet
      case rel => exact ⟨⟨[], none, 0, rfl, by simp, Lib.hid rfl, Lib.hid (OwnR.nil _ _ hk2.out.size)⟩, hk2⟩
    | true =>
      have hO0 := Lib.hid (OwnR.nil (t := 185) (sz := 2) (cv := fVals) w w2 hk2.out.size)
      go_wp2_with ((with_reducible refine at_slot 11 ?_); go_must (refine wpList_append_r rfl (.tmp 8) (.tmp 10) 112 185 rfl i0 _ 24 Tryz.underlying112 hi0 hi1 hi2 hi3 rfl (by decide) (by decide) fVals_len w _ 0 ([] : List FaultD) rfl rfl (hO0.out.keep ((Keeps.refl (fun _ => False) _).alloc _) (fun _ _ f => f)) _ rfl ⟨6, []⟩ (cells_new rfl [.int .i64 (6), .string ⟨#[]⟩] _) (fVals_one _) (by omega) ?_); intro q8 d8 w8 hO8 hg8)
      have hk9 := Lib.hid ((hO0.out.keep ((Keeps.refl (fun _ => False) w2).alloc (.cells #[.int .i64 6, .string ⟨#[]⟩] 185)) (fun _ _ f => f)).keeps (hk2.out.alloc _) hg8.out)
      go_meet
      case rel => exact ⟨⟨[⟨6, []⟩], q8, d8, by simp, by simp, Lib.hid rfl, by simpa using hO8⟩, hk9⟩
  case rest =>
    obtain ⟨⟨fs, q, d, rfl, hfl, hfs, hO⟩, hk⟩ := hcut
    have hvc := Lib.hid (hv.out.keep hk.out)
    have hres : Hid (backC ls areas = fs ++ (if valueR ls 1 boneW typeW = normalW then [] else [⟨6, boneW⟩])) := Lib.hid (by unfold backC; rw [hz'.out, ← hfs.out])
    go_wp2_with fail
    refine (value_any _ ls 1 ⟨#[48, 46, 48, 46, 48, 46, 48]⟩ ⟨#[116, 121, 112, 101]⟩ V _ hvc hr hV').mono ?_
    rintro e w5 ⟨rfl, k5⟩
    have hk5 := Lib.hid (hk.out.trans k5)
    have hO5 := Lib.hid (hO.out.keep k5 (fun _ _ f => f))
    clear k5 hvc hO hk hfs
    by_cases hvn : V.data.toList = normalW
    · have e4 : (V.toList == [110, 111, 114, 109, 97, 108]) = true := by rw [hb]; simp [hvn, normalW]
      have hres2 : Hid (backC ls areas = fs) := Lib.hid (by rw [hres.out, if_pos (by rw [← hVd.out]; exact hvn), List.append_nil])
      clear hb hvn
      go_wp2_with fail
      go_ret
      rw [hres2.out]
      exact ⟨q, d, rfl, hO5.out, hk5.out⟩
    · have e4 : (V.toList == [110, 111, 114, 109, 97, 108]) = false := by rw [hb]; exact decide_eq_false hvn
      have hres2 : Hid (backC ls areas = fs ++ [⟨6, boneW⟩]) := Lib.hid (by rw [hres.out, if_neg (by rw [← hVd.out]; exact hvn)])
      clear hb hvn
      go_wp2_with ((with_reducible refine at_slot 18 ?_); go_must (refine wpList_append_r rfl (.tmp 15) (.tmp 17) 112 185 rfl i0 _ 24 Tryz.underlying112 hi0 hi1 hi2 hi3 rfl (by decide) (by decide) fVals_len w _ fs.length fs rfl rfl (hO5.out.keep ((Keeps.refl (fun _ => False) _).alloc _) (fun _ _ f => f)) _ rfl ⟨6, boneW⟩ (cells_new rfl [.int .i64 (6), .string ⟨#[48, 46, 48, 46, 48, 46, 48]⟩] _) (fVals_one _) (by omega) ?_); intro q8 d8 w8 hO8 hg8)
      have hk9 := Lib.hid ((hO5.out.keep ((Keeps.refl (fun _ => False) w5).alloc (.cells #[.int .i64 6, .string ⟨#[48, 46, 48, 46, 48, 46, 48]⟩] 185)) (fun _ _ f => f)).keeps (hk5.out.alloc _) hg8.out)
      go_ret
      rw [hres2.out]
      exact ⟨q8, d8, by simp, by simpa using hO8.out, hk9.out⟩
end Go.Proofs.YtialookpnoaogaaGreat
/- rules.overlaps, walked. -/
set_option linter.unusedVariables false
set_option linter.unusedSimpArgs false
namespace Go.Proofs.YtialookpnoaogaaGreat
open Go.RowKit

set_option maxRecDepth 100000 in
set_option maxHeartbeats 4000000 in
theorem ruHas_any (v : Value) (xs : List (List UInt8)) (gA gB : Nat) (p : Option Addr) (c : Nat) (nets : List (List UInt8)) (i : Nat) (y : List UInt8) (z : Bool) (w : World) (hv : Hid (StrsAt w v xs)) (hl : xs.length ≤ 64) (hxs : Hid (∀ x ∈ xs, x.length ≤ 9223372036854775807)) (hS : Hid (OvS gA gB p c nets i w)) (hy : Hid (nets[i]? = some y)) (hys : y.length ≤ 9223372036854775807) (hi : nets.length ≤ 64)
    (hz : Hid (xs.any (fun x => meetL x y) = z)) :
    Calls Tryz.prog 111 #[v, .func (.func 109) #[] #[.pointer (some ⟨gA, 0, none⟩), .pointer (some ⟨gB, 0, none⟩)]] w (NewRes (.bool z) w) := by
  go_enter Tryz.func111, Tryz.ntmps111
  go_wp2_with fail
  refine (ruIdx_any v xs gA gB p c nets i y _ hv hl hxs hS hy hys hi).mono ?_
  rintro e w2 ⟨⟨k, rfl, hk⟩, k2⟩
  have k2' := Lib.hid k2
  have hkz := hk.out.trans hz.out
  clear k2 hk hz hv hxs hS hy
  have hkz' := Lib.hid hkz
  clear hkz
  go_wp2_with fail
  go_ret
  exact ⟨by show Ending.returned (.bool (decide (0 ≤ k))) = _; rw [hkz'.out], k2'.out⟩

theorem over_next {names nets : List (List UInt8)} {k : Nat} : (List.range (k + 1)).flatMap (overStep names nets) = (List.range k).flatMap (overStep names nets) ++ overStep names nets k := by
  rw [List.range_succ, List.flatMap_append]; simp
set_option maxRecDepth 100000 in
set_option maxHeartbeats 8000000 in
theorem ruOver_any (nv vv : Value) (names nets : List (List UInt8)) (w : World) (hn : Hid (StrsAt w nv names)) (hv : Hid (RowsAt 1 nv1 w vv nets)) (hle : Hid (nets.length = names.length)) (hl : names.length ≤ 64) (hsm : Hid (∀ x ∈ nets, x.length ≤ 9223372036854775807)) :
    Calls Tryz.prog 81 #[nv, vv] w (FRes (overlapsC names nets) w) := by
  obtain ⟨i0, hi0, hi1, hi2, hi3⟩ := faultAll
  obtain ⟨p, c, rfl⟩ := strs_slice hn.out
  obtain ⟨p2, c2, rfl, -, hcap2, -⟩ := hv.out
  have hnl : nets.length ≤ 64 := by rw [hle.out]; exact hl
  have hA0 : Hid ((w.alloc (.cells #[.slice p2 nets.length c2] 57)).cell? ⟨w.heap.size, 0, none⟩ = some (.slice p2 nets.length c2)) := Lib.hid ((BlkAt.new w 57 [.slice p2 nets.length c2]).cell 0 _ rfl)
  have hk0 : Hid (Keeps (fun _ => False) w (w.alloc (.cells #[.slice p2 nets.length c2] 57))) := Lib.hid ((Keeps.refl _ _).alloc _)
  go_enter Tryz.func81, Tryz.ntmps81
  go_upto_region 1 with fail
  generalize w.alloc (.cells #[.slice p2 nets.length c2] 57) = W0 at hA0 hk0 ⊢
  generalize w.heap.size = gA at hA0 ⊢
  go_wp2_with fail
  go_loopw [11, 5] (fun iv ov wr => ∃ (k : Nat) (fs : List FaultD) (q : Option Addr) (d : Nat), k ≤ names.length ∧ iv = .int .i64 k ∧ ov = .slice q fs.length d ∧ fs.length ≤ k ∧ Hid (fs = (List.range k).flatMap (overStep names nets)) ∧ Hid (OwnR 185 2 fVals W0 wr ov fs) ∧ Hid (Keeps (fun _ => False) W0 wr)) (fun iv _ _ => names.length - (intOf iv).toNat)
  case atStart => exact ⟨0, [], none, 0, by omega, rfl, rfl, by simp, Lib.hid rfl, Lib.hid (OwnR.nil _ _ (Nat.le_refl _)), Lib.hid (Keeps.refl _ _)⟩
  case round =>
    obtain ⟨k, fs, q, d, hk, rfl, rfl, hfl, hfs, hO, hK⟩ := hrel
    by_cases hlk : k < names.length
    · have hkv : k < nets.length := by rw [hle.out]; exact hlk
      obtain ⟨x, hx⟩ : ∃ x, names[k]? = some x := ⟨_, List.getElem?_eq_getElem hlk⟩
      obtain ⟨y, hy⟩ : ∃ x, nets[k]? = some x := ⟨_, List.getElem?_eq_getElem hkv⟩
      obtain ⟨g, o, rfl, hc⟩ := strs_get hn.out hx
      obtain ⟨X, hX⟩ : ∃ X : ByteArray, X = ⟨x.toArray⟩ := ⟨_, rfl⟩
      have hwr := hk0.out.trans hK.out
      have c0 : wr.cell? ⟨g, o + k, none⟩ = some (.string X) := by rw [hX]; exact (hwr.cell (p := ⟨g, o + k, none⟩) (World.block_lt_of_cell? w _ hc) id).trans hc
      have hXd : Hid (X.data.toList = x) := Lib.hid (by rw [hX])
      have m1 : (k : Int) < (names.length : Int) := by omega
      have m2 : (0 : Int) ≤ (k : Int) := by omega
      have m3 : (k : Int) ≤ (c2 : Int) := by omega
      have hgA : Hid (wr.cell? ⟨gA, 0, none⟩ = some (.slice p2 nets.length c2)) := Lib.hid ((hK.out.cell (p := ⟨gA, 0, none⟩) (World.block_lt_of_cell? W0 _ hA0.out) id).trans hA0.out)
      have hvr := Lib.hid (hv.out.keep hwr)
      have hy' := Lib.hid hy
      have hx' := Lib.hid hx
      have hwr' := Lib.hid hwr
      clear hc hX hx hy hwr
      go_upto_region 5 with fail
      have ka : Keeps (fun _ => False) wr (wr.alloc (.cells #[.int .i64 k] 3)) := (Keeps.refl _ _).alloc _
      have hS5 : Hid (OvS gA wr.heap.size p2 c2 nets k (wr.alloc (.cells #[.int .i64 k] 3))) := Lib.hid
        ⟨(ka.cell (p := ⟨gA, 0, none⟩) (World.block_lt_of_cell? wr _ hgA.out) id).trans hgA.out, (BlkAt.new wr 3 [.int .i64 k]).cell 0 _ rfl, rows_strs (hvr.out.keep ka)⟩
      have hT5 : Hid (StrsAt (wr.alloc (.cells #[.int .i64 k] 3)) (.slice p2 k c2) (nets.take k)) := Lib.hid (rows_strs ((hvr.out.keep ka).take k (by omega)))
      have hO5 := Lib.hid (hO.out.keep ka (fun _ _ f => f))
      have hK5 := Lib.hid (hK.out.trans ka)
      clear ka hgA hvr hO hK c0
      generalize wr.alloc (.cells #[.int .i64 k] 3) = W5 at hS5 hT5 hO5 hK5 ⊢
      generalize wr.heap.size = gB at hS5 ⊢
      have ca := hS5.out.a
      have cb := hS5.out.b
      have hmf : ∀ (fn : Fn) (first cap : Array Value) (w : World), (Instr.makeFunc fn first cap).run Tryz.prog w = .ok (.func fn first cap) w := fun _ _ _ _ => rfl
      obtain ⟨z, hz⟩ : ∃ z, (nets.take k).any (fun x => meetL x y) = z := ⟨_, rfl⟩
      have hz' := Lib.hid hz
      have hys : y.length ≤ 9223372036854775807 := hsm.out y (List.mem_of_getElem? hy'.out)
      have hsm2 : Hid (∀ x ∈ nets.take k, x.length ≤ 9223372036854775807) := Lib.hid (fun x hx => hsm.out x (List.mem_of_mem_take hx))
      have hstep : Hid (overStep names nets k = if z = true then [⟨4, X.data.toList⟩] else []) := Lib.hid (by
        unfold overStep
        have h1 : nets.getD k [] = y := by rw [List.getD_eq_getElem?_getD, hy'.out]; rfl
        have h2 : names.getD k [] = x := by rw [List.getD_eq_getElem?_getD, hx'.out]; rfl
        rw [h1, h2, hz'.out, hXd.out])
      clear hz
      go_wp2_with fail
      refine (ruHas_any _ (nets.take k) gA gB p2 c2 nets k y z _ hT5 (by rw [List.length_take]; omega) hsm2 hS5 hy' hys hnl hz').mono ?_
      rintro e w7 ⟨rfl, k7⟩
      have hO7 := Lib.hid (hO5.out.keep k7 (fun _ _ f => f))
      have hK7 := Lib.hid (hK5.out.trans k7)
      clear k7 hO5 hK5 hT5 hS5 ca cb hmf
      cases z with
      | true =>
        have hnx : Hid (fs ++ [⟨4, X.data.toList⟩] = (List.range (k + 1)).flatMap (overStep names nets)) := Lib.hid (by rw [over_next, ← hfs.out, hstep.out]; rfl)
        go_wp2_with ((with_reducible refine at_slot 26 ?_); go_must (refine wpList_append_r rfl (.tmp 22) (.tmp 25) 112 185 rfl i0 _ 24 Tryz.underlying112 hi0 hi1 hi2 hi3 rfl (by decide) (by decide) fVals_len W0 _ fs.length fs rfl rfl (hO7.out.keep ((Keeps.refl (fun _ => False) _).alloc _) (fun _ _ f => f)) _ rfl ⟨4, X.data.toList⟩ (cells_new rfl [.int .i64 (4), .string X] _) (fVals_one _) (by omega) ?_); intro q8 d8 w8 hO8 hg8)
        have hk9 := Lib.hid ((hO7.out.keep ((Keeps.refl (fun _ => False) w7).alloc (.cells #[.int .i64 4, .string X] 185)) (fun _ _ f => f)).keeps (hK7.out.alloc _) hg8.out)
        exact ⟨⟨k + 1, fs ++ [⟨4, X.data.toList⟩], q8, d8, by omega, by go_num, by simp, by simp; omega, hnx, by simpa using hO8, hk9⟩, by simp [intOf]; omega⟩
      | false =>
        have hnx : Hid (fs = (List.range (k + 1)).flatMap (overStep names nets)) := Lib.hid (by rw [over_next, ← hfs.out, hstep.out]; simp)
        go_wp2_with fail
        exact ⟨⟨k + 1, fs, q, d, by omega, by go_num, rfl, by omega, hnx, hO7, hK7⟩, by simp [intOf]; omega⟩
    · obtain rfl : k = names.length := by omega
      have hx2 : Hid (fs = overlapsC names nets) := hfs
      clear hfs
      go_wp2_with fail
      go_ret
      refine ⟨q, d, ?_, ?_, hk0.out.trans hK.out⟩
      · rw [← hx2.out]; rfl
      · rw [← hx2.out]; exact hO.out.older hk0.out.size
end Go.Proofs.YtialookpnoaogaaGreat
