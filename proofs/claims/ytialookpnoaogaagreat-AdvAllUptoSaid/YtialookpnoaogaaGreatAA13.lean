/- Of adv: a value, a number of an interface's own lines (the closures of settings). -/
import Derived.Test.YtialookpnoaogaaGreatAA12
import Derived.Test.YtialookpnoaogaaGreatAA10
import Derived.Test.YtialookpnoaogaaGreatAA11
import Derived.Test.YtialookpnoaogaaGreatAA06
import Derived.Test.YtialookpnoaogaaGreatAA04
import Derived.Test.YtialookpnoaogaaGreatAA01
import Derived.Deep.DeepCutAuto
set_option linter.unusedVariables false
set_option linter.unusedSimpArgs false
set_option linter.unusedVariables false
set_option linter.unusedSimpArgs false
namespace Go.Proofs.YtialookpnoaogaaGreat
open Go.RowKit

theorem own_right {n : List UInt8} {ls : List LineD} (hr : rightC ls = true) : rightC (ownL n ls) = true :=
  right_of (fun q hq => right_line hr q ((List.mem_filter.1 hq).1)) (rises_filter _ (right_rises hr)) (Nat.le_trans (List.length_filter_le _ _) (right_len hr))
theorem own_find (n l : List UInt8) (ls : List LineD) : (ownL n ls).find? (keyB 2 n l) = ls.find? (keyB 2 n l) := by
  unfold ownL
  rw [List.find?_filter]
  congr 1
  funext q
  unfold keyB otherB
  by_cases h1 : q.head = 2
  · by_cases h2 : q.name = n
    · simp [h1, h2]
    · simp [h2]
  · simp [h1]
theorem own_value (n l : List UInt8) (ls : List LineD) : valueR (ownL n ls) 2 n l = valueR ls 2 n l := by
  unfold valueR
  rw [own_find]
/-- the value of a leaf, as settings asks for it -/
theorem advSet2_any (v : Value) (ls : List LineD) (n : List UInt8) (gO gN : Nat) (F : ByteArray) (V : ByteArray) (w : World) (hv : Hid (RowsAt 4 lineVals w v (ownL n ls))) (hr : Hid (rightC ls = true)) (hcO : Hid (w.cell? ⟨gO, 0, none⟩ = some v)) (hcN : Hid (w.cell? ⟨gN, 0, none⟩ = some (strv n)))
    (hV : Hid (V = ⟨(valueR ls 2 n F.data.toList).toArray⟩)) :
    Calls Tryz.prog 53 #[.string F, .pointer (some ⟨gO, 0, none⟩), .pointer (some ⟨gN, 0, none⟩)] w (NewRes (.string V) w) := by
  obtain ⟨p, c, rfl⟩ := hv.out.slice
  obtain ⟨N, hN⟩ : ∃ N : ByteArray, (⟨n.toArray⟩ : ByteArray) = N := ⟨_, rfl⟩
  have c1 := hcO.out
  have c2 : w.cell? ⟨gN, 0, none⟩ = some (.string N) := by rw [← hN]; exact hcN.out
  have hNl : N.data.toList = n := by rw [← hN]
  have hva := Lib.hid (value_any _ (ownL n ls) 2 N F V w hv (Lib.hid (own_right hr.out)) (Lib.hid (by rw [hNl, own_value]; exact hV.out)))
  clear hN hNl hcO hcN
  go_enter Tryz.func53, Tryz.ntmps53
  go_wp2_with fail
  refine hva.out.mono ?_
  rintro e w1 ⟨rfl, hk1⟩
  have hk1' := Lib.hid hk1
  clear hva hk1
  go_wp2_with fail
  go_ret
  exact ⟨rfl, hk1'.out⟩
/-- the number of a leaf -/
theorem advSet3_any (v : Value) (ls : List LineD) (n : List UInt8) (gO gN gF : Nat) (F : ByteArray) (m : Option Nat) (w : World) (hv : Hid (RowsAt 4 lineVals w v (ownL n ls))) (hr : Hid (rightC ls = true)) (hcO : Hid (w.cell? ⟨gO, 0, none⟩ = some v)) (hcN : Hid (w.cell? ⟨gN, 0, none⟩ = some (strv n)))
    (hcF : Hid (w.cell? ⟨gF, 0, none⟩ = some (.func (.func 53) #[] #[.pointer (some ⟨gO, 0, none⟩), .pointer (some ⟨gN, 0, none⟩)])))
    (hm : Hid (decL (valueR ls 2 n F.data.toList) = m)) :
    Calls Tryz.prog 54 #[.string F, .pointer (some ⟨gF, 0, none⟩)] w (NewRes (.int .i64 (m.getD 0 : Nat)) w) := by
  obtain ⟨V, hV⟩ : ∃ V : ByteArray, V = ⟨(valueR ls 2 n F.data.toList).toArray⟩ := ⟨_, rfl⟩
  have h2 := Lib.hid (advSet2_any v ls n gO gN F V w hv hr hcO hcN (Lib.hid hV))
  have hd : Hid (∀ W, Calls Tryz.prog 55 #[.string V] W fun e w' => e = .returned (.tuple #[.int .i64 (m.getD 0 : Nat), .bool m.isSome]) ∧ W = w') := Lib.hid (fun W => by
    have h := dec_r V m W (Lib.hid (by rw [hV]; exact hm.out))
    cases m <;> exact h)
  have c1 := hcF.out
  clear hV hcF hcO hcN hv
  go_enter Tryz.func54, Tryz.ntmps54
  go_wp2_with fail
  refine h2.out.mono ?_
  rintro e w1 ⟨rfl, hk1⟩
  have hk1' := Lib.hid hk1
  clear h2 hk1
  go_wp2_with fail
  refine (hd.out _).mono ?_
  rintro e w2 ⟨rfl, rfl⟩
  clear hd
  go_wp2_with fail
  go_ret
  exact ⟨rfl, hk1'.out⟩
end Go.Proofs.YtialookpnoaogaaGreat
/- Faults of a configuration: plain; rules.values, unset, router, tooMany, walked. -/
set_option linter.unusedVariables false
set_option linter.unusedSimpArgs false
namespace Go.Proofs.YtialookpnoaogaaGreat
open Go.RowKit

structure FaultD where
  kind : Int
  name : List UInt8
def fVals (f : FaultD) : List Value := [.int .i64 f.kind, strv f.name]
theorem fVals_len (f : FaultD) : (fVals f).length = 2 := rfl
theorem fVals_one (f : FaultD) : ∀ u ∈ fVals f, u.oneCell' = true := by
  intro u hu
  simp only [fVals, List.mem_cons, List.not_mem_nil, or_false] at hu
  rcases hu with rfl | rfl <;> rfl
theorem faultInfo : (Tryz.prog.info? 185).map (·.size) = some 2 := by kernel_rfl
theorem faultAll : ∃ i, Tryz.prog.info? 185 = some i ∧ i.zero = some (.agg #[.int .i64 0, .string ⟨#[]⟩]) ∧ i.size = 2 ∧ i.bytes = 24 := by
  have h : (Tryz.prog.info? 185).map (fun i => (i.zero, i.size, i.bytes)) = some (some (.agg #[.int .i64 0, .string ⟨#[]⟩]), 2, 24) := by kernel_rfl
  obtain ⟨i, hi, e⟩ := Option.map_eq_some_iff.1 h
  injection e with e1 e; injection e with e2 e3
  exact ⟨i, hi, e1, e2, e3⟩
/-- faults of the call's own -/
def FRes (fs : List FaultD) (w : World) (e : Ending) (w' : World) : Prop :=
  ∃ p c, e = .returned (.slice p fs.length c) ∧ OwnR 185 2 fVals w w' (.slice p fs.length c) fs ∧ Keeps (fun _ => False) w w'
/-- texts of the call's own -/
def SRes (xs : List (List UInt8)) (w : World) (e : Ending) (w' : World) : Prop :=
  ∃ p c, e = .returned (.slice p xs.length c) ∧ OwnR 9 1 nv1 w w' (.slice p xs.length c) xs ∧ Keeps (fun _ => False) w w'
def routerW : List UInt8 := [114, 111, 117, 116, 101, 114, 45, 105, 100]
def boneW : List UInt8 := [48, 46, 48, 46, 48, 46, 48]
def valuesC (ls : List LineD) (names : List (List UInt8)) (leaf : List UInt8) : List (List UInt8) := names.map (fun n => valueR ls 2 n leaf)
def unsetC (kind : Int) (names vals : List (List UInt8)) : List FaultD := (names.zip vals).flatMap (fun p => if p.2 = [] then [⟨kind, p.1⟩] else [])
def tooManyC (names : List (List UInt8)) : List FaultD := if 8 < names.length then [⟨8, []⟩] else []
def routerC (ls : List LineD) (names : List (List UInt8)) : List FaultD :=
  if 0 < names.length ∧ (valueR ls 0 [] routerW = [] ∨ valueR ls 0 [] routerW = boneW) then [⟨1, []⟩] else []
theorem strs_get {w : World} {p : Option Addr} {n c : Nat} {xs : List (List UInt8)} (h : StrsAt w (.slice p n c) xs) {k : Nat} {x : List UInt8} (hk : xs[k]? = some x) : ∃ g o, p = some ⟨g, o, none⟩ ∧ w.cell? ⟨g, o + k, none⟩ = some (.string ⟨x.toArray⟩) := by
  obtain ⟨p', c', e, hr⟩ := h
  injection e with e1 e2 e3
  subst e1
  obtain ⟨g, o, rfl, hr2⟩ := hr (by have := (List.getElem?_eq_some_iff.1 hk).1; omega)
  refine ⟨g, o, rfl, ?_⟩
  have := hr2 k (strv x) (by rw [List.getElem?_map, hk]; rfl)
  exact this
theorem strs_slice {w : World} {v : Value} {xs : List (List UInt8)} (h : StrsAt w v xs) : ∃ p c, v = .slice p xs.length c := by
  obtain ⟨p, c, e, _⟩ := h; exact ⟨p, c, e⟩

set_option maxRecDepth 100000 in
set_option maxHeartbeats 4000000 in
theorem ruValues_any (v nv : Value) (ls : List LineD) (names : List (List UInt8)) (L : ByteArray) (w : World) (hv : Hid (RowsAt 4 lineVals w v ls)) (hr : Hid (rightC ls = true)) (hn : Hid (StrsAt w nv names)) (hl : names.length ≤ 64) :
    Calls Tryz.prog 78 #[v, nv, .string L] w (SRes (valuesC ls names L.data.toList) w) := by
  obtain ⟨i0, hi0, hi1, hi2, hi3⟩ := strAll
  obtain ⟨p, c, rfl⟩ := strs_slice hn.out
  go_enter Tryz.func78, Tryz.ntmps78
  go_wp2_with fail
  go_loopw [12, 7] (fun iv ov wr => ∃ (k : Nat) (xs : List (List UInt8)) (q : Option Addr) (d : Nat), k ≤ names.length ∧ iv = .int .i64 k ∧ ov = .slice q xs.length d ∧ xs.length ≤ k ∧ Hid (xs = valuesC ls (names.take k) L.data.toList) ∧ Hid (OwnR 9 1 nv1 w wr ov xs) ∧ Hid (Keeps (fun _ => False) w wr)) (fun iv _ _ => names.length - (intOf iv).toNat)
  case atStart => exact ⟨0, [], none, 0, by omega, rfl, rfl, by simp, Lib.hid rfl, Lib.hid (OwnR.nil _ _ (Nat.le_refl _)), Lib.hid (Keeps.refl _ _)⟩
  case round =>
    obtain ⟨k, xs, q, d, hk, rfl, rfl, hxl, hxs, hO, hK⟩ := hrel
    by_cases hlk : k < names.length
    · obtain ⟨x, hx⟩ : ∃ x, names[k]? = some x := ⟨_, List.getElem?_eq_getElem hlk⟩
      obtain ⟨g, o, rfl, hc⟩ := strs_get hn.out hx
      obtain ⟨X, hX⟩ : ∃ X : ByteArray, X = ⟨x.toArray⟩ := ⟨_, rfl⟩
      have c0 : wr.cell? ⟨g, o + k, none⟩ = some (.string X) := by rw [hX]; exact (hK.out.cell (p := ⟨g, o + k, none⟩) (World.block_lt_of_cell? w _ hc) id).trans hc
      obtain ⟨V, hV⟩ : ∃ V : ByteArray, V = ⟨(valueR ls 2 X.data.toList L.data.toList).toArray⟩ := ⟨_, rfl⟩
      have hV' := Lib.hid hV
      have m1 : (k : Int) < (names.length : Int) := by omega
      have m2 : (0 : Int) ≤ (k : Int) := by omega
      have hnext : Hid (xs ++ [V.data.toList] = valuesC ls (names.take (k + 1)) L.data.toList) := Lib.hid (by
        unfold valuesC
        rw [List.take_add_one, hx, List.map_append, hxs.out, hV]
        unfold valuesC
        rw [hX]; rfl)
      have hvr := Lib.hid (hv.out.keep hK.out)
      clear hc hX hV hx
      go_wp2_with fail
      refine (value_any _ ls 2 X L V _ hvr hr hV').mono ?_
      rintro e w5 ⟨rfl, k5⟩
      have hK5 := Lib.hid (hK.out.trans k5)
      have hO5 := Lib.hid (hO.out.keep k5 (fun _ _ f => f))
      clear k5 c0 hvr hO hK
      go_wp2_with ((with_reducible refine at_slot 22 ?_); go_must (refine wpList_append_r rfl (.tmp 16) (.tmp 21) 57 9 rfl i0 _ 16 Tryz.underlying57 hi0 hi1 hi2 hi3 rfl (by decide) (by decide) (fun _ => rfl) w _ xs.length xs rfl rfl (hO5.out.keep ((Keeps.refl (fun _ => False) _).alloc _) (fun _ _ f => f)) _ rfl V.data.toList (cells_new rfl [.string V] _) (fun u hu => (by simp [nv1] at hu; subst hu; rfl)) (by omega) ?_); intro q8 d8 w8 hO8 hg8)
      have hk8 := Lib.hid ((hO5.out.keep ((Keeps.refl (fun _ => False) w5).alloc (.cells #[.string V] 9)) (fun _ _ f => f)).keeps (hK5.out.alloc _) hg8.out)
      exact ⟨⟨k + 1, xs ++ [V.data.toList], q8, d8, by omega, by go_num, by simp, by simp; omega, hnext, by simpa using hO8, hk8⟩, by simp [intOf]; omega⟩
    · obtain rfl : k = names.length := by omega
      have hx2 := Lib.hid (hxs.out.trans (by rw [List.take_length]))
      clear hxs
      go_wp2_with fail
      go_ret
      refine ⟨q, d, ?_, ?_, hK.out⟩
      · rw [← hx2.out]; rfl
      · rw [← hx2.out]; exact hO.out
end Go.Proofs.YtialookpnoaogaaGreat
/- rules.unset, tooMany, router, unused, parted, walked (gen_rub.py). -/
set_option linter.unusedVariables false
set_option linter.unusedSimpArgs false
namespace Go.Proofs.YtialookpnoaogaaGreat
open Go.RowKit

theorem nil_yes {a : ByteArray} (h : a.data.toList = []) : a.toList.isEmpty = true ∧ (a.toList == []) = true ∧ (a.toList != []) = false := by rw [Lib.toList_data, h]; exact ⟨rfl, rfl, rfl⟩
theorem nil_no {a : ByteArray} (h : a.data.toList ≠ []) : a.toList.isEmpty = false ∧ (a.toList == []) = false ∧ (a.toList != []) = true := by
  rw [Lib.toList_data]
  cases hh : a.data.toList with
  | nil => exact absurd hh h
  | cons => exact ⟨rfl, rfl, rfl⟩
theorem ba_eqr (X : ByteArray) (l : List UInt8) : (X.toList == l) = decide (X.data.toList = l) := by
  rw [Lib.toList_data]
  by_cases h : X.data.toList = l
  · rw [h]; simp
  · simp [h]
theorem zip_take {α β : Type} : ∀ (xs : List α) (ys : List β) (k : Nat), (xs.take k).zip (ys.take k) = (xs.zip ys).take k := by
  intro xs
  induction xs with
  | nil => intro ys k; simp
  | cons x xs ih =>
    intro ys k
    cases ys with
    | nil => simp
    | cons y ys =>
      cases k with
      | zero => simp
      | succ k => simp [ih]
theorem unset_step {kind : Int} {names vals : List (List UInt8)} {k : Nat} {x y : List UInt8} (hx : names[k]? = some x) (hy : vals[k]? = some y) :
    unsetC kind (names.take (k + 1)) (vals.take (k + 1)) = unsetC kind (names.take k) (vals.take k) ++ (if y = [] then [⟨kind, x⟩] else []) := by
  unfold unsetC
  have hz : (names.zip vals)[k]? = some (x, y) := by rw [List.getElem?_zip_eq_some]; exact ⟨hx, hy⟩
  rw [zip_take, zip_take, List.take_add_one, hz]
  simp
def unusedC (ls : List LineD) (areas : List (List UInt8)) : List FaultD := (namesA 1 ls).flatMap (fun n => if areas.contains n = true then [] else [⟨7, n⟩])

set_option maxRecDepth 100000 in
set_option maxHeartbeats 4000000 in
theorem ruUnset_any (kind : Int) (nv vv : Value) (names vals : List (List UInt8)) (w : World) (hn : Hid (StrsAt w nv names)) (hv : Hid (StrsAt w vv vals)) (hle : Hid (vals.length = names.length)) (hl : names.length ≤ 64) :
    Calls Tryz.prog 80 #[.int .i64 kind, nv, vv] w (FRes (unsetC kind names vals) w) := by
  obtain ⟨i0, hi0, hi1, hi2, hi3⟩ := faultAll
  obtain ⟨p, c, rfl⟩ := strs_slice hn.out
  obtain ⟨p2, c2, rfl⟩ := strs_slice hv.out
  go_enter Tryz.func80, Tryz.ntmps80
  go_wp2_with fail
  go_loopw [12, 7] (fun iv ov wr => ∃ (k : Nat) (fs : List FaultD) (q : Option Addr) (d : Nat), k ≤ names.length ∧ iv = .int .i64 k ∧ ov = .slice q fs.length d ∧ fs.length ≤ k ∧ Hid (fs = unsetC kind (names.take k) (vals.take k)) ∧ Hid (OwnR 185 2 fVals w wr ov fs) ∧ Hid (Keeps (fun _ => False) w wr)) (fun iv _ _ => names.length - (intOf iv).toNat)
  case atStart => exact ⟨0, [], none, 0, by omega, rfl, rfl, by simp, Lib.hid rfl, Lib.hid (OwnR.nil _ _ (Nat.le_refl _)), Lib.hid (Keeps.refl _ _)⟩
  case round =>
    obtain ⟨k, fs, q, d, hk, rfl, rfl, hfl, hfs, hO, hK⟩ := hrel
    by_cases hlk : k < names.length
    · have hkv : k < vals.length := by rw [hle.out]; exact hlk
      obtain ⟨x, hx⟩ : ∃ x, names[k]? = some x := ⟨_, List.getElem?_eq_getElem hlk⟩
      obtain ⟨y, hy⟩ : ∃ x, vals[k]? = some x := ⟨_, List.getElem?_eq_getElem hkv⟩
      obtain ⟨g, o, rfl, hc⟩ := strs_get hn.out hx
      obtain ⟨g2, o2, rfl, hc2⟩ := strs_get hv.out hy
      obtain ⟨X, hX⟩ : ∃ X : ByteArray, X = ⟨x.toArray⟩ := ⟨_, rfl⟩
      obtain ⟨Y, hY⟩ : ∃ X : ByteArray, X = ⟨y.toArray⟩ := ⟨_, rfl⟩
      have c0 : wr.cell? ⟨g, o + k, none⟩ = some (.string X) := by rw [hX]; exact (hK.out.cell (p := ⟨g, o + k, none⟩) (World.block_lt_of_cell? w _ hc) id).trans hc
      have c1 : wr.cell? ⟨g2, o2 + k, none⟩ = some (.string Y) := by rw [hY]; exact (hK.out.cell (p := ⟨g2, o2 + k, none⟩) (World.block_lt_of_cell? w _ hc2) id).trans hc2
      have hstep := Lib.hid (unset_step (kind := kind) hx hy)
      rw [← hfs.out] at hstep
      have m1 : (k : Int) < (names.length : Int) := by omega
      have m2 : (0 : Int) ≤ (k : Int) := by omega
      have m3 : (k : Int) < (vals.length : Int) := by omega
      have hXd : Hid (X.data.toList = x) := Lib.hid (by rw [hX])
      have hYd : Hid (Y.data.toList = y) := Lib.hid (by rw [hY])
      clear hc hc2 hX hY hx hy
      by_cases hy0 : y = []
      · obtain ⟨e1, e2, e3⟩ := nil_yes (hYd.out.trans hy0)
        rw [if_pos hy0, ← hXd.out] at hstep
        clear hy0
        go_wp2_with ((with_reducible refine at_slot 27 ?_); go_must (refine wpList_append_r rfl (.tmp 22) (.tmp 26) 112 185 rfl i0 _ 24 Tryz.underlying112 hi0 hi1 hi2 hi3 rfl (by decide) (by decide) fVals_len w _ fs.length fs rfl rfl (hO.out.keep ((Keeps.refl (fun _ => False) _).alloc _) (fun _ _ f => f)) _ rfl ⟨kind, X.data.toList⟩ (cells_new rfl [.int .i64 (kind), .string X] _) (fVals_one _) (by omega) ?_); intro q8 d8 w8 hO8 hg8)
        have hk8 := Lib.hid ((hO.out.keep ((Keeps.refl (fun _ => False) wr).alloc (.cells #[.int .i64 kind, .string X] 185)) (fun _ _ f => f)).keeps (hK.out.alloc _) hg8.out)
        exact ⟨⟨k + 1, fs ++ [⟨kind, X.data.toList⟩], q8, d8, by omega, by go_num, by simp, by simp; omega, Lib.hid hstep.out.symm, by simpa using hO8, hk8⟩, by simp [intOf]; omega⟩
      · obtain ⟨e1, e2, e3⟩ := nil_no (a := Y) (by rw [hYd.out]; exact hy0)
        rw [if_neg hy0, List.append_nil] at hstep
        clear hy0
        go_wp2_with fail
        exact ⟨⟨k + 1, fs, q, d, by omega, by go_num, rfl, by omega, Lib.hid hstep.out.symm, hO, hK⟩, by simp [intOf]; omega⟩
    · obtain rfl : k = names.length := by omega
      have hx2 := Lib.hid (hfs.out.trans (by rw [List.take_length, List.take_of_length_le (by rw [hle.out]; exact Nat.le_refl _)]))
      clear hfs
      go_wp2_with fail
      go_ret
      refine ⟨q, d, ?_, ?_, hK.out⟩
      · rw [← hx2.out]; rfl
      · rw [← hx2.out]; exact hO.out
/-- a fault alone, in a new block -/
theorem own_new (w : World) (f : FaultD) : OwnR 185 2 fVals w (w.alloc (.cells (fVals f).toArray 185)) (.slice (some ⟨w.heap.size, 0, none⟩) 1 1) [f] := by
  refine ⟨⟨by simp [rowCells, fVals], .inr ⟨w.heap.size, 1, (fVals f).toArray, rfl, Nat.zero_le _, heap_alloc_last w _, by simp, by unfold maxLen; simp, by simp [fVals], by simp [rowCells, fVals]⟩⟩, fun k e => by simp [Value.ownBlock] at e; omega, ((Keeps.refl (fun _ => False) w).alloc _).size⟩
set_option maxRecDepth 100000 in
set_option maxHeartbeats 2000000 in
theorem ruTooMany_any (nv : Value) (names : List (List UInt8)) (w : World) (hn : Hid (StrsAt w nv names)) (hl : names.length ≤ 64) :
    Calls Tryz.prog 85 #[nv] w (FRes (tooManyC names) w) := by
  obtain ⟨p, c, rfl⟩ := strs_slice hn.out
  unfold tooManyC
  by_cases h : 8 < names.length
  · rw [if_pos h]
    have m : (8 : Int) < (names.length : Int) := by omega
    go_enter Tryz.func85, Tryz.ntmps85
    go_wp2_with fail
    go_ret
    exact ⟨_, _, rfl, own_new w ⟨8, []⟩, (Keeps.refl _ _).alloc _⟩
  · rw [if_neg h]
    have m : ¬ (8 : Int) < (names.length : Int) := by omega
    go_enter Tryz.func85, Tryz.ntmps85
    go_wp2_with fail
    go_ret
    exact ⟨none, 0, rfl, OwnR.nil _ _ (Nat.le_refl _), Keeps.refl _ _⟩
end Go.Proofs.YtialookpnoaogaaGreat
/- rules.meet, walked. -/
set_option linter.unusedVariables false
set_option linter.unusedSimpArgs false
namespace Go.Proofs.YtialookpnoaogaaGreat
open Go.RowKit

def meetL (a b : List UInt8) : Bool := match netL a, netL b with
  | some (x, n), some (y, m) => decide (x / 2 ^ (32 - min n m) = y / 2 ^ (32 - min n m))
  | _, _ => false
theorem netL_in {l : List UInt8} {a n : Nat} (h : netL l = some (a, n)) : a < 4294967296 ∧ 1 ≤ n ∧ n ≤ 32 := by
  unfold netL at h
  split at h
  · cases ha : addrL (l.take (before 47 l)) with
    | none => rw [ha] at h; cases h
    | some x =>
      cases hb : decL (l.drop (before 47 l + 1)) with
      | none => rw [ha, hb] at h; cases h
      | some y =>
        rw [ha, hb] at h
        simp only at h
        split at h
        · rename_i hc
          injection h with h
          injection h with h1 h2
          subst h1; subst h2
          exact ⟨addrL_lt ha, hc.1, hc.2⟩
        · cases h
  · cases h
theorem net_k (s : ByteArray) (r : Option (Nat × Nat)) (w : World) (hs : s.size ≤ 9223372036854775807) (h : Hid (netL s.data.toList = r)) :
    Calls Tryz.prog 56 #[.string s] w (fun e w' => e = .returned (netRes r) ∧ Keeps (fun _ => False) w w') :=
  (net_r s r w hs h).mono fun e w' ⟨he, m, hw⟩ => ⟨he, by rw [hw]; exact (Keeps.refl _ _).drewN _⟩

set_option maxRecDepth 100000 in
set_option maxHeartbeats 4000000 in
theorem ruMeet_any (A B : ByteArray) (z : Bool) (w : World) (ha : A.size ≤ 9223372036854775807) (hb : B.size ≤ 9223372036854775807) (hz : Hid (meetL A.data.toList B.data.toList = z)) :
    Calls Tryz.prog 110 #[.string A, .string B] w (fun e w' => e = .returned (.bool z) ∧ Keeps (fun _ => False) w w') := by
  obtain ⟨ra, hra⟩ : ∃ r, netL A.data.toList = r := ⟨_, rfl⟩
  obtain ⟨rb, hrb⟩ : ∃ r, netL B.data.toList = r := ⟨_, rfl⟩
  have hzz := hz.out
  unfold meetL at hzz
  rw [hra, hrb] at hzz
  have hra' := Lib.hid hra
  have hrb' := Lib.hid hrb
  clear hra hrb hz
  go_enter Tryz.func110, Tryz.ntmps110
  go_wp2_with fail
  refine (net_k A ra _ ha hra').mono ?_
  rintro e w1 ⟨rfl, k1⟩
  have hk1 := Lib.hid k1
  clear k1
  cases ra with
  | none =>
    have e1 : netRes none = .tuple #[.int .u32 0, .int .i64 0, .bool false] := rfl
    rw [e1]
    clear e1
    go_wp2_with fail
    refine (net_k B rb _ hb hrb').mono ?_
    rintro e w2 ⟨rfl, k2⟩
    have hk2 := Lib.hid (hk1.out.trans k2)
    clear k2
    obtain ⟨x, n, okb, hres, hn0, hn1⟩ : ∃ (x n : Int) (o : Bool), netRes rb = .tuple #[.int .u32 x, .int .i64 n, .bool o] ∧ 0 ≤ n ∧ n ≤ 32 := by
      cases rb with
      | none => exact ⟨_, _, _, rfl, by omega, by omega⟩
      | some p => obtain ⟨x, n⟩ := p; have := netL_in hrb'.out; exact ⟨_, _, _, rfl, by omega, by omega⟩
    rw [hres]
    have hM : min (0 : Int) n = 0 := by omega
    obtain rfl : z = false := hzz.symm
    clear hres hzz
    go_upto_region 4 with fail
    refine wp_region_noPanic ?_
    refine wp_region_held_drew (S := (fun W => Keeps (fun _ => False) w2 W)) (by kernel_rfl) (((Keeps.refl _ _).drew)) (fun hHeld => ?_)
    refine tk 0 rfl ?_
    refine tk 1 rfl ?_
    refine tkS 2 rfl ?_
    refine tk 3 rfl ?_
    refine tk 4 rfl ?_
    refine tkS 5 rfl ?_
    refine tkS 6 rfl ?_
    refine tkS 7 rfl ?_
    refine tkS 8 rfl ?_
    refine tkS 9 rfl ?_
    refine tkS 10 rfl ?_
    refine tkS 11 rfl ?_
    refine tk 12 rfl ?_
    refine tk 13 rfl ?_
    refine wpAnyH_done (by kernel_rfl) (NoPanic.normal ?_) _
    have hk3 := Lib.hid (hk2.out.trans hHeld)
    clear hHeld
    go_wp2_with fail
    go_ret
    exact ⟨rfl, hk3.out⟩
  | some pa =>
    obtain ⟨x, n⟩ := pa
    have hin := netL_in hra'.out
    have e1 : netRes (some (x, n)) = .tuple #[.int .u32 (x : Nat), .int .i64 (n : Nat), .bool true] := rfl
    rw [e1]
    clear e1
    go_wp2_with fail
    refine (net_k B rb _ hb hrb').mono ?_
    rintro e w2 ⟨rfl, k2⟩
    have hk2 := Lib.hid (hk1.out.trans k2)
    clear k2
    cases rb with
    | none =>
      have e1 : netRes none = .tuple #[.int .u32 0, .int .i64 0, .bool false] := rfl
      rw [e1]
      clear e1
      have hM : min (n : Int) 0 = 0 := by omega
      obtain rfl : z = false := hzz.symm
      clear hzz
      go_upto_region 4 with fail
      refine wp_region_noPanic ?_
      refine wp_region_held_drew (S := (fun W => Keeps (fun _ => False) w2 W)) (by kernel_rfl) (((Keeps.refl _ _).drew)) (fun hHeld => ?_)
      refine tk 0 rfl ?_
      refine tk 1 rfl ?_
      refine tk 2 rfl ?_
      refine tk 3 rfl ?_
      refine tk 4 rfl ?_
      refine tkS 5 rfl ?_
      refine tkS 6 rfl ?_
      refine tkS 7 rfl ?_
      refine tkS 8 rfl ?_
      refine tkS 9 rfl ?_
      refine tkS 10 rfl ?_
      refine tkS 11 rfl ?_
      refine tk 12 rfl ?_
      refine tk 13 rfl ?_
      refine wpAnyH_done (by kernel_rfl) (NoPanic.normal ?_) _
      have hk3 := Lib.hid (hk2.out.trans hHeld)
      clear hHeld
      go_wp2_with fail
      go_ret
      exact ⟨rfl, hk3.out⟩
    | some pb =>
      obtain ⟨y, m⟩ := pb
      have hin2 := netL_in hrb'.out
      have e1 : netRes (some (y, m)) = .tuple #[.int .u32 (y : Nat), .int .i64 (m : Nat), .bool true] := rfl
      rw [e1]
      clear e1
      obtain ⟨k, hk⟩ : ∃ k : Nat, 32 - min n m = k := ⟨_, rfl⟩
      obtain ⟨j, hj⟩ : ∃ j : Nat, (if m < n then (m : Int) else (n : Int)) = (j : Int) ∧ 32 - (j : Int) = (k : Int) := ⟨min n m, by split <;> omega, by omega⟩
      obtain ⟨hM, hK⟩ := hj
      have hKw : IntKind.i64.wrap (k : Int) = (k : Int) := IntWalk.i64_in _ (by omega)
      have hk0 : (0 : Int) ≤ (k : Int) := by omega
      simp only [hk] at hzz
      have e9 : ((x : Int) / 2 ^ k == (y : Int) / 2 ^ k) = z := by
        rw [← hzz]
        have h1 : ((x : Int) / 2 ^ k) = ((x / 2 ^ k : Nat) : Int) := by simp
        have h2 : ((y : Int) / 2 ^ k) = ((y / 2 ^ k : Nat) : Int) := by simp
        rw [h1, h2]
        by_cases e : x / 2 ^ k = y / 2 ^ k
        · rw [e]; simp
        · have e2 : ¬ ((x / 2 ^ k : Nat) : Int) = ((y / 2 ^ k : Nat) : Int) := by omega
          rw [decide_eq_false e]
          exact beq_eq_false_iff_ne.2 e2
      clear hk
      go_upto_region 4 with fail
      refine wp_region_noPanic ?_
      refine wp_region_held_drew (S := (fun W => Keeps (fun _ => False) w2 W)) (by kernel_rfl) (((Keeps.refl _ _).drew)) (fun hHeld => ?_)
      refine tk 0 rfl ?_
      refine tk 1 rfl ?_
      refine tk 2 rfl ?_
      refine tk 3 rfl ?_
      refine tk 4 rfl ?_
      refine tk 5 rfl ?_
      refine tk 6 rfl ?_
      refine tk 7 rfl ?_
      refine tk 8 rfl ?_
      refine tk 9 rfl ?_
      refine tk 10 rfl ?_
      refine tk 11 rfl ?_
      refine tk 12 rfl ?_
      refine tk 13 rfl ?_
      refine wpAnyH_done (by kernel_rfl) (NoPanic.normal ?_) _
      have hk3 := Lib.hid (hk2.out.trans hHeld)
      clear hHeld
      go_wp2_with fail
      go_ret
      exact ⟨rfl, hk3.out⟩
end Go.Proofs.YtialookpnoaogaaGreat
/- rules.overlaps: the closure, IndexFunc, ContainsFunc, walked. -/
set_option linter.unusedVariables false
set_option linter.unusedSimpArgs false
namespace Go.Proofs.YtialookpnoaogaaGreat
open Go.RowKit

theorem load_strsl (w : World) (b o : Nat) (v : Value) (h : w.cell? ⟨b, o, none⟩ = some v) : (loadVar 57 ⟨b, o, none⟩).run Tryz.prog w = .ok v w := by
  simp [go_sem, h]
/-- what the closure of round i sees -/
structure OvS (gA gB : Nat) (p : Option Addr) (c : Nat) (nets : List (List UInt8)) (i : Nat) (W : World) : Prop where
  a : W.cell? ⟨gA, 0, none⟩ = some (.slice p nets.length c)
  b : W.cell? ⟨gB, 0, none⟩ = some (.int .i64 i)
  s : StrsAt W (.slice p nets.length c) nets
theorem OvS.next {gA gB : Nat} {p : Option Addr} {c : Nat} {nets : List (List UInt8)} {i : Nat} {W W' : World} (h : OvS gA gB p c nets i W) (k : Keeps (fun _ => False) W W') : OvS gA gB p c nets i W' :=
  ⟨(k.cell (p := ⟨gA, 0, none⟩) (World.block_lt_of_cell? W _ h.a) id).trans h.a, (k.cell (p := ⟨gB, 0, none⟩) (World.block_lt_of_cell? W _ h.b) id).trans h.b, h.s.keep k (fun _ _ _ f => f)⟩

set_option maxRecDepth 100000 in
set_option maxHeartbeats 4000000 in
theorem ruOv1_any (X : ByteArray) (gA gB : Nat) (p : Option Addr) (c : Nat) (nets : List (List UInt8)) (i : Nat) (y : List UInt8) (z : Bool) (w : World) (hS : Hid (OvS gA gB p c nets i w)) (hy : Hid (nets[i]? = some y)) (hx : X.size ≤ 9223372036854775807) (hys : y.length ≤ 9223372036854775807) (hi : nets.length ≤ 64)
    (hz : Hid (meetL X.data.toList y = z)) :
    Calls Tryz.prog 109 #[.string X, .pointer (some ⟨gA, 0, none⟩), .pointer (some ⟨gB, 0, none⟩)] w (fun e w' => e = .returned (.bool z) ∧ Keeps (fun _ => False) w w') := by
  have hil : i < nets.length := (List.getElem?_eq_some_iff.1 hy.out).1
  obtain ⟨g, o, rfl, hc⟩ := strs_get hS.out.s hy.out
  obtain ⟨Y, hY⟩ : ∃ X : ByteArray, X = ⟨y.toArray⟩ := ⟨_, rfl⟩
  have c0 : w.cell? ⟨g, o + i, none⟩ = some (.string Y) := by rw [hY]; exact hc
  have hYs : Y.size ≤ 9223372036854775807 := by rw [hY]; exact hys
  have hz' : Hid (meetL X.data.toList Y.data.toList = z) := Lib.hid (by rw [hY]; exact hz.out)
  have ca := hS.out.a
  have cb := hS.out.b
  have m1 : (i : Int) < (nets.length : Int) := by omega
  have m2 : (0 : Int) ≤ (i : Int) := by omega
  clear hc hY hS hy hz
  go_enter Tryz.func109, Tryz.ntmps109
  go_wp2_with fail
  refine (ruMeet_any X Y z _ hx hYs hz').mono ?_
  rintro e w2 ⟨rfl, k2⟩
  have k2' := Lib.hid k2
  clear k2
  go_wp2_with fail
  go_ret
  exact ⟨rfl, k2'.out⟩

set_option maxRecDepth 100000 in
set_option maxHeartbeats 4000000 in
theorem ruIdx_any (v : Value) (xs : List (List UInt8)) (gA gB : Nat) (p : Option Addr) (c : Nat) (nets : List (List UInt8)) (i : Nat) (y : List UInt8) (w : World) (hv : Hid (StrsAt w v xs)) (hl : xs.length ≤ 64) (hxs : Hid (∀ x ∈ xs, x.length ≤ 9223372036854775807)) (hS : Hid (OvS gA gB p c nets i w)) (hy : Hid (nets[i]? = some y)) (hys : y.length ≤ 9223372036854775807) (hi : nets.length ≤ 64) :
    Calls Tryz.prog 133 #[v, .func (.func 109) #[] #[.pointer (some ⟨gA, 0, none⟩), .pointer (some ⟨gB, 0, none⟩)]] w (fun e w' => (∃ k : Int, e = .returned (.int .i64 k) ∧ Hid (decide (0 ≤ k) = xs.any (fun x => meetL x y))) ∧ Keeps (fun _ => False) w w') := by
  obtain ⟨q, d, rfl⟩ := strs_slice hv.out
  go_enter Tryz.func133, Tryz.ntmps133
  go_wp2_with fail
  go_loopw [8] (fun iv wr => ∃ (k : Nat), k ≤ xs.length ∧ iv = .int .i64 k ∧ Hid ((xs.take k).any (fun x => meetL x y) = false) ∧ Hid (Keeps (fun _ => False) w wr)) (fun iv _ => xs.length - (intOf iv).toNat)
  case atStart => exact ⟨0, by omega, rfl, Lib.hid (by simp), Lib.hid (Keeps.refl _ _)⟩
  case round =>
    obtain ⟨k, hk, rfl, hno, hK⟩ := hrel
    by_cases hlk : k < xs.length
    · obtain ⟨x, hx⟩ : ∃ x, xs[k]? = some x := ⟨_, List.getElem?_eq_getElem hlk⟩
      obtain ⟨g, o, rfl, hc⟩ := strs_get hv.out hx
      obtain ⟨X, hX⟩ : ∃ X : ByteArray, X = ⟨x.toArray⟩ := ⟨_, rfl⟩
      have c0 : wr.cell? ⟨g, o + k, none⟩ = some (.string X) := by rw [hX]; exact (hK.out.cell (p := ⟨g, o + k, none⟩) (World.block_lt_of_cell? w _ hc) id).trans hc
      have hXs : X.size ≤ 9223372036854775807 := by rw [hX]; exact hxs.out x (List.mem_of_getElem? hx)
      have m1 : (k : Int) < (xs.length : Int) := by omega
      have m2 : (0 : Int) ≤ (k : Int) := by omega
      obtain ⟨z, hz⟩ : ∃ z, meetL x y = z := ⟨_, rfl⟩
      have hz' : Hid (meetL X.data.toList y = z) := Lib.hid (by rw [hX]; exact hz)
      have hnext : Hid ((xs.take (k + 1)).any (fun x => meetL x y) = z) := Lib.hid (by rw [List.take_add_one, hx, List.any_append, hno.out]; simp [hz])
      have hSr := Lib.hid (hS.out.next hK.out)
      clear hc hX hx hz
      go_wp2_with fail
      refine (ruOv1_any X gA gB p c nets i y z _ hSr hy hXs hys hi hz').mono ?_
      rintro e w5 ⟨rfl, k5⟩
      have hK5 := Lib.hid (hK.out.trans k5)
      clear k5 hSr hK c0
      cases z with
      | true =>
        have hall : Hid (decide ((0 : Int) ≤ (k : Int)) = xs.any (fun x => meetL x y)) := Lib.hid (by
          have h1 : xs.any (fun x => meetL x y) = true := by
            have := hnext.out
            rw [List.any_eq_true] at this ⊢
            obtain ⟨a, ha, hb⟩ := this
            exact ⟨a, List.mem_of_mem_take ha, hb⟩
          rw [h1]; simp)
        go_wp2_with fail
        go_ret
        exact ⟨⟨_, rfl, hall⟩, hK5.out⟩
      | false =>
        go_wp2_with fail
        exact ⟨⟨k + 1, by omega, by go_num, hnext, hK5⟩, by simp [intOf]; omega⟩
    · obtain rfl : k = xs.length := by omega
      have hall : Hid (decide ((0 : Int) ≤ (-1 : Int)) = xs.any (fun x => meetL x y)) := Lib.hid (by
        have := hno.out
        rw [List.take_length] at this
        rw [this]; rfl)
      go_wp2_with fail
      go_ret
      exact ⟨⟨_, rfl, hall⟩, hK.out⟩
end Go.Proofs.YtialookpnoaogaaGreat
/- rules.router, unused, parted, overlaps, walked (gen_ruw.py). -/
set_option linter.unusedVariables false
set_option linter.unusedSimpArgs false
namespace Go.Proofs.YtialookpnoaogaaGreat
open Go.RowKit

theorem own_new' {w0 w : World} (h : w0.heap.size ≤ w.heap.size) (f : FaultD) : OwnR 185 2 fVals w0 (w.alloc (.cells (fVals f).toArray 185)) (.slice (some ⟨w.heap.size, 0, none⟩) 1 1) [f] := (own_new w f).older h
set_option maxRecDepth 100000 in
set_option maxHeartbeats 4000000 in
theorem ruRouter_any (v nv : Value) (ls : List LineD) (names : List (List UInt8)) (w : World) (hv : Hid (RowsAt 4 lineVals w v ls)) (hr : Hid (rightC ls = true)) (hn : Hid (StrsAt w nv names)) (hl : names.length ≤ 64) :
    Calls Tryz.prog 79 #[v, nv] w (FRes (routerC ls names) w) := by
  obtain ⟨p, c, rfl⟩ := strs_slice hn.out
  obtain ⟨V, hV⟩ : ∃ V : ByteArray, V = ⟨(valueR ls 0 [] routerW).toArray⟩ := ⟨_, rfl⟩
  have hV' : Hid (V = ⟨(valueR ls 0 (⟨#[]⟩ : ByteArray).data.toList (⟨#[114, 111, 117, 116, 101, 114, 45, 105, 100]⟩ : ByteArray).data.toList).toArray⟩) := Lib.hid hV
  have hVd : Hid (V.data.toList = valueR ls 0 [] routerW) := Lib.hid (by rw [hV])
  clear hV
  go_enter Tryz.func79, Tryz.ntmps79
  go_wp2_with fail
  refine (value_any _ ls 0 ⟨#[]⟩ ⟨#[114, 111, 117, 116, 101, 114, 45, 105, 100]⟩ V _ hv hr hV').mono ?_
  rintro e w2 ⟨rfl, k2⟩
  have k2' := Lib.hid k2
  clear k2 hV'
  have hb := ba_eqr V [48, 46, 48, 46, 48, 46, 48]
  by_cases h0 : 0 < names.length
  · have m : (0 : Int) < (names.length : Int) := by omega
    by_cases hv0 : V.data.toList = []
    · obtain ⟨e1, e2, e3⟩ := nil_yes hv0
      have hres : Hid (routerC ls names = [⟨1, []⟩]) := Lib.hid (by unfold routerC; rw [if_pos ⟨h0, .inl (by rw [← hVd.out]; exact hv0)⟩])
      clear hb hv0 h0
      go_wp2_with fail
      go_ret
      rw [hres.out]
      exact ⟨_, _, rfl, own_new' k2'.out.size ⟨1, []⟩, k2'.out.alloc _⟩
    · obtain ⟨e1, e2, e3⟩ := nil_no hv0
      by_cases hbn : V.data.toList = boneW
      · have e4 : (V.toList == [48, 46, 48, 46, 48, 46, 48]) = true := by rw [hb]; simp [hbn, boneW]
        have hres : Hid (routerC ls names = [⟨1, []⟩]) := Lib.hid (by unfold routerC; rw [if_pos ⟨h0, .inr (by rw [← hVd.out]; exact hbn)⟩])
        clear hb hv0 h0 hbn
        go_wp2_with fail
        go_ret
        rw [hres.out]
        exact ⟨_, _, rfl, own_new' k2'.out.size ⟨1, []⟩, k2'.out.alloc _⟩
      · have e4 : (V.toList == [48, 46, 48, 46, 48, 46, 48]) = false := by rw [hb]; exact decide_eq_false hbn
        have hres : Hid (routerC ls names = []) := Lib.hid (by unfold routerC; rw [if_neg (fun h => by rw [← hVd.out] at h; rcases h.2 with h | h; exact hv0 h; exact hbn h)])
        clear hb hv0 h0 hbn
        go_wp2_with fail
        go_ret
        rw [hres.out]
        exact ⟨none, 0, rfl, OwnR.nil _ _ k2'.out.size, k2'.out⟩
  · have m : ¬ (0 : Int) < (names.length : Int) := by omega
    have hres : Hid (routerC ls names = []) := Lib.hid (by unfold routerC; rw [if_neg (fun h => h0 h.1)])
    clear hb h0
    go_wp2_with fail
    go_ret
    rw [hres.out]
    exact ⟨none, 0, rfl, OwnR.nil _ _ k2'.out.size, k2'.out⟩

theorem unused_step {ls : List LineD} {areas : List (List UInt8)} {ns : List (List UInt8)} {k : Nat} {x : List UInt8} (hx : ns[k]? = some x) :
    (ns.take (k + 1)).flatMap (fun n => if areas.contains n = true then [] else [(⟨7, n⟩ : FaultD)]) = (ns.take k).flatMap (fun n => if areas.contains n = true then [] else [(⟨7, n⟩ : FaultD)]) ++ (if areas.contains x = true then [] else [⟨7, x⟩]) := by
  rw [List.take_add_one, hx]; simp
set_option maxRecDepth 100000 in
set_option maxHeartbeats 4000000 in
theorem ruUnused_any (v av : Value) (ls : List LineD) (areas : List (List UInt8)) (w : World) (hv : Hid (RowsAt 4 lineVals w v ls)) (hr : Hid (rightC ls = true)) (ha : Hid (StrsAt w av areas)) (hl : areas.length ≤ 64) :
    Calls Tryz.prog 84 #[v, av] w (FRes (unusedC ls areas) w) := by
  obtain ⟨i0, hi0, hi1, hi2, hi3⟩ := faultAll
  have hlen := right_len hr.out
  have hnl := namesA_len 1 ls
  go_enter Tryz.func84, Tryz.ntmps84
  go_wp2_with fail
  refine (names_all _ ls 1 _ hv hr).mono ?_
  rintro e w2 ⟨p, c, rfl, hS2, k2⟩
  obtain ⟨ns, hns⟩ : ∃ ns, namesA 1 ls = ns := ⟨_, rfl⟩
  rw [hns] at hS2 hnl ⊢
  have hun : Hid (unusedC ls areas = ns.flatMap (fun n => if areas.contains n = true then [] else [(⟨7, n⟩ : FaultD)])) := Lib.hid (by unfold unusedC; rw [hns])
  have hS := Lib.hid hS2
  have hA := Lib.hid (ha.out.keep k2 (fun _ _ _ f => f))
  have hk2 := Lib.hid k2
  clear k2 hS2 ha hv hns
  go_wp2_with fail
  go_loopw [11, 5] (fun iv ov wr => ∃ (k : Nat) (fs : List FaultD) (q : Option Addr) (d : Nat), k ≤ ns.length ∧ iv = .int .i64 k ∧ ov = .slice q fs.length d ∧ fs.length ≤ k ∧ Hid (fs = (ns.take k).flatMap (fun n => if areas.contains n = true then [] else [(⟨7, n⟩ : FaultD)])) ∧ Hid (OwnR 185 2 fVals w2 wr ov fs) ∧ Hid (Keeps (fun _ => False) w2 wr)) (fun iv _ _ => ns.length - (intOf iv).toNat)
  case atStart => exact ⟨0, [], none, 0, by omega, rfl, rfl, by simp, Lib.hid rfl, Lib.hid (OwnR.nil _ _ (Nat.le_refl _)), Lib.hid (Keeps.refl _ _)⟩
  case round =>
    obtain ⟨k, fs, q, d, hk, rfl, rfl, hfl, hfs, hO, hK⟩ := hrel
    by_cases hlk : k < ns.length
    · obtain ⟨x, hx⟩ : ∃ x, ns[k]? = some x := ⟨_, List.getElem?_eq_getElem hlk⟩
      obtain ⟨g, o, rfl, hc⟩ := strs_get hS.out hx
      obtain ⟨X, hX⟩ : ∃ X : ByteArray, X = ⟨x.toArray⟩ := ⟨_, rfl⟩
      have c0 : wr.cell? ⟨g, o + k, none⟩ = some (.string X) := by rw [hX]; exact (hK.out.cell (p := ⟨g, o + k, none⟩) (World.block_lt_of_cell? w2 _ hc) id).trans hc
      have hstep := Lib.hid (unused_step (ls := ls) (areas := areas) hx)
      rw [← hfs.out] at hstep
      have m1 : (k : Int) < (ns.length : Int) := by omega
      have m2 : (0 : Int) ≤ (k : Int) := by omega
      have hXd : Hid (X.data.toList = x) := Lib.hid (by rw [hX])
      have hAr := hA.out.keep hK.out (fun _ _ _ f => f)
      obtain ⟨z, hz⟩ : ∃ z, areas.contains x = z := ⟨_, rfl⟩
      have hz' : Hid (areas.contains X.data.toList = z) := Lib.hid (by rw [hXd.out]; exact hz)
      have hAr' := Lib.hid hAr
      rw [hz] at hstep
      clear hc hX hx hz hAr
      go_wp2_with fail
      refine (slicesContains_any _ areas X z _ hAr'.out (by omega) hz').mono ?_
      rintro e w5 ⟨rfl, rfl⟩
      clear hAr' hz'
      cases z with
      | true =>
        rw [if_pos rfl, List.append_nil] at hstep
        go_wp2_with fail
        exact ⟨⟨k + 1, fs, q, d, by omega, by go_num, rfl, by omega, Lib.hid hstep.out.symm, hO, hK⟩, by simp [intOf]; omega⟩
      | false =>
        rw [if_neg (by simp), ← hXd.out] at hstep
        go_wp2_with ((with_reducible refine at_slot 23 ?_); go_must (refine wpList_append_r rfl (.tmp 19) (.tmp 22) 112 185 rfl i0 _ 24 Tryz.underlying112 hi0 hi1 hi2 hi3 rfl (by decide) (by decide) fVals_len w2 _ fs.length fs rfl rfl (hO.out.keep ((Keeps.refl (fun _ => False) _).alloc _) (fun _ _ f => f)) _ rfl ⟨7, X.data.toList⟩ (cells_new rfl [.int .i64 (7), .string X] _) (fVals_one _) (by omega) ?_); intro q8 d8 w8 hO8 hg8)
        have hk9 := Lib.hid ((hO.out.keep ((Keeps.refl (fun _ => False) wr).alloc (.cells #[.int .i64 7, .string X] 185)) (fun _ _ f => f)).keeps (hK.out.alloc _) hg8.out)
        exact ⟨⟨k + 1, fs ++ [⟨7, X.data.toList⟩], q8, d8, by omega, by go_num, by simp, by simp; omega, Lib.hid hstep.out.symm, by simpa using hO8, hk9⟩, by simp [intOf]; omega⟩
    · obtain rfl : k = ns.length := by omega
      have hx2 := Lib.hid (hfs.out.trans (by rw [List.take_length]))
      clear hfs
      go_wp2_with fail
      go_ret
      refine ⟨q, d, ?_, ?_, hk2.out.trans hK.out⟩
      · rw [hun.out, ← hx2.out]; rfl
      · rw [hun.out, ← hx2.out]; exact hO.out.older hk2.out.size
end Go.Proofs.YtialookpnoaogaaGreat
/- rules.parted, overlaps, badDeads, backbones, walked (gen_rux.py). -/
set_option linter.unusedVariables false
set_option linter.unusedSimpArgs false
namespace Go.Proofs.YtialookpnoaogaaGreat
open Go.RowKit

def partL : List (List UInt8) → List UInt8 → Bool → Bool
  | [], _, sv => sv
  | a :: r, f, sv => if a = [] then partL r f sv else if a = boneW then false else partL r a (sv || (decide (f ≠ []) && decide (a ≠ f)))
def partedC (areas : List (List UInt8)) : Bool := partL areas [] false

set_option maxRecDepth 100000 in
set_option maxHeartbeats 8000000 in
theorem ruParted_any (av : Value) (areas : List (List UInt8)) (z : Bool) (w : World) (ha : Hid (StrsAt w av areas)) (hl : areas.length ≤ 64) (hz : Hid (partedC areas = z)) :
    Calls Tryz.prog 112 #[av] w (NewRes (.bool z) w) := by
  obtain ⟨p, c, rfl⟩ := strs_slice ha.out
  go_enter Tryz.func112, Tryz.ntmps112
  go_wp2_with fail
  go_loopw [9, 3, 4] (fun iv fv sv wr => ∃ (k : Nat) (Fs : ByteArray) (b : Bool), k ≤ areas.length ∧ iv = .int .i64 k ∧ fv = .string Fs ∧ sv = .bool b ∧ Hid (partL (areas.drop k) Fs.data.toList b = z) ∧ Hid (Keeps (fun _ => False) w wr)) (fun iv _ _ _ => areas.length - (intOf iv).toNat)
  case atStart => exact ⟨0, ⟨#[]⟩, false, by omega, rfl, rfl, rfl, hz, Lib.hid (Keeps.refl _ _)⟩
  case round =>
    obtain ⟨k, Fs, b, hk, rfl, rfl, rfl, hp, hK⟩ := hrel
    by_cases hlk : k < areas.length
    · obtain ⟨x, hx⟩ : ∃ x, areas[k]? = some x := ⟨_, List.getElem?_eq_getElem hlk⟩
      obtain ⟨g, o, rfl, hc⟩ := strs_get ha.out hx
      obtain ⟨X, hX⟩ : ∃ X : ByteArray, X = ⟨x.toArray⟩ := ⟨_, rfl⟩
      have c0 : wr.cell? ⟨g, o + k, none⟩ = some (.string X) := by rw [hX]; exact (hK.out.cell (p := ⟨g, o + k, none⟩) (World.block_lt_of_cell? w _ hc) id).trans hc
      have m1 : (k : Int) < (areas.length : Int) := by omega
      have m2 : (0 : Int) ≤ (k : Int) := by omega
      have hXd : Hid (X.data.toList = x) := Lib.hid (by rw [hX])
      have hstep : Hid ((if x = [] then partL (areas.drop (k + 1)) Fs.data.toList b else if x = boneW then false else partL (areas.drop (k + 1)) x (b || (decide (Fs.data.toList ≠ []) && decide (x ≠ Fs.data.toList)))) = z) := Lib.hid (by
        have h1 := hp.out
        rw [List.drop_eq_getElem_cons hlk] at h1
        have h2 : areas[k] = x := by
          have := List.getElem?_eq_getElem hlk
          rw [this] at hx; injection hx
        rw [h2] at h1
        exact h1)
      clear hc hX hx hp
      by_cases hx0 : x = []
      · obtain ⟨e1, e2, e3⟩ := nil_yes (hXd.out.trans hx0)
        rw [if_pos hx0] at hstep
        clear hx0
        go_wp2_with fail
        exact ⟨⟨k + 1, Fs, b, by omega, by go_num, rfl, rfl, hstep, hK⟩, by simp [intOf]; omega⟩
      · obtain ⟨e1, e2, e3⟩ := nil_no (a := X) (by rw [hXd.out]; exact hx0)
        rw [if_neg hx0] at hstep
        have hb := ba_eqr X [48, 46, 48, 46, 48, 46, 48]
        by_cases hbn : x = boneW
        · have e4 : (X.toList == [48, 46, 48, 46, 48, 46, 48]) = true := by rw [hb, hXd.out]; simp [hbn, boneW]
          rw [if_pos hbn] at hstep
          clear hb hx0 hbn
          go_wp2_with fail
          go_ret
          exact ⟨by rw [← hstep.out]; rfl, hK.out⟩
        · have e4 : (X.toList == [48, 46, 48, 46, 48, 46, 48]) = false := by rw [hb, hXd.out]; exact decide_eq_false hbn
          rw [if_neg hbn] at hstep
          clear hb hx0 hbn
          cases b with
          | true =>
            rw [Bool.true_or, ← hXd.out] at hstep
            go_wp2_with fail
            exact ⟨⟨k + 1, X, true, by omega, by go_num, rfl, rfl, hstep, hK⟩, by simp [intOf]; omega⟩
          | false =>
            rw [Bool.false_or] at hstep
            by_cases hf0 : Fs.data.toList = []
            · obtain ⟨f1, f2, f3⟩ := nil_yes hf0
              have hd : (decide (Fs.data.toList ≠ []) && decide (x ≠ Fs.data.toList)) = false := by simp [hf0]
              rw [hd, ← hXd.out] at hstep
              clear hd hf0
              go_wp2_with fail
              exact ⟨⟨k + 1, X, false, by omega, by go_num, rfl, rfl, hstep, hK⟩, by simp [intOf]; omega⟩
            · obtain ⟨f1, f2, f3⟩ := nil_no hf0
              by_cases hxf : X.data.toList = Fs.data.toList
              · have g1 : (X.toList == Fs.toList) = true := by rw [Lib.toList_data, Lib.toList_data]; simpa using hxf
                have hd : (decide (Fs.data.toList ≠ []) && decide (x ≠ Fs.data.toList)) = false := by rw [← hXd.out]; simp [hxf]
                rw [hd, ← hXd.out] at hstep
                clear hd hf0 hxf
                go_wp2_with fail
                exact ⟨⟨k + 1, X, false, by omega, by go_num, rfl, rfl, hstep, hK⟩, by simp [intOf]; omega⟩
              · have g1 : (X.toList == Fs.toList) = false := by rw [Lib.toList_data, Lib.toList_data]; simpa using hxf
                have hd : (decide (Fs.data.toList ≠ []) && decide (x ≠ Fs.data.toList)) = true := by rw [← hXd.out]; simp [hxf, hf0]
                rw [hd, ← hXd.out] at hstep
                clear hd hf0 hxf
                go_wp2_with fail
                exact ⟨⟨k + 1, X, true, by omega, by go_num, rfl, rfl, hstep, hK⟩, by simp [intOf]; omega⟩
    · obtain rfl : k = areas.length := by omega
      have hzz : Hid (b = z) := Lib.hid (by have h1 := hp.out; rw [List.drop_of_length_le (Nat.le_refl _)] at h1; exact h1)
      clear hp
      go_wp2_with fail
      go_ret
      exact ⟨by rw [hzz.out]; rfl, hK.out⟩

/-! the row's number of a leaf's text -/
def decV (s : List UInt8) : Int := match decL s with | some n => (n : Int) | none => 0
def badC (names deads hellos : List (List UInt8)) : List FaultD := (names.zip (deads.zip hellos)).flatMap (fun p => if decV p.2.1 ≤ decV p.2.2 then [⟨5, p.1⟩] else [])
theorem zip_take' {α β : Type} (xs : List α) (ys : List β) (k : Nat) : (xs.zip ys).take k = (xs.take k).zip (ys.take k) := (zip_take xs ys k).symm
theorem bad_step {names deads hellos : List (List UInt8)} {k : Nat} {x y u : List UInt8} (hx : names[k]? = some x) (hy : deads[k]? = some y) (hu : hellos[k]? = some u) :
    badC (names.take (k + 1)) (deads.take (k + 1)) (hellos.take (k + 1)) = badC (names.take k) (deads.take k) (hellos.take k) ++ (if decV y ≤ decV u then [⟨5, x⟩] else []) := by
  unfold badC
  have hz : (names.zip (deads.zip hellos))[k]? = some (x, (y, u)) := by
    rw [List.getElem?_zip_eq_some]; refine ⟨hx, ?_⟩
    rw [List.getElem?_zip_eq_some]; exact ⟨hy, hu⟩
  rw [zip_take, zip_take, zip_take, zip_take, List.take_add_one, hz]
  simp
theorem dec_k (s : ByteArray) (n : Int) (w : World) (hn : Hid (decV s.data.toList = n)) :
    Calls Tryz.prog 55 #[.string s] w (fun e w' => (∃ b : Bool, e = .returned (.tuple #[.int .i64 n, .bool b])) ∧ w = w') := by
  have h1 := hn.out
  unfold decV at h1
  cases hd : decL s.data.toList with
  | none =>
    rw [hd] at h1
    simp only at h1
    refine (dec_r s none w (Lib.hid hd)).mono ?_
    rintro e w' ⟨rfl, rfl⟩
    exact ⟨⟨false, by rw [← h1]; rfl⟩, rfl⟩
  | some m =>
    rw [hd] at h1
    simp only at h1
    refine (dec_r s (some m) w (Lib.hid hd)).mono ?_
    rintro e w' ⟨rfl, rfl⟩
    exact ⟨⟨true, by rw [← h1]; rfl⟩, rfl⟩
end Go.Proofs.YtialookpnoaogaaGreat
/- rules.badDeads, overlaps, backbones, walked (gen_ruy.py). -/
set_option linter.unusedVariables false
set_option linter.unusedSimpArgs false
namespace Go.Proofs.YtialookpnoaogaaGreat
open Go.RowKit

def deadW : List UInt8 := [100, 101, 97, 100]
def helloW : List UInt8 := [104, 101, 108, 108, 111]
def overStep (names nets : List (List UInt8)) (i : Nat) : List FaultD := if (nets.take i).any (fun x => meetL x (nets.getD i [])) = true then [⟨4, names.getD i []⟩] else []
def overlapsC (names nets : List (List UInt8)) : List FaultD := (List.range names.length).flatMap (overStep names nets)
theorem valuesC_len (ls : List LineD) (names : List (List UInt8)) (leaf : List UInt8) : (valuesC ls names leaf).length = names.length := by unfold valuesC; simp

set_option maxRecDepth 100000 in
set_option maxHeartbeats 8000000 in
theorem ruBad_any (v nv : Value) (ls : List LineD) (names : List (List UInt8)) (w : World) (hv : Hid (RowsAt 4 lineVals w v ls)) (hr : Hid (rightC ls = true)) (hn : Hid (StrsAt w nv names)) (hl : names.length ≤ 64) :
    Calls Tryz.prog 82 #[v, nv] w (FRes (badC names (valuesC ls names deadW) (valuesC ls names helloW)) w) := by
  obtain ⟨i0, hi0, hi1, hi2, hi3⟩ := faultAll
  obtain ⟨p, c, rfl⟩ := strs_slice hn.out
  go_enter Tryz.func82, Tryz.ntmps82
  go_wp2_with fail
  refine (ruValues_any _ _ ls names ⟨#[100, 101, 97, 100]⟩ _ hv hr hn hl).mono ?_
  rintro e w2 ⟨pd, cd, rfl, hO2, k2⟩
  have hD2 := Lib.hid (rows_strs (hO2.at nv1_len))
  have hv2 := Lib.hid (hv.out.keep k2)
  have hn2 := Lib.hid (hn.out.keep k2 (fun _ _ _ f => f))
  have hk2 := Lib.hid k2
  clear k2 hO2 hv hn
  go_wp2_with fail
  refine (ruValues_any _ _ ls names ⟨#[104, 101, 108, 108, 111]⟩ _ hv2 hr hn2 hl).mono ?_
  rintro e w3 ⟨pe, ce, rfl, hO3, k3⟩
  have hE3 := Lib.hid (rows_strs (hO3.at nv1_len))
  have hD3 := Lib.hid (hD2.out.keep k3 (fun _ _ _ f => f))
  have hn3 := Lib.hid (hn2.out.keep k3 (fun _ _ _ f => f))
  have hk3 := Lib.hid (hk2.out.trans k3)
  clear k3 hO3 hv2 hn2 hD2 hk2
  obtain ⟨ds, hds⟩ : ∃ ds, valuesC ls names deadW = ds := ⟨_, rfl⟩
  obtain ⟨es, hes⟩ : ∃ ds, valuesC ls names helloW = ds := ⟨_, rfl⟩
  have hdl : Hid (ds.length = names.length) := Lib.hid (by rw [← hds]; exact valuesC_len _ _ _)
  have hel : Hid (es.length = names.length) := Lib.hid (by rw [← hes]; exact valuesC_len _ _ _)
  have hEq : Hid (badC names (valuesC ls names deadW) (valuesC ls names helloW) = badC names ds es) := Lib.hid (by rw [hds, hes])
  rw [show valuesC ls names (⟨#[100, 101, 97, 100]⟩ : ByteArray).data.toList = ds from hds] at hD3 ⊢
  rw [show valuesC ls names (⟨#[104, 101, 108, 108, 111]⟩ : ByteArray).data.toList = es from hes] at hE3 ⊢
  clear hds hes
  go_wp2_with fail
  go_loopw [22, 7] (fun iv ov wr => ∃ (k : Nat) (fs : List FaultD) (q : Option Addr) (d : Nat), k ≤ names.length ∧ iv = .int .i64 k ∧ ov = .slice q fs.length d ∧ fs.length ≤ k ∧ Hid (fs = badC (names.take k) (ds.take k) (es.take k)) ∧ Hid (OwnR 185 2 fVals w3 wr ov fs) ∧ Hid (Keeps (fun _ => False) w3 wr)) (fun iv _ _ => names.length - (intOf iv).toNat)
  case atStart => exact ⟨0, [], none, 0, by omega, rfl, rfl, by simp, Lib.hid rfl, Lib.hid (OwnR.nil _ _ (Nat.le_refl _)), Lib.hid (Keeps.refl _ _)⟩
  case round =>
    obtain ⟨k, fs, q, d, hk, rfl, rfl, hfl, hfs, hO, hK⟩ := hrel
    by_cases hlk : k < names.length
    · have hkd : k < ds.length := by rw [hdl.out]; exact hlk
      have hke : k < es.length := by rw [hel.out]; exact hlk
      obtain ⟨x, hx⟩ : ∃ x, names[k]? = some x := ⟨_, List.getElem?_eq_getElem hlk⟩
      obtain ⟨y, hy⟩ : ∃ x, ds[k]? = some x := ⟨_, List.getElem?_eq_getElem hkd⟩
      obtain ⟨u, hu⟩ : ∃ x, es[k]? = some x := ⟨_, List.getElem?_eq_getElem hke⟩
      obtain ⟨g, o, rfl, hc⟩ := strs_get hn3.out hx
      obtain ⟨g2, o2, rfl, hc2⟩ := strs_get hD3.out hy
      obtain ⟨g3, o3, rfl, hc3⟩ := strs_get hE3.out hu
      obtain ⟨X, hX⟩ : ∃ X : ByteArray, X = ⟨x.toArray⟩ := ⟨_, rfl⟩
      obtain ⟨Y, hY⟩ : ∃ X : ByteArray, X = ⟨y.toArray⟩ := ⟨_, rfl⟩
      obtain ⟨Z, hZ⟩ : ∃ X : ByteArray, X = ⟨u.toArray⟩ := ⟨_, rfl⟩
      have c0 : wr.cell? ⟨g, o + k, none⟩ = some (.string X) := by rw [hX]; exact (hK.out.cell (p := ⟨g, o + k, none⟩) (World.block_lt_of_cell? w3 _ hc) id).trans hc
      have c1 : wr.cell? ⟨g2, o2 + k, none⟩ = some (.string Y) := by rw [hY]; exact (hK.out.cell (p := ⟨g2, o2 + k, none⟩) (World.block_lt_of_cell? w3 _ hc2) id).trans hc2
      have c2 : wr.cell? ⟨g3, o3 + k, none⟩ = some (.string Z) := by rw [hZ]; exact (hK.out.cell (p := ⟨g3, o3 + k, none⟩) (World.block_lt_of_cell? w3 _ hc3) id).trans hc3
      have hstep := Lib.hid (bad_step hx hy hu)
      rw [← hfs.out] at hstep
      have m1 : (k : Int) < (names.length : Int) := by omega
      have m2 : (0 : Int) ≤ (k : Int) := by omega
      have m3 : (k : Int) < (ds.length : Int) := by omega
      have m4 : (k : Int) < (es.length : Int) := by omega
      obtain ⟨a, ha⟩ : ∃ a, decV y = a := ⟨_, rfl⟩
      obtain ⟨b, hb⟩ : ∃ a, decV u = a := ⟨_, rfl⟩
      have ha' : Hid (decV Y.data.toList = a) := Lib.hid (by rw [hY]; exact ha)
      have hb' : Hid (decV Z.data.toList = b) := Lib.hid (by rw [hZ]; exact hb)
      have hXd : Hid (X.data.toList = x) := Lib.hid (by rw [hX])
      rw [ha, hb] at hstep
      clear hc hc2 hc3 hX hY hZ hx hy hu ha hb
      go_wp2_with fail
      refine (dec_k Y a _ ha').mono ?_
      rintro e wy ⟨⟨b1, rfl⟩, rfl⟩
      go_wp2_with fail
      refine (dec_k Z b _ hb').mono ?_
      rintro e wy ⟨⟨b2, rfl⟩, rfl⟩
      by_cases hab : a ≤ b
      · rw [if_pos hab, ← hXd.out] at hstep
        go_wp2_with ((with_reducible refine at_slot 50 ?_); go_must (refine wpList_append_r rfl (.tmp 46) (.tmp 49) 112 185 rfl i0 _ 24 Tryz.underlying112 hi0 hi1 hi2 hi3 rfl (by decide) (by decide) fVals_len w3 _ fs.length fs rfl rfl (hO.out.keep ((Keeps.refl (fun _ => False) _).alloc _) (fun _ _ f => f)) _ rfl ⟨5, X.data.toList⟩ (cells_new rfl [.int .i64 (5), .string X] _) (fVals_one _) (by omega) ?_); intro q8 d8 w8 hO8 hg8)
        have hk9 := Lib.hid ((hO.out.keep ((Keeps.refl (fun _ => False) wr).alloc (.cells #[.int .i64 5, .string X] 185)) (fun _ _ f => f)).keeps (hK.out.alloc _) hg8.out)
        exact ⟨⟨k + 1, fs ++ [⟨5, X.data.toList⟩], q8, d8, by omega, by go_num, by simp, by simp; omega, Lib.hid hstep.out.symm, by simpa using hO8, hk9⟩, by simp [intOf]; omega⟩
      · rw [if_neg hab, List.append_nil] at hstep
        go_wp2_with fail
        exact ⟨⟨k + 1, fs, q, d, by omega, by go_num, rfl, by omega, Lib.hid hstep.out.symm, hO, hK⟩, by simp [intOf]; omega⟩
    · obtain rfl : k = names.length := by omega
      have hx2 := Lib.hid (hfs.out.trans (by rw [List.take_length, List.take_of_length_le (by rw [hdl.out]; exact Nat.le_refl _), List.take_of_length_le (by rw [hel.out]; exact Nat.le_refl _)]))
      clear hfs
      go_wp2_with fail
      go_ret
      refine ⟨q, d, ?_, ?_, hk3.out.trans hK.out⟩
      · rw [hEq.out, ← hx2.out]; rfl
      · rw [hEq.out, ← hx2.out]; exact hO.out.older hk3.out.size

def normalW : List UInt8 := [110, 111, 114, 109, 97, 108]
def typeW : List UInt8 := [116, 121, 112, 101]
def backC (ls : List LineD) (areas : List (List UInt8)) : List FaultD := (if partedC areas = true then [⟨6, []⟩] else []) ++ (if valueR ls 1 boneW typeW = normalW then [] else [⟨6, boneW⟩])
set_option maxRecDepth 100000 in
set_option maxHeartbeats 8000000 in
theorem ruBack_any (v av : Value) (ls : List LineD) (areas : List (List UInt8)) (w : World) (hv : Hid (RowsAt 4 lineVals w v ls)) (hr : Hid (rightC ls = true)) (ha : Hid (StrsAt w av areas)) (hl : areas.length ≤ 64) :
    Calls Tryz.prog 83 #[v, av] w (FRes (backC ls areas) w) := by
  obtain ⟨i0, hi0, hi1, hi2, hi3⟩ := faultAll
  obtain ⟨V, hV⟩ : ∃ V : ByteArray, V = ⟨(valueR ls 1 boneW typeW).toArray⟩ := ⟨_, rfl⟩
  have hV' : Hid (V = ⟨(valueR ls 1 (⟨#[48, 46, 48, 46, 48, 46, 48]⟩ : ByteArray).data.toList (⟨#[116, 121, 112, 101]⟩ : ByteArray).data.toList).toArray⟩) := Lib.hid hV
  have hVd : Hid (V.data.toList = valueR ls 1 boneW typeW) := Lib.hid (by rw [hV])
  clear hV
  obtain ⟨z, hz⟩ : ∃ z, partedC areas = z := ⟨_, rfl⟩
  have hz' := Lib.hid hz
  clear hz
  go_enter Tryz.func83, Tryz.ntmps83
  go_wp2_with fail
  refine (ruParted_any _ areas z _ ha hl hz').mono ?_
  rintro e w2 ⟨rfl, k2⟩
  have hk2 := Lib.hid k2
  clear k2 ha
  have hb := ba_eqr V [110, 111, 114, 109, 97, 108]
  go_upto_if 7 with fail
  go_cut [5] (fun ov wx => (∃ (fs : List FaultD) (q : Option Addr) (d : Nat), ov = .slice q fs.length d ∧ fs.length ≤ 1 ∧ Hid (fs = if z = true then [⟨6, []⟩] else []) ∧ Hid (OwnR 185 2 fVals w wx ov fs)) ∧ Hid (Keeps (fun _ => False) w wx))
  case first =>
    cases z with
    | false =>
      go_wp2_with fail
      go_meet
      case rel => exact ⟨⟨[], none, 0, rfl, by simp, Lib.hid rfl, Lib.hid (OwnR.nil _ _ hk2.out.size)⟩, hk2⟩
    | true =>
      have hO0 := Lib.hid (OwnR.nil (t := 185) (sz := 2) (cv := fVals) w w2 hk2.out.size)
      go_wp2_with ((with_reducible refine at_slot 11 ?_); go_must (refine wpList_append_r rfl (.tmp 8) (.tmp 10) 112 185 rfl i0 _ 24 Tryz.underlying112 hi0 hi1 hi2 hi3 rfl (by decide) (by decide) fVals_len w _ 0 ([] : List FaultD) rfl rfl (hO0.out.keep ((Keeps.refl (fun _ => False) _).alloc _) (fun _ _ f => f)) _ rfl ⟨6, []⟩ (cells_new rfl [.int .i64 (6), .string ⟨#[]⟩] _) (fVals_one _) (by omega) ?_); intro q8 d8 w8 hO8 hg8)
      have hk9 := Lib.hid ((hO0.out.keep ((Keeps.refl (fun _ => False) w2).alloc (.cells #[.int .i64 6, .string ⟨#[]⟩] 185)) (fun _ _ f => f)).keeps (hk2.out.alloc _) hg8.out)
      go_meet
      case rel => exact ⟨⟨[⟨6, []⟩], q8, d8, by simp, by simp, Lib.hid rfl, by simpa using hO8⟩, hk9⟩
  case rest =>
    obtain ⟨⟨fs, q, d, rfl, hfl, hfs, hO⟩, hk⟩ := hcut
    have hvc := Lib.hid (hv.out.keep hk.out)
    have hres : Hid (backC ls areas = fs ++ (if valueR ls 1 boneW typeW = normalW then [] else [⟨6, boneW⟩])) := Lib.hid (by unfold backC; rw [hz'.out, ← hfs.out])
    go_wp2_with fail
    refine (value_any _ ls 1 ⟨#[48, 46, 48, 46, 48, 46, 48]⟩ ⟨#[116, 121, 112, 101]⟩ V _ hvc hr hV').mono ?_
    rintro e w5 ⟨rfl, k5⟩
    have hk5 := Lib.hid (hk.out.trans k5)
    have hO5 := Lib.hid (hO.out.keep k5 (fun _ _ f => f))
    clear k5 hvc hO hk hfs
    by_cases hvn : V.data.toList = normalW
    · have e4 : (V.toList == [110, 111, 114, 109, 97, 108]) = true := by rw [hb]; simp [hvn, normalW]
      have hres2 : Hid (backC ls areas = fs) := Lib.hid (by rw [hres.out, if_pos (by rw [← hVd.out]; exact hvn), List.append_nil])
      clear hb hvn
      go_wp2_with fail
      go_ret
      rw [hres2.out]
      exact ⟨q, d, rfl, hO5.out, hk5.out⟩
    · have e4 : (V.toList == [110, 111, 114, 109, 97, 108]) = false := by rw [hb]; exact decide_eq_false hvn
      have hres2 : Hid (backC ls areas = fs ++ [⟨6, boneW⟩]) := Lib.hid (by rw [hres.out, if_neg (by rw [← hVd.out]; exact hvn)])
      clear hb hvn
      go_wp2_with ((with_reducible refine at_slot 18 ?_); go_must (refine wpList_append_r rfl (.tmp 15) (.tmp 17) 112 185 rfl i0 _ 24 Tryz.underlying112 hi0 hi1 hi2 hi3 rfl (by decide) (by decide) fVals_len w _ fs.length fs rfl rfl (hO5.out.keep ((Keeps.refl (fun _ => False) _).alloc _) (fun _ _ f => f)) _ rfl ⟨6, boneW⟩ (cells_new rfl [.int .i64 (6), .string ⟨#[48, 46, 48, 46, 48, 46, 48]⟩] _) (fVals_one _) (by omega) ?_); intro q8 d8 w8 hO8 hg8)
      have hk9 := Lib.hid ((hO5.out.keep ((Keeps.refl (fun _ => False) w5).alloc (.cells #[.int .i64 6, .string ⟨#[48, 46, 48, 46, 48, 46, 48]⟩] 185)) (fun _ _ f => f)).keeps (hk5.out.alloc _) hg8.out)
      go_ret
      rw [hres2.out]
      exact ⟨q8, d8, by simp, by simpa using hO8.out, hk9.out⟩
end Go.Proofs.YtialookpnoaogaaGreat
