/- rules.overlaps, walked. -/
import Derived.Test.YtialookpnoaogaaGreatAA13
import Derived.Test.YtialookpnoaogaaGreatAA08
import Derived.Test.YtialookpnoaogaaGreatAA03
import Derived.Laws.EntriesVeiled
import Derived.Shelf.Strings.Builder1
import Derived.Test.YtialookpnoaogaaGreatAA11
import Derived.Laws.ResultCell
set_option linter.unusedVariables false
set_option linter.unusedSimpArgs false
set_option linter.unusedVariables false
set_option linter.unusedSimpArgs false
namespace Go.Proofs.YtialookpnoaogaaGreat
open Go.RowKit

set_option maxRecDepth 100000 in
set_option maxHeartbeats 4000000 in
theorem ruHas_any (v : Value) (xs : List (List UInt8)) (gA gB : Nat) (p : Option Addr) (c : Nat) (nets : List (List UInt8)) (i : Nat) (y : List UInt8) (z : Bool) (w : World) (hv : Hid (StrsAt w v xs)) (hl : xs.length ≤ 64) (hxs : Hid (∀ x ∈ xs, x.length ≤ 9223372036854775807)) (hS : Hid (OvS gA gB p c nets i w)) (hy : Hid (nets[i]? = some y)) (hys : y.length ≤ 9223372036854775807) (hi : nets.length ≤ 64)
    (hz : Hid (xs.any (fun x => meetL x y) = z)) :
    Calls Tryz.prog 111 #[v, .func (.func 109) #[] #[.pointer (some ⟨gA, 0, none⟩), .pointer (some ⟨gB, 0, none⟩)]] w (NewRes (.bool z) w) := by
  go_enter Tryz.func111, Tryz.ntmps111
  go_wp2_with fail
  refine (ruIdx_any v xs gA gB p c nets i y _ hv hl hxs hS hy hys hi).mono ?_
  rintro e w2 ⟨⟨k, rfl, hk⟩, k2⟩
  have k2' := Lib.hid k2
  have hkz := hk.out.trans hz.out
  clear k2 hk hz hv hxs hS hy
  have hkz' := Lib.hid hkz
  clear hkz
  go_wp2_with fail
  go_ret
  exact ⟨by show Ending.returned (.bool (decide (0 ≤ k))) = _; rw [hkz'.out], k2'.out⟩

theorem over_next {names nets : List (List UInt8)} {k : Nat} : (List.range (k + 1)).flatMap (overStep names nets) = (List.range k).flatMap (overStep names nets) ++ overStep names nets k := by
  rw [List.range_succ, List.flatMap_append]; simp
set_option maxRecDepth 100000 in
set_option maxHeartbeats 8000000 in
theorem ruOver_any (nv vv : Value) (names nets : List (List UInt8)) (w : World) (hn : Hid (StrsAt w nv names)) (hv : Hid (RowsAt 1 nv1 w vv nets)) (hle : Hid (nets.length = names.length)) (hl : names.length ≤ 64) (hsm : Hid (∀ x ∈ nets, x.length ≤ 9223372036854775807)) :
    Calls Tryz.prog 81 #[nv, vv] w (FRes (overlapsC names nets) w) := by
  obtain ⟨i0, hi0, hi1, hi2, hi3⟩ := faultAll
  obtain ⟨p, c, rfl⟩ := strs_slice hn.out
  obtain ⟨p2, c2, rfl, -, hcap2, -⟩ := hv.out
  have hnl : nets.length ≤ 64 := by rw [hle.out]; exact hl
  have hA0 : Hid ((w.alloc (.cells #[.slice p2 nets.length c2] 57)).cell? ⟨w.heap.size, 0, none⟩ = some (.slice p2 nets.length c2)) := Lib.hid ((BlkAt.new w 57 [.slice p2 nets.length c2]).cell 0 _ rfl)
  have hk0 : Hid (Keeps (fun _ => False) w (w.alloc (.cells #[.slice p2 nets.length c2] 57))) := Lib.hid ((Keeps.refl _ _).alloc _)
  go_enter Tryz.func81, Tryz.ntmps81
  go_upto_region 1 with fail
  generalize w.alloc (.cells #[.slice p2 nets.length c2] 57) = W0 at hA0 hk0 ⊢
  generalize w.heap.size = gA at hA0 ⊢
  go_wp2_with fail
  go_loopw [11, 5] (fun iv ov wr => ∃ (k : Nat) (fs : List FaultD) (q : Option Addr) (d : Nat), k ≤ names.length ∧ iv = .int .i64 k ∧ ov = .slice q fs.length d ∧ fs.length ≤ k ∧ Hid (fs = (List.range k).flatMap (overStep names nets)) ∧ Hid (OwnR 185 2 fVals W0 wr ov fs) ∧ Hid (Keeps (fun _ => False) W0 wr)) (fun iv _ _ => names.length - (intOf iv).toNat)
  case atStart => exact ⟨0, [], none, 0, by omega, rfl, rfl, by simp, Lib.hid rfl, Lib.hid (OwnR.nil _ _ (Nat.le_refl _)), Lib.hid (Keeps.refl _ _)⟩
  case round =>
    obtain ⟨k, fs, q, d, hk, rfl, rfl, hfl, hfs, hO, hK⟩ := hrel
    by_cases hlk : k < names.length
    · have hkv : k < nets.length := by rw [hle.out]; exact hlk
      obtain ⟨x, hx⟩ : ∃ x, names[k]? = some x := ⟨_, List.getElem?_eq_getElem hlk⟩
      obtain ⟨y, hy⟩ : ∃ x, nets[k]? = some x := ⟨_, List.getElem?_eq_getElem hkv⟩
      obtain ⟨g, o, rfl, hc⟩ := strs_get hn.out hx
      obtain ⟨X, hX⟩ : ∃ X : ByteArray, X = ⟨x.toArray⟩ := ⟨_, rfl⟩
      have hwr := hk0.out.trans hK.out
      have c0 : wr.cell? ⟨g, o + k, none⟩ = some (.string X) := by rw [hX]; exact (hwr.cell (p := ⟨g, o + k, none⟩) (World.block_lt_of_cell? w _ hc) id).trans hc
      have hXd : Hid (X.data.toList = x) := Lib.hid (by rw [hX])
      have m1 : (k : Int) < (names.length : Int) := by omega
      have m2 : (0 : Int) ≤ (k : Int) := by omega
      have m3 : (k : Int) ≤ (c2 : Int) := by omega
      have hgA : Hid (wr.cell? ⟨gA, 0, none⟩ = some (.slice p2 nets.length c2)) := Lib.hid ((hK.out.cell (p := ⟨gA, 0, none⟩) (World.block_lt_of_cell? W0 _ hA0.out) id).trans hA0.out)
      have hvr := Lib.hid (hv.out.keep hwr)
      have hy' := Lib.hid hy
      have hx' := Lib.hid hx
      have hwr' := Lib.hid hwr
      clear hc hX hx hy hwr
      go_upto_region 5 with fail
      have ka : Keeps (fun _ => False) wr (wr.alloc (.cells #[.int .i64 k] 3)) := (Keeps.refl _ _).alloc _
      have hS5 : Hid (OvS gA wr.heap.size p2 c2 nets k (wr.alloc (.cells #[.int .i64 k] 3))) := Lib.hid
        ⟨(ka.cell (p := ⟨gA, 0, none⟩) (World.block_lt_of_cell? wr _ hgA.out) id).trans hgA.out, (BlkAt.new wr 3 [.int .i64 k]).cell 0 _ rfl, rows_strs (hvr.out.keep ka)⟩
      have hT5 : Hid (StrsAt (wr.alloc (.cells #[.int .i64 k] 3)) (.slice p2 k c2) (nets.take k)) := Lib.hid (rows_strs ((hvr.out.keep ka).take k (by omega)))
      have hO5 := Lib.hid (hO.out.keep ka (fun _ _ f => f))
      have hK5 := Lib.hid (hK.out.trans ka)
      clear ka hgA hvr hO hK c0
      generalize wr.alloc (.cells #[.int .i64 k] 3) = W5 at hS5 hT5 hO5 hK5 ⊢
      generalize wr.heap.size = gB at hS5 ⊢
      have ca := hS5.out.a
      have cb := hS5.out.b
      have hmf : ∀ (fn : Fn) (first cap : Array Value) (w : World), (Instr.makeFunc fn first cap).run Tryz.prog w = .ok (.func fn first cap) w := fun _ _ _ _ => rfl
      obtain ⟨z, hz⟩ : ∃ z, (nets.take k).any (fun x => meetL x y) = z := ⟨_, rfl⟩
      have hz' := Lib.hid hz
      have hys : y.length ≤ 9223372036854775807 := hsm.out y (List.mem_of_getElem? hy'.out)
      have hsm2 : Hid (∀ x ∈ nets.take k, x.length ≤ 9223372036854775807) := Lib.hid (fun x hx => hsm.out x (List.mem_of_mem_take hx))
      have hstep : Hid (overStep names nets k = if z = true then [⟨4, X.data.toList⟩] else []) := Lib.hid (by
        unfold overStep
        have h1 : nets.getD k [] = y := by rw [List.getD_eq_getElem?_getD, hy'.out]; rfl
        have h2 : names.getD k [] = x := by rw [List.getD_eq_getElem?_getD, hx'.out]; rfl
        rw [h1, h2, hz'.out, hXd.out])
      clear hz
      go_wp2_with fail
      refine (ruHas_any _ (nets.take k) gA gB p2 c2 nets k y z _ hT5 (by rw [List.length_take]; omega) hsm2 hS5 hy' hys hnl hz').mono ?_
      rintro e w7 ⟨rfl, k7⟩
      have hO7 := Lib.hid (hO5.out.keep k7 (fun _ _ f => f))
      have hK7 := Lib.hid (hK5.out.trans k7)
      clear k7 hO5 hK5 hT5 hS5 ca cb hmf
      cases z with
      | true =>
        have hnx : Hid (fs ++ [⟨4, X.data.toList⟩] = (List.range (k + 1)).flatMap (overStep names nets)) := Lib.hid (by rw [over_next, ← hfs.out, hstep.out]; rfl)
        go_wp2_with ((with_reducible refine at_slot 26 ?_); go_must (refine wpList_append_r rfl (.tmp 22) (.tmp 25) 112 185 rfl i0 _ 24 Tryz.underlying112 hi0 hi1 hi2 hi3 rfl (by decide) (by decide) fVals_len W0 _ fs.length fs rfl rfl (hO7.out.keep ((Keeps.refl (fun _ => False) _).alloc _) (fun _ _ f => f)) _ rfl ⟨4, X.data.toList⟩ (cells_new rfl [.int .i64 (4), .string X] _) (fVals_one _) (by omega) ?_); intro q8 d8 w8 hO8 hg8)
        have hk9 := Lib.hid ((hO7.out.keep ((Keeps.refl (fun _ => False) w7).alloc (.cells #[.int .i64 4, .string X] 185)) (fun _ _ f => f)).keeps (hK7.out.alloc _) hg8.out)
        exact ⟨⟨k + 1, fs ++ [⟨4, X.data.toList⟩], q8, d8, by omega, by go_num, by simp, by simp; omega, hnx, by simpa using hO8, hk9⟩, by simp [intOf]; omega⟩
      | false =>
        have hnx : Hid (fs = (List.range (k + 1)).flatMap (overStep names nets)) := Lib.hid (by rw [over_next, ← hfs.out, hstep.out]; simp)
        go_wp2_with fail
        exact ⟨⟨k + 1, fs, q, d, by omega, by go_num, rfl, by omega, hnx, hO7, hK7⟩, by simp [intOf]; omega⟩
    · obtain rfl : k = names.length := by omega
      have hx2 : Hid (fs = overlapsC names nets) := hfs
      clear hfs
      go_wp2_with fail
      go_ret
      refine ⟨q, d, ?_, ?_, hk0.out.trans hK.out⟩
      · rw [← hx2.out]; rfl
      · rw [← hx2.out]; exact hO.out.older hk0.out.size
end Go.Proofs.YtialookpnoaogaaGreat
/- rules.Check, walked. -/
set_option linter.unusedVariables false
set_option linter.unusedSimpArgs false
namespace Go.Proofs.YtialookpnoaogaaGreat
open Go.RowKit

def areaL : List UInt8 := [97, 114, 101, 97]
def addressL : List UInt8 := [97, 100, 100, 114, 101, 115, 115]
def checkC (ls : List LineD) : List FaultD :=
  routerC ls (namesA 2 ls) ++ unsetC 2 (namesA 2 ls) (valuesC ls (namesA 2 ls) areaL) ++ unsetC 3 (namesA 2 ls) (valuesC ls (namesA 2 ls) addressL) ++ overlapsC (namesA 2 ls) (valuesC ls (namesA 2 ls) addressL) ++
    badC (namesA 2 ls) (valuesC ls (namesA 2 ls) deadW) (valuesC ls (namesA 2 ls) helloW) ++ backC ls (valuesC ls (namesA 2 ls) areaL) ++ unusedC ls (valuesC ls (namesA 2 ls) areaL) ++ tooManyC (namesA 2 ls)
def checkR (ls : List LineD) : List FaultD × Nat := if rightC ls = true then (checkC ls, 0) else ([], 1)
def CRes (r : List FaultD × Nat) (w : World) (e : Ending) (w' : World) : Prop :=
  ∃ p c, e = .returned (.tuple #[.slice p r.1.length c, .int .i64 (r.2 : Int)]) ∧ OwnR 185 2 fVals w w' (.slice p r.1.length c) r.1 ∧ Keeps (fun _ => False) w w'
theorem fm_len {α β : Type} {f : α → List β} (h : ∀ x, (f x).length ≤ 1) : ∀ l : List α, (l.flatMap f).length ≤ l.length := by
  intro l
  induction l with
  | nil => simp
  | cons a l ih => rw [List.flatMap_cons, List.length_append, List.length_cons]; have := h a; omega
theorem router_len (ls : List LineD) (n : List (List UInt8)) : (routerC ls n).length ≤ 1 := by unfold routerC; split <;> simp
theorem unset_len (k : Int) (n v : List (List UInt8)) (h : n.length ≤ 64) : (unsetC k n v).length ≤ 64 := by
  unfold unsetC
  have := fm_len (f := fun p : List UInt8 × List UInt8 => if p.2 = [] then [(⟨k, p.1⟩ : FaultD)] else []) (fun p => by split <;> simp) (n.zip v)
  rw [List.length_zip] at this; omega
theorem over_len (n v : List (List UInt8)) (h : n.length ≤ 64) : (overlapsC n v).length ≤ 64 := by
  unfold overlapsC
  have := fm_len (f := overStep n v) (fun p => by unfold overStep; split <;> simp) (List.range n.length)
  rw [List.length_range] at this; omega
theorem bad_len (n d e : List (List UInt8)) (h : n.length ≤ 64) : (badC n d e).length ≤ 64 := by
  unfold badC
  have := fm_len (f := fun p : List UInt8 × (List UInt8 × List UInt8) => if decV p.2.1 ≤ decV p.2.2 then [(⟨5, p.1⟩ : FaultD)] else []) (fun p => by split <;> simp) (n.zip (d.zip e))
  rw [List.length_zip] at this; omega
theorem back_len (ls : List LineD) (a : List (List UInt8)) : (backC ls a).length ≤ 2 := by
  unfold backC; rw [List.length_append]
  have h1 : (if partedC a = true then [(⟨6, []⟩ : FaultD)] else []).length ≤ 1 := by split <;> simp
  have h2 : (if valueR ls 1 boneW typeW = normalW then [] else [(⟨6, boneW⟩ : FaultD)]).length ≤ 1 := by split <;> simp
  omega
theorem unused_len (ls : List LineD) (a : List (List UInt8)) (h : ls.length ≤ 64) : (unusedC ls a).length ≤ 64 := by
  unfold unusedC
  have := fm_len (f := fun n => if a.contains n = true then [] else [(⟨7, n⟩ : FaultD)]) (fun p => by split <;> simp) (namesA 1 ls)
  have := namesA_len 1 ls
  omega
theorem valueR_small {ls : List LineD} (hr : rightC ls = true) (h : Int) (n l : List UInt8) : (valueR ls h n l).length ≤ 9223372036854775807 := by
  unfold valueR
  split
  · rename_i q hq
    have := line_small (right_line hr q (List.mem_of_find?_eq_some hq))
    omega
  · split
    · rename_i r hr2
      have hall : ∀ q ∈ tableD, q.df.length ≤ 30 := by decide
      have := hall r (List.mem_of_find?_eq_some hr2)
      omega
    · simp
theorem values_small {ls : List LineD} (hr : rightC ls = true) (names : List (List UInt8)) (leaf : List UInt8) : ∀ x ∈ valuesC ls names leaf, x.length ≤ 9223372036854775807 := by
  intro x hx
  unfold valuesC at hx
  obtain ⟨n, _, rfl⟩ := List.mem_map.1 hx
  exact valueR_small hr _ _ _

set_option maxRecDepth 100000 in
set_option maxHeartbeats 4000000 in
theorem ruCheck_no (v : Value) (ls : List LineD) (w : World) (hv : Hid (RowsAt 4 lineVals w v ls)) (hl : ls.length ≤ 9223372036854775807) (hlt : Hid (LinesLt ls 9223372036854775807)) (hr : Hid (rightC ls = false)) :
    Calls Tryz.prog 45 #[v] w (CRes ([], 1) w) := by
  have hLn := Lib.hid hv.out.lines
  clear hv
  go_enter Tryz.func45, Tryz.ntmps45
  go_wp2_with fail
  refine (right_c _ ls false _ hLn hl hlt hr).mono ?_
  rintro e w2 ⟨rfl, k2⟩
  have k2' := Lib.hid k2
  clear k2
  go_wp2_with fail
  go_ret2
  exact ⟨none, 0, rfl, OwnR.nil _ _ k2'.out.size, k2'.out⟩

set_option maxRecDepth 100000 in
set_option maxHeartbeats 16000000 in
theorem ruCheck_c (v : Value) (ls : List LineD) (w : World) (hv : Hid (RowsAt 4 lineVals w v ls)) (hr : Hid (rightC ls = true)) :
    Calls Tryz.prog 45 #[v] w (CRes (checkC ls, 0) w) := by
  obtain ⟨i0, hi0, hi1, hi2, hi3⟩ := faultAll
  have hlen := right_len hr.out
  have hlt := Lib.hid (right_lt hr.out 9223372036854775807 (by omega))
  have hLn := Lib.hid hv.out.lines
  have hnl : (namesA 2 ls).length ≤ 64 := by have := namesA_len 2 ls; omega
  obtain ⟨N, hNe⟩ : ∃ N, namesA 2 ls = N := ⟨_, rfl⟩
  rw [hNe] at hnl
  have hNe' := Lib.hid hNe
  clear hNe
  go_enter Tryz.func45, Tryz.ntmps45
  go_wp2_with fail
  refine (right_c _ ls true _ hLn (by omega) hlt hr).mono ?_
  rintro e w1 ⟨rfl, k1⟩
  have hv1 := Lib.hid (hv.out.keep k1)
  have hk1 := Lib.hid k1
  clear k1 hv hLn hlt
  go_wp2_with fail
  refine (names_all _ ls 2 _ hv1 hr).mono ?_
  rw [hNe'.out]
  rintro e w2 ⟨pN, cN, rfl, hN0, k2⟩
  have hN2 := Lib.hid hN0
  have hv2 := Lib.hid (hv1.out.keep k2)
  have hk2 := Lib.hid (hk1.out.trans k2)
  clear k2 hN0 hv1 hk1
  go_wp2_with fail
  refine (ruValues_any _ _ ls N ⟨#[97, 114, 101, 97]⟩ _ hv2 hr hN2 hnl).mono ?_
  obtain ⟨A, hAe⟩ : ∃ A, valuesC ls N areaL = A := ⟨_, rfl⟩
  rw [show valuesC ls N (⟨#[97, 114, 101, 97]⟩ : ByteArray).data.toList = A from hAe]
  have hAl : A.length = N.length := by rw [← hAe]; exact valuesC_len _ _ _
  have hAe' := Lib.hid hAe
  have hAl' := Lib.hid hAl
  have hA64 : A.length ≤ 64 := by omega
  clear hAe hAl
  rintro e w3 ⟨pA, cA, rfl, hA0, k3⟩
  have hA3 := Lib.hid (rows_strs (hA0.at nv1_len))
  have hN3 := Lib.hid (hN2.out.keep k3 (fun _ _ _ f => f))
  have hv3 := Lib.hid (hv2.out.keep k3)
  have hk3 := Lib.hid (hk2.out.trans k3)
  clear k3 hA0 hN2 hv2 hk2
  go_wp2_with fail
  refine (ruValues_any _ _ ls N ⟨#[97, 100, 100, 114, 101, 115, 115]⟩ _ hv3 hr hN3 hnl).mono ?_
  obtain ⟨T, hTe⟩ : ∃ A, valuesC ls N addressL = A := ⟨_, rfl⟩
  rw [show valuesC ls N (⟨#[97, 100, 100, 114, 101, 115, 115]⟩ : ByteArray).data.toList = T from hTe]
  have hTl' := Lib.hid (show T.length = N.length by rw [← hTe]; exact valuesC_len _ _ _)
  have hTs := Lib.hid (show ∀ x ∈ T, x.length ≤ 9223372036854775807 by rw [← hTe]; exact values_small hr.out _ _)
  have hTe' := Lib.hid hTe
  clear hTe
  rintro e w4 ⟨pT, cT, rfl, hT0, k4⟩
  have hT4 := Lib.hid (hT0.at nv1_len)
  have hA4 := Lib.hid (hA3.out.keep k4 (fun _ _ _ f => f))
  have hN4 := Lib.hid (hN3.out.keep k4 (fun _ _ _ f => f))
  have hv4 := Lib.hid (hv3.out.keep k4)
  have hk4 := Lib.hid (hk3.out.trans k4)
  clear k4 hT0 hA3 hN3 hv3 hk3
  go_wp2_with fail
  refine (ruRouter_any _ _ ls N _ hv4 hr hN4 hnl).mono ?_
  rintro e w5 ⟨pL, cL, rfl, hL0, k5⟩
  have hrl := router_len ls N
  obtain ⟨L0, hL0e⟩ : ∃ L, routerC ls N = L := ⟨_, rfl⟩
  rw [hL0e] at hL0 hrl ⊢
  have hLe0 := Lib.hid hL0e
  have hL5 := Lib.hid hL0
  have hK5 := Lib.hid k5
  clear k5 hL0 hL0e
  go_wp2_with fail
  refine (ruUnset_any 2 _ _ N A _ (Lib.hid (hN4.out.keep hK5.out (fun _ _ _ f => f))) (Lib.hid (hA4.out.keep hK5.out (fun _ _ _ f => f))) hAl' hnl).mono ?_
  rintro e w6 ⟨pX0, cX0, rfl, hX0, k6⟩
  have hyl0 := unset_len 2 N A hnl
  obtain ⟨Y0, hYe0⟩ : ∃ L, unsetC 2 N A = L := ⟨_, rfl⟩
  rw [hYe0] at hX0 hyl0 ⊢
  have hYf0 := Lib.hid hYe0
  have hY0 := Lib.hid (hX0.at fVals_len)
  have hL6 := Lib.hid (hL5.out.keep k6 (fun _ _ f => f))
  have hK6 := Lib.hid (hK5.out.trans k6)
  clear k6 hX0 hL5 hK5 hYe0
  go_upto_region 8 with ((with_reducible refine at_slot 26 ?_); refine wpList_append_rows rfl (.tmp 22) (.tmp 25) 112 185 rfl i0 _ 24 Tryz.underlying112 hi0 hi1 hi2 hi3 rfl (by decide) (by decide) fVals_len fVals_one w4 _ L0 rfl hL6.out _ rfl Y0 hY0.out (by omega) ?_; intro pL7 cL7 w7 hZ7 hG7)
  have hK7 := Lib.hid (OwnR.keeps hL6.out hK6.out hG7.out)
  obtain ⟨L1, hLl1⟩ : ∃ L, L0 ++ Y0 = L := ⟨_, rfl⟩
  have hLen1 : L1.length ≤ 65 := by rw [← hLl1, List.length_append]; omega
  have hLeq1 : L0.length + Y0.length = L1.length := by rw [← hLl1, List.length_append]
  rw [hLl1, hLeq1] at hZ7
  rw [hLeq1]
  have hL7 := hZ7
  have hLf1 := Lib.hid hLl1
  clear hLeq1 hLl1 hL6 hK6 hG7 hY0
  go_wp2_with fail
  refine (ruUnset_any 3 _ _ N T _ (Lib.hid (hN4.out.keep hK7.out (fun _ _ _ f => f))) (Lib.hid (rows_strs (hT4.out.keep hK7.out))) hTl' hnl).mono ?_
  rintro e w8 ⟨pX1, cX1, rfl, hX0, k8⟩
  have hyl1 := unset_len 3 N T hnl
  obtain ⟨Y1, hYe1⟩ : ∃ L, unsetC 3 N T = L := ⟨_, rfl⟩
  rw [hYe1] at hX0 hyl1 ⊢
  have hYf1 := Lib.hid hYe1
  have hY1 := Lib.hid (hX0.at fVals_len)
  have hL8 := Lib.hid (hL7.out.keep k8 (fun _ _ f => f))
  have hK8 := Lib.hid (hK7.out.trans k8)
  clear k8 hX0 hL7 hK7 hYe1
  go_upto_region 9 with ((with_reducible refine at_slot 31 ?_); refine wpList_append_rows rfl (.tmp 27) (.tmp 30) 112 185 rfl i0 _ 24 Tryz.underlying112 hi0 hi1 hi2 hi3 rfl (by decide) (by decide) fVals_len fVals_one w4 _ L1 rfl hL8.out _ rfl Y1 hY1.out (by omega) ?_; intro pL9 cL9 w9 hZ9 hG9)
  have hK9 := Lib.hid (OwnR.keeps hL8.out hK8.out hG9.out)
  obtain ⟨L2, hLl2⟩ : ∃ L, L1 ++ Y1 = L := ⟨_, rfl⟩
  have hLen2 : L2.length ≤ 129 := by rw [← hLl2, List.length_append]; omega
  have hLeq2 : L1.length + Y1.length = L2.length := by rw [← hLl2, List.length_append]
  rw [hLl2, hLeq2] at hZ9
  rw [hLeq2]
  have hL9 := hZ9
  have hLf2 := Lib.hid hLl2
  clear hLeq2 hLl2 hL8 hK8 hG9 hY1
  go_wp2_with fail
  refine (ruOver_any _ _ N T _ (Lib.hid (hN4.out.keep hK9.out (fun _ _ _ f => f))) (Lib.hid (hT4.out.keep hK9.out)) hTl' hnl hTs).mono ?_
  rintro e w10 ⟨pX2, cX2, rfl, hX0, k10⟩
  have hyl2 := over_len N T hnl
  obtain ⟨Y2, hYe2⟩ : ∃ L, overlapsC N T = L := ⟨_, rfl⟩
  rw [hYe2] at hX0 hyl2 ⊢
  have hYf2 := Lib.hid hYe2
  have hY2 := Lib.hid (hX0.at fVals_len)
  have hL10 := Lib.hid (hL9.out.keep k10 (fun _ _ f => f))
  have hK10 := Lib.hid (hK9.out.trans k10)
  clear k10 hX0 hL9 hK9 hYe2
  go_upto_region 10 with ((with_reducible refine at_slot 36 ?_); refine wpList_append_rows rfl (.tmp 32) (.tmp 35) 112 185 rfl i0 _ 24 Tryz.underlying112 hi0 hi1 hi2 hi3 rfl (by decide) (by decide) fVals_len fVals_one w4 _ L2 rfl hL10.out _ rfl Y2 hY2.out (by omega) ?_; intro pL11 cL11 w11 hZ11 hG11)
  have hK11 := Lib.hid (OwnR.keeps hL10.out hK10.out hG11.out)
  obtain ⟨L3, hLl3⟩ : ∃ L, L2 ++ Y2 = L := ⟨_, rfl⟩
  have hLen3 : L3.length ≤ 193 := by rw [← hLl3, List.length_append]; omega
  have hLeq3 : L2.length + Y2.length = L3.length := by rw [← hLl3, List.length_append]
  rw [hLl3, hLeq3] at hZ11
  rw [hLeq3]
  have hL11 := hZ11
  have hLf3 := Lib.hid hLl3
  clear hLeq3 hLl3 hL10 hK10 hG11 hY2
  go_wp2_with fail
  refine (ruBad_any _ _ ls N _ (Lib.hid (hv4.out.keep hK11.out)) hr (Lib.hid (hN4.out.keep hK11.out (fun _ _ _ f => f))) hnl).mono ?_
  rintro e w12 ⟨pX3, cX3, rfl, hX0, k12⟩
  have hyl3 := bad_len N (valuesC ls N deadW) (valuesC ls N helloW) hnl
  obtain ⟨Y3, hYe3⟩ : ∃ L, badC N (valuesC ls N deadW) (valuesC ls N helloW) = L := ⟨_, rfl⟩
  rw [hYe3] at hX0 hyl3 ⊢
  have hYf3 := Lib.hid hYe3
  have hY3 := Lib.hid (hX0.at fVals_len)
  have hL12 := Lib.hid (hL11.out.keep k12 (fun _ _ f => f))
  have hK12 := Lib.hid (hK11.out.trans k12)
  clear k12 hX0 hL11 hK11 hYe3
  go_upto_region 11 with ((with_reducible refine at_slot 41 ?_); refine wpList_append_rows rfl (.tmp 37) (.tmp 40) 112 185 rfl i0 _ 24 Tryz.underlying112 hi0 hi1 hi2 hi3 rfl (by decide) (by decide) fVals_len fVals_one w4 _ L3 rfl hL12.out _ rfl Y3 hY3.out (by omega) ?_; intro pL13 cL13 w13 hZ13 hG13)
  have hK13 := Lib.hid (OwnR.keeps hL12.out hK12.out hG13.out)
  obtain ⟨L4, hLl4⟩ : ∃ L, L3 ++ Y3 = L := ⟨_, rfl⟩
  have hLen4 : L4.length ≤ 257 := by rw [← hLl4, List.length_append]; omega
  have hLeq4 : L3.length + Y3.length = L4.length := by rw [← hLl4, List.length_append]
  rw [hLl4, hLeq4] at hZ13
  rw [hLeq4]
  have hL13 := hZ13
  have hLf4 := Lib.hid hLl4
  clear hLeq4 hLl4 hL12 hK12 hG13 hY3
  go_wp2_with fail
  refine (ruBack_any _ _ ls A _ (Lib.hid (hv4.out.keep hK13.out)) hr (Lib.hid (hA4.out.keep hK13.out (fun _ _ _ f => f))) hA64).mono ?_
  rintro e w14 ⟨pX4, cX4, rfl, hX0, k14⟩
  have hyl4 := back_len ls A
  obtain ⟨Y4, hYe4⟩ : ∃ L, backC ls A = L := ⟨_, rfl⟩
  rw [hYe4] at hX0 hyl4 ⊢
  have hYf4 := Lib.hid hYe4
  have hY4 := Lib.hid (hX0.at fVals_len)
  have hL14 := Lib.hid (hL13.out.keep k14 (fun _ _ f => f))
  have hK14 := Lib.hid (hK13.out.trans k14)
  clear k14 hX0 hL13 hK13 hYe4
  go_upto_region 12 with ((with_reducible refine at_slot 46 ?_); refine wpList_append_rows rfl (.tmp 42) (.tmp 45) 112 185 rfl i0 _ 24 Tryz.underlying112 hi0 hi1 hi2 hi3 rfl (by decide) (by decide) fVals_len fVals_one w4 _ L4 rfl hL14.out _ rfl Y4 hY4.out (by omega) ?_; intro pL15 cL15 w15 hZ15 hG15)
  have hK15 := Lib.hid (OwnR.keeps hL14.out hK14.out hG15.out)
  obtain ⟨L5, hLl5⟩ : ∃ L, L4 ++ Y4 = L := ⟨_, rfl⟩
  have hLen5 : L5.length ≤ 321 := by rw [← hLl5, List.length_append]; omega
  have hLeq5 : L4.length + Y4.length = L5.length := by rw [← hLl5, List.length_append]
  rw [hLl5, hLeq5] at hZ15
  rw [hLeq5]
  have hL15 := hZ15
  have hLf5 := Lib.hid hLl5
  clear hLeq5 hLl5 hL14 hK14 hG15 hY4
  go_wp2_with fail
  refine (ruUnused_any _ _ ls A _ (Lib.hid (hv4.out.keep hK15.out)) hr (Lib.hid (hA4.out.keep hK15.out (fun _ _ _ f => f))) hA64).mono ?_
  rintro e w16 ⟨pX5, cX5, rfl, hX0, k16⟩
  have hyl5 := unused_len ls A hlen
  obtain ⟨Y5, hYe5⟩ : ∃ L, unusedC ls A = L := ⟨_, rfl⟩
  rw [hYe5] at hX0 hyl5 ⊢
  have hYf5 := Lib.hid hYe5
  have hY5 := Lib.hid (hX0.at fVals_len)
  have hL16 := Lib.hid (hL15.out.keep k16 (fun _ _ f => f))
  have hK16 := Lib.hid (hK15.out.trans k16)
  clear k16 hX0 hL15 hK15 hYe5
  go_upto_region 13 with ((with_reducible refine at_slot 51 ?_); refine wpList_append_rows rfl (.tmp 47) (.tmp 50) 112 185 rfl i0 _ 24 Tryz.underlying112 hi0 hi1 hi2 hi3 rfl (by decide) (by decide) fVals_len fVals_one w4 _ L5 rfl hL16.out _ rfl Y5 hY5.out (by omega) ?_; intro pL17 cL17 w17 hZ17 hG17)
  have hK17 := Lib.hid (OwnR.keeps hL16.out hK16.out hG17.out)
  obtain ⟨L6, hLl6⟩ : ∃ L, L5 ++ Y5 = L := ⟨_, rfl⟩
  have hLen6 : L6.length ≤ 385 := by rw [← hLl6, List.length_append]; omega
  have hLeq6 : L5.length + Y5.length = L6.length := by rw [← hLl6, List.length_append]
  rw [hLl6, hLeq6] at hZ17
  rw [hLeq6]
  have hL17 := hZ17
  have hLf6 := Lib.hid hLl6
  clear hLeq6 hLl6 hL16 hK16 hG17 hY5
  go_wp2_with fail
  refine (ruTooMany_any _ N _ (Lib.hid (hN4.out.keep hK17.out (fun _ _ _ f => f))) hnl).mono ?_
  rintro e w18 ⟨pX6, cX6, rfl, hX0, k18⟩
  have hyl6 := (show (tooManyC N).length ≤ 1 by unfold tooManyC; split <;> simp)
  obtain ⟨Y6, hYe6⟩ : ∃ L, tooManyC N = L := ⟨_, rfl⟩
  rw [hYe6] at hX0 hyl6 ⊢
  have hYf6 := Lib.hid hYe6
  have hY6 := Lib.hid (hX0.at fVals_len)
  have hL18 := Lib.hid (hL17.out.keep k18 (fun _ _ f => f))
  have hK18 := Lib.hid (hK17.out.trans k18)
  clear k18 hX0 hL17 hK17 hYe6
  go_wp2_with ((with_reducible refine at_slot 55 ?_); refine wpList_append_rows rfl (.tmp 52) (.tmp 54) 112 185 rfl i0 _ 24 Tryz.underlying112 hi0 hi1 hi2 hi3 rfl (by decide) (by decide) fVals_len fVals_one w4 _ L6 rfl hL18.out _ rfl Y6 hY6.out (by omega) ?_; intro pL19 cL19 w19 hZ19 hG19)
  have hK19 := Lib.hid (OwnR.keeps hL18.out hK18.out hG19.out)
  obtain ⟨L7, hLl7⟩ : ∃ L, L6 ++ Y6 = L := ⟨_, rfl⟩
  have hLen7 : L7.length ≤ 449 := by rw [← hLl7, List.length_append]; omega
  have hLeq7 : L6.length + Y6.length = L7.length := by rw [← hLl7, List.length_append]
  rw [hLl7, hLeq7] at hZ19
  rw [hLeq7]
  have hL19 := hZ19
  have hLf7 := Lib.hid hLl7
  clear hLeq7 hLl7 hL18 hK18 hG19 hY6
  go_ret2
  have hall : checkC ls = L7 := by
    unfold checkC
    rw [hNe'.out, hAe'.out, hTe'.out, hLe0.out, hYf0.out, hYf1.out, hYf2.out, hYf3.out, hYf4.out, hYf5.out, hYf6.out, hLf1.out, hLf2.out, hLf3.out, hLf4.out, hLf5.out, hLf6.out, hLf7.out]
  rw [hall]
  exact ⟨_, _, rfl, hL19.out.older hk4.out.size, hk4.out.trans hK19.out⟩
theorem ruCheck_any (v : Value) (ls : List LineD) (w : World) (hv : Hid (RowsAt 4 lineVals w v ls)) (hl : ls.length ≤ 9223372036854775807) (hlt : Hid (LinesLt ls 9223372036854775807)) :
    Calls Tryz.prog 45 #[v] w (CRes (checkR ls) w) := by
  unfold checkR
  cases hz : rightC ls with
  | true => rw [if_pos rfl]; exact ruCheck_c v ls w hv (Lib.hid hz)
  | false => rw [if_neg (by simp)]; exact ruCheck_no v ls w hv hl hlt (Lib.hid hz)
end Go.Proofs.YtialookpnoaogaaGreat
/- Of adv: settings. -/
set_option linter.unusedVariables false
set_option linter.unusedSimpArgs false
namespace Go.Proofs.YtialookpnoaogaaGreat
open Go.RowKit

theorem load_fnss (w : World) (b o : Nat) (v : Value) (h : w.cell? ⟨b, o, none⟩ = some v) : (loadVar 121 ⟨b, o, none⟩).run Tryz.prog w = .ok v w := by simp [go_sem, h]
theorem ret_cell1 {P : Program} {fn : Func} {p : Tmp} {ty : TypeId} (h : fn.results = #[.cell p ty]) (tmps : Array Value) (w : World) (b : Nat) (cs : List Value) (d : TypeDesc) (hp : tmps.getD p undef = .pointer (some ⟨b, 0, none⟩))
    (hc : w.rangeAt b 0 cs) (hu : P.underlying ty = some d) (hd : d.isRow = true) (hi : (P.info? ty).map (·.size) = some cs.length) : (results fn tmps).run P w = .ok (.agg cs.toArray) w := by
  have hl := run_loadVar_mid w b 0 ty cs d hc hu hd hi
  have e : (results fn tmps).run P w = ((asAddr (tmps.getD p undef)).run P w).andThen fun a w₁ => (loadVar ty a).run P w₁ := by
    simp only [results, h]
    simp [Sem.run_bind, Result.andThen]
  rw [e, hp]
  simp only [asAddr, Sem.run_pure, Result.andThen, hl]
def aAreaW : List UInt8 := [97, 114, 101, 97]
def aAddrW : List UInt8 := [97, 100, 100, 114, 101, 115, 115]
def aCostW : List UInt8 := [99, 111, 115, 116]
def aHelloW : List UInt8 := [104, 101, 108, 108, 111]
def aDeadW : List UInt8 := [100, 101, 97, 100]
def aAgainW : List UInt8 := [114, 101, 116, 114, 97, 110, 115, 109, 105, 116]
def aPrioW : List UInt8 := [112, 114, 105, 111, 114, 105, 116, 121]
def aNetW : List UInt8 := [110, 101, 116, 119, 111, 114, 107]
def aTwoW : List UInt8 := [112, 111, 105, 110, 116, 45, 116, 111, 45, 112, 111, 105, 110, 116]
def aAuthW : List UInt8 := [97, 117, 116, 104]
def numR (ls : List LineD) (n l : List UInt8) : Nat := (decL (valueR ls 2 n l)).getD 0
def maskD (k : Nat) : Nat := 4294967295 * 2 ^ (32 - k) % 4294967296
/-- an interface's numbers -/
def setD (ls : List LineD) (n : List UInt8) : SetD :=
  { area := (addrL (valueR ls 2 n aAreaW)).getD 0
    addr := ((netL (valueR ls 2 n aAddrW)).getD (0, 0)).1
    mask := maskD ((netL (valueR ls 2 n aAddrW)).getD (0, 0)).2
    cost := numR ls n aCostW, hello := numR ls n aHelloW, dead := numR ls n aDeadW, again := numR ls n aAgainW, prio := numR ls n aPrioW
    two := valueR ls 2 n aNetW == aTwoW
    auth := valueR ls 2 n aAuthW }
set_option maxRecDepth 100000 in
set_option maxHeartbeats 8000000 in
theorem settings_any (v : Value) (ls : List LineD) (n : List UInt8) (w : World) (hv : Hid (RowsAt 4 lineVals w v ls)) (hr : Hid (rightC ls = true)) (h0 : 0 < ls.length) :
    Calls Tryz.prog 21 #[v, strv n] w (NewRes (.agg (setVals (setD ls n)).toArray) w) := by
  obtain ⟨p, c, rfl⟩ := hv.out.slice
  have hl := right_len hr.out
  obtain ⟨N, hN⟩ : ∃ N : ByteArray, (⟨n.toArray⟩ : ByteArray) = N := ⟨_, rfl⟩
  have hN' := Lib.hid hN
  unfold strv
  rw [hN]
  clear hN
  have hcl := Lib.hid (fun W (k : Keeps (fun _ => False) w W) => cloneLines_any _ ls W (Lib.hid (hv.out.keep k)) (by omega) h0)
  go_enter Tryz.func21, Tryz.ntmps21
  go_wp2_with fail
  obtain ⟨W0, hW0⟩ : ∃ W, (w.alloc (.cells #[.string N] 9)).alloc (.cells #[.int .u32 0, .int .u32 0, .int .u32 0, .int .i64 0, .int .i64 0, .int .i64 0, .int .i64 0, .int .i64 0, .bool false, .string ⟨#[]⟩] 45) = W := ⟨_, rfl⟩
  rw [hW0]
  have hk0 : Hid (Keeps (fun _ => False) w W0) := Lib.hid (by rw [← hW0]; exact ((Keeps.refl _ _).alloc _).alloc _)
  have hcN : Hid (W0.cell? ⟨w.heap.size, 0, none⟩ = some (strv n)) := Lib.hid (by
    rw [← hW0]
    refine (((Keeps.refl (fun _ => False) _).alloc _).cell (p := ⟨w.heap.size, 0, none⟩) (by simp) id).trans ?_
    have h := cells_new (w := w) rfl [.string N] 9 0 _ rfl
    unfold strv
    rw [hN'.out]
    exact h)
  have hB4 : Hid (BlkAt W0 (w.heap.size + 1) 45 [.int .u32 0, .int .u32 0, .int .u32 0, .int .i64 0, .int .i64 0, .int .i64 0, .int .i64 0, .int .i64 0, .bool false, .string ⟨#[]⟩]) := Lib.hid (by
    rw [← hW0]
    have h := BlkAt.new (w.alloc (.cells #[.string N] 9)) 45 [.int .u32 0, .int .u32 0, .int .u32 0, .int .i64 0, .int .i64 0, .int .i64 0, .int .i64 0, .int .i64 0, .bool false, .string ⟨#[]⟩]
    have e : (w.alloc (.cells #[.string N] 9)).heap.size = w.heap.size + 1 := by simp
    rw [e] at h
    exact h)
  obtain ⟨b3, hb3⟩ : ∃ b, w.heap.size = b := ⟨_, rfl⟩
  rw [hb3] at hcN hB4 ⊢
  obtain ⟨b4, hb4⟩ : ∃ b, b3 + 1 = b := ⟨_, rfl⟩
  rw [hb4] at hB4 ⊢
  have hb34 : Hid (b3 < b4 ∧ w.heap.size ≤ b4) := Lib.hid (by omega)
  clear hW0 hb4 hb3
  refine (hcl.out _ hk0.out).mono ?_
  rintro e w1 ⟨p1, c1, rfl, hO1, hk1⟩
  have hk1' := Lib.hid (hk0.out.trans hk1)
  have hcN1 := Lib.hid ((hk1.cell (p := ⟨b3, 0, none⟩) (World.block_lt_of_cell? W0 _ hcN.out) id).trans hcN.out)
  have hB41 := Lib.hid (hB4.out.keep hk1 id)
  have hdl := Lib.hid (delLines_any _ ls n b3 W0 w1 (Lib.hid hO1) (by omega) hcN1 (Lib.hid (fun k e e2 => by
    have h1 := hO1.2.1 k e
    have h2 := World.block_lt_of_cell? W0 _ hcN.out
    have h3 : b3 < W0.heap.size := h2
    omega)))
  have hnB4 : Hid (∀ k, (Value.slice p1 ls.length c1).ownBlock = some k → W0.heap.size ≤ k) := Lib.hid hO1.2.1
  have hlB4 : Hid (b4 < W0.heap.size ∧ b3 < W0.heap.size) := Lib.hid ⟨lt_of_block hB4.out, World.block_lt_of_cell? W0 _ hcN.out⟩
  have hkW0 := Lib.hid hk1
  clear hcl hO1 hk1 hB4 hcN
  go_wp2_with fail
  refine hdl.out.mono ?_
  rintro e w2 ⟨p2, c2, rfl, hO2, hk2⟩
  have hB42 := Lib.hid (hB41.out.keep hk2 (fun e => by
    have h1 := hnB4.out b4 e
    have h2 := hlB4.out.1
    omega))
  have hk2' : Hid (Keeps (fun _ => False) W0 w2) := Lib.hid (hkW0.out.trans' hk2 (fun i hi => .inr (hnB4.out i hi)))
  go_upto_region 4 with fail
  have hO2' := Lib.hid hO2
  have hcN2 := Lib.hid ((hk2'.out.cell (p := ⟨b3, 0, none⟩) hlB4.out.2 id).trans ((hkW0.out.cell (p := ⟨b3, 0, none⟩) hlB4.out.2 id).symm.trans hcN1.out))
  have hs2 := Lib.hid hk2'.out.size
  have hkw2 := Lib.hid (hk0.out.trans hk2'.out)
  obtain ⟨gO, hgO⟩ : ∃ b, w2.heap.size = b := ⟨_, rfl⟩
  obtain ⟨W1, hW1⟩ : ∃ W, (w2.alloc (.cells #[.slice p2 (ownL n ls).length c2] 30)).alloc (.cells #[.func (.func 53) #[] #[.pointer (some ⟨gO, 0, none⟩), .pointer (some ⟨b3, 0, none⟩)]] 121) = W := ⟨_, rfl⟩
  rw [hgO, hW1]
  have hkA : Keeps (fun _ => False) w2 W1 := by rw [← hW1]; exact ((Keeps.refl _ _).alloc _).alloc _
  have hcO : W1.cell? ⟨gO, 0, none⟩ = some (.slice p2 (ownL n ls).length c2) := by
    rw [← hW1]
    refine (((Keeps.refl (fun _ => False) _).alloc _).cell (p := ⟨gO, 0, none⟩) (by simp [hgO]) id).trans ?_
    have h := cells_new (w := w2) rfl [.slice p2 (ownL n ls).length c2] 30 0 _ rfl
    rw [hgO] at h
    exact h
  have hcF : W1.cell? ⟨gO + 1, 0, none⟩ = some (.func (.func 53) #[] #[.pointer (some ⟨gO, 0, none⟩), .pointer (some ⟨b3, 0, none⟩)]) := by
    rw [← hW1]
    have h := cells_new (w := w2.alloc (.cells #[.slice p2 (ownL n ls).length c2] 30)) rfl [.func (.func 53) #[] #[.pointer (some ⟨gO, 0, none⟩), .pointer (some ⟨b3, 0, none⟩)]] 121 0 _ rfl
    have e : (w2.alloc (.cells #[.slice p2 (ownL n ls).length c2] 30)).heap.size = gO + 1 := by simp [hgO]
    rw [e] at h
    exact h
  have hlt1 : gO + 1 < W1.heap.size := World.block_lt_of_cell? W1 _ hcF
  have hne : b4 < gO ∧ b3 ≠ b4 := ⟨by have h1 := hlB4.out.1; have h2 := hs2.out; omega, by have := hb34.out.1; omega⟩
  have hS : Hid (∀ W, Keeps (fun k => k = b4) W1 W → RowsAt 4 lineVals W (.slice p2 (ownL n ls).length c2) (ownL n ls) ∧ W.cell? ⟨gO, 0, none⟩ = some (.slice p2 (ownL n ls).length c2) ∧ W.cell? ⟨b3, 0, none⟩ = some (strv n) ∧ W.cell? ⟨gO + 1, 0, none⟩ = some (.func (.func 53) #[] #[.pointer (some ⟨gO, 0, none⟩), .pointer (some ⟨b3, 0, none⟩)])) := Lib.hid (fun W k => by
    refine ⟨((hO2'.out.at lineVals_len).keep hkA).keepF k (fun _ i e e2 => ?_), (k.cell (p := ⟨gO, 0, none⟩) (by show gO < _; omega) (by show ¬ gO = b4; omega)).trans hcO, (k.cell (p := ⟨b3, 0, none⟩) (by have := hlB4.out.2; have h2 := hkA.size; have h3 := hs2.out; show b3 < _; omega) hne.2).trans ((hkA.cell (p := ⟨b3, 0, none⟩) (by have := hlB4.out.2; have h3 := hs2.out; show b3 < _; omega) id).trans hcN2.out), (k.cell (p := ⟨gO + 1, 0, none⟩) hlt1 (by show ¬ gO + 1 = b4; omega)).trans hcF⟩
    have h1 := hO2'.out.2.1 i e
    have h2 := hlB4.out.1
    omega)
  have hBW1 := Lib.hid (hB42.out.keep hkA id)
  have hkw1 := Lib.hid (hkw2.out.trans hkA)
  clear hcO hcF hlt1 hne hkA hW1 hgO hcN2 hO2' hO2 hk2' hk2 hkw2 hs2 hdl hkW0 hcN1 hnB4 hv
  have hsz : ∀ F, (⟨(valueR ls 2 n F).toArray⟩ : ByteArray).size ≤ 9223372036854775807 := fun F => by
    have h := valueR_small hr.out 2 n F
    show (valueR ls 2 n F).toArray.size ≤ _
    simpa using h
  have hA : Hid (∀ (F : List UInt8) (V : ByteArray), V = ⟨(valueR ls 2 n F).toArray⟩ → ∀ W, Keeps (fun k => k = b4) W1 W → Calls Tryz.prog 53 #[.string ⟨F.toArray⟩, .pointer (some ⟨gO, 0, none⟩), .pointer (some ⟨b3, 0, none⟩)] W (NewRes (.string V) W)) := Lib.hid (fun F V hV W k => by
    obtain ⟨s1, s2, s3, s4⟩ := hS.out W k
    exact advSet2_any _ ls n gO b3 ⟨F.toArray⟩ V W (Lib.hid s1) hr (Lib.hid s2) (Lib.hid s3) (Lib.hid hV))
  have hNm : Hid (∀ (F : List UInt8) (m : Nat), numR ls n F = m → ∀ W, Keeps (fun k => k = b4) W1 W → Calls Tryz.prog 54 #[.string ⟨F.toArray⟩, .pointer (some ⟨gO + 1, 0, none⟩)] W (NewRes (.int .i64 m) W)) := Lib.hid (fun F m hm W k => by
    obtain ⟨s1, s2, s3, s4⟩ := hS.out W k
    have h := advSet3_any _ ls n gO b3 (gO + 1) ⟨F.toArray⟩ (decL (valueR ls 2 n F)) W (Lib.hid s1) hr (Lib.hid s2) (Lib.hid s3) (Lib.hid s4) (Lib.hid rfl)
    rw [← hm]; exact h)
  have hF4 : Hid (∀ W, Keeps (fun k => k = b4) W1 W → W.cell? ⟨gO + 1, 0, none⟩ = some (.func (.func 53) #[] #[.pointer (some ⟨gO, 0, none⟩), .pointer (some ⟨b3, 0, none⟩)])) := Lib.hid (fun W k => (hS.out W k).2.2.2)
  clear hS
  obtain ⟨V1, hV1⟩ : ∃ V : ByteArray, V = ⟨(valueR ls 2 n aAreaW).toArray⟩ := ⟨_, rfl⟩
  obtain ⟨V2, hV2⟩ : ∃ V : ByteArray, V = ⟨(valueR ls 2 n aAddrW).toArray⟩ := ⟨_, rfl⟩
  obtain ⟨r1, hr1⟩ : ∃ r, addrL (valueR ls 2 n aAreaW) = r := ⟨_, rfl⟩
  obtain ⟨r2, hr2⟩ : ∃ r, netL (valueR ls 2 n aAddrW) = r := ⟨_, rfl⟩
  have hAd : Hid (∀ W, Calls Tryz.prog 36 #[.string V1] W fun e w' => e = .returned (.tuple #[.int .u32 (r1.getD 0 : Nat), .bool r1.isSome]) ∧ Keeps (fun _ => False) W w') := Lib.hid (fun W => by
    have h := addr_r V1 r1 W (by rw [hV1]; exact hsz _) (Lib.hid (by rw [hV1]; exact hr1))
    refine h.mono ?_
    rintro e w' ⟨he, m, hm⟩
    refine ⟨by rw [he]; cases r1 <;> rfl, by rw [hm]; exact (Keeps.refl _ _).drewN m⟩)
  have hNt : Hid (∀ W, Calls Tryz.prog 56 #[.string V2] W fun e w' => e = .returned (.tuple #[.int .u32 ((r2.getD (0, 0)).1 : Nat), .int .i64 ((r2.getD (0, 0)).2 : Nat), .bool r2.isSome]) ∧ Keeps (fun _ => False) W w') := Lib.hid (fun W => by
    have h := net_r V2 r2 W (by rw [hV2]; exact hsz _) (Lib.hid (by rw [hV2]; exact hr2))
    refine h.mono ?_
    rintro e w' ⟨he, m, hm⟩
    refine ⟨by rw [he]; cases r2 <;> rfl, by rw [hm]; exact (Keeps.refl _ _).drewN m⟩)
  have c0 := hF4.out W1 (Keeps.refl _ _)
  have h1 := Lib.hid (hA.out aAreaW V1 hV1 W1 (Keeps.refl _ _))
  have hV1' := Lib.hid hV1
  have hV2' := Lib.hid hV2
  have hr1' := Lib.hid hr1
  have hr2' := Lib.hid hr2
  clear hV1 hV2 hr1 hr2 hsz
  go_wp2_with fail
  refine h1.out.mono ?_
  rintro e w3 ⟨rfl, hk3⟩
  have hk3' := Lib.hid hk3
  clear h1 hk3 c0
  go_wp2_with fail
  refine (hAd.out _).mono ?_
  rintro e w4 ⟨rfl, hk4⟩
  have hk4' := Lib.hid (hk3'.out.trans hk4)
  have c0 := hF4.out w4 (hk4'.out.mono (fun _ f => f.elim))
  have h1 := Lib.hid (hA.out aAddrW V2 hV2'.out w4 (hk4'.out.mono (fun _ f => f.elim)))
  clear hAd hk4 hk3'
  go_wp2_with fail
  refine h1.out.mono ?_
  rintro e w5 ⟨rfl, hk5⟩
  have hk5' := Lib.hid (hk4'.out.trans hk5)
  clear h1 hk5 hk4' c0
  go_wp2_with fail
  refine (hNt.out _).mono ?_
  rintro e w6 ⟨rfl, hk6⟩
  have hk6' := Lib.hid (hk5'.out.trans hk6)
  clear hNt hk6 hk5'
  have hB6 := Lib.hid (hBW1.out.keep hk6'.out id)
  obtain ⟨A1, hA1⟩ : ∃ a, r1.getD 0 = a := ⟨_, rfl⟩
  obtain ⟨X2, hX2⟩ : ∃ a, (r2.getD (0, 0)).1 = a := ⟨_, rfl⟩
  obtain ⟨K2, hK2⟩ : ∃ a, (r2.getD (0, 0)).2 = a := ⟨_, rfl⟩
  have hK32 : K2 ≤ 32 := by
    cases e : r2 with
    | none => rw [← hK2, e]; exact Nat.zero_le _
    | some q =>
      obtain ⟨a, m⟩ := q
      have h := (netL_in (hr2'.out.trans e)).2.2
      rw [← hK2, e]; exact h
  obtain ⟨m1, hm1⟩ : ∃ m, numR ls n aCostW = m := ⟨_, rfl⟩
  obtain ⟨m2, hm2⟩ : ∃ m, numR ls n aHelloW = m := ⟨_, rfl⟩
  obtain ⟨m3, hm3⟩ : ∃ m, numR ls n aDeadW = m := ⟨_, rfl⟩
  obtain ⟨m4, hm4⟩ : ∃ m, numR ls n aAgainW = m := ⟨_, rfl⟩
  obtain ⟨m5, hm5⟩ : ∃ m, numR ls n aPrioW = m := ⟨_, rfl⟩
  have hN1 := Lib.hid (hNm.out aCostW m1 hm1)
  have hN2 := Lib.hid (hNm.out aHelloW m2 hm2)
  have hN3 := Lib.hid (hNm.out aDeadW m3 hm3)
  have hN4 := Lib.hid (hNm.out aAgainW m4 hm4)
  have hN5 := Lib.hid (hNm.out aPrioW m5 hm5)
  obtain ⟨V6, hV6⟩ : ∃ V : ByteArray, V = ⟨(valueR ls 2 n aNetW).toArray⟩ := ⟨_, rfl⟩
  obtain ⟨V7, hV7⟩ : ∃ V : ByteArray, V = ⟨(valueR ls 2 n aAuthW).toArray⟩ := ⟨_, rfl⟩
  have hN6 := Lib.hid (hA.out aNetW V6 hV6)
  have hN7 := Lib.hid (hA.out aAuthW V7 hV7)
  obtain ⟨tw, htw⟩ : ∃ z, (V6.toList == (⟨#[112, 111, 105, 110, 116, 45, 116, 111, 45, 112, 111, 105, 110, 116]⟩ : ByteArray).toList) = z := ⟨_, rfl⟩
  have htw' := Lib.hid htw
  obtain ⟨J, hJ0⟩ : ∃ J, 32 - K2 = J := ⟨_, rfl⟩
  have hJ : Hid (IntKind.i64.wrap (32 - (K2 : Int)) = (J : Int)) := Lib.hid (by rw [IntWalk.i64_in _ (by omega)]; omega)
  have hJ1 : Hid (32 - K2 = J ∧ J ≤ 32) := Lib.hid ⟨hJ0, by omega⟩
  have hJn : (0 : Int) ≤ (J : Int) := by omega
  go_upto_region 6 with fail
  have hres := Lib.hid (And.intro hA1 (And.intro hX2 hK2))
  have hnum := Lib.hid (And.intro hm1 (And.intro hm2 (And.intro hm3 (And.intro hm4 hm5))))
  have hvv := Lib.hid (And.intro hV6 hV7)
  clear hJ0 hA1 hX2 hK2 hm1 hm2 hm3 hm4 hm5 hV6 hV7 htw hNm hA hBW1
  refine wp_region_noPanic ?_
  refine wp_region_held_drew (S := (fun W => Keeps (fun k => k = b4) W1 W ∧ ∃ cs, cs.length = 10 ∧ BlkAt W b4 45 cs)) (by kernel_rfl) ((⟨(hk6'.out.mono (fun _ f => f.elim)).drew, _, rfl, hB6.out.keep ((Keeps.refl (fun _ => False) _).drew) id⟩)) (fun hHeld => ?_)
  refine tk 0 rfl ?_
  refine tk 1 rfl ?_
  refine tk 2 rfl ?_
  refine tk 3 rfl ?_
  rw [hJ.out]
  refine tk 4 rfl ?_
  refine tk 5 rfl ?_
  refine tk 7 rfl ?_
  refine tk 9 rfl ?_
  refine tk 11 rfl ?_
  refine tk 13 rfl ?_
  refine tkL 15 rfl (yieldsIf_load_cell (by rfl) 121 (.tmp 6) rfl (gO + 1) 0 rfl _ (fun _ s => hF4.out _ s.1) (fun w s => load_fnss w _ _ _ s)) ?_
  refine tkL 18 rfl (yieldsIf_load_cell (by rfl) 121 (.tmp 6) rfl (gO + 1) 0 rfl _ (fun _ s => hF4.out _ s.1) (fun w s => load_fnss w _ _ _ s)) ?_
  refine stepL 6 rfl (by kernel_rfl) (fun K hK => ?_)
  go_simp
  (refine (hN1.out _ hHeld.1).mono ?_; rintro e w9 ⟨rfl, hk9⟩)
  go_wp2_with fail
  refine hK.out _ _ ((⟨hHeld.1.trans' hk9 (fun _ f => f.elim), by obtain ⟨cs, e1, e2⟩ := hHeld.2; exact ⟨cs, e1, e2.keep hk9 id⟩⟩)) (fun hHeld => ?_)
  clear hK K
  try simp only [Act.put, sA, sZ, sS]
  refine stepL 8 rfl (by kernel_rfl) (fun K hK => ?_)
  go_simp
  (refine (hN2.out _ hHeld.1).mono ?_; rintro e w9 ⟨rfl, hk9⟩)
  go_wp2_with fail
  refine hK.out _ _ ((⟨hHeld.1.trans' hk9 (fun _ f => f.elim), by obtain ⟨cs, e1, e2⟩ := hHeld.2; exact ⟨cs, e1, e2.keep hk9 id⟩⟩)) (fun hHeld => ?_)
  clear hK K
  try simp only [Act.put, sA, sZ, sS]
  refine stepL 10 rfl (by kernel_rfl) (fun K hK => ?_)
  go_simp
  (refine (hN3.out _ hHeld.1).mono ?_; rintro e w9 ⟨rfl, hk9⟩)
  go_wp2_with fail
  refine hK.out _ _ ((⟨hHeld.1.trans' hk9 (fun _ f => f.elim), by obtain ⟨cs, e1, e2⟩ := hHeld.2; exact ⟨cs, e1, e2.keep hk9 id⟩⟩)) (fun hHeld => ?_)
  clear hK K
  try simp only [Act.put, sA, sZ, sS]
  refine stepL 12 rfl (by kernel_rfl) (fun K hK => ?_)
  go_simp
  (refine (hN4.out _ hHeld.1).mono ?_; rintro e w9 ⟨rfl, hk9⟩)
  go_wp2_with fail
  refine hK.out _ _ ((⟨hHeld.1.trans' hk9 (fun _ f => f.elim), by obtain ⟨cs, e1, e2⟩ := hHeld.2; exact ⟨cs, e1, e2.keep hk9 id⟩⟩)) (fun hHeld => ?_)
  clear hK K
  try simp only [Act.put, sA, sZ, sS]
  refine stepL 14 rfl (by kernel_rfl) (fun K hK => ?_)
  go_simp
  (refine (hN5.out _ hHeld.1).mono ?_; rintro e w9 ⟨rfl, hk9⟩)
  go_wp2_with fail
  refine hK.out _ _ ((⟨hHeld.1.trans' hk9 (fun _ f => f.elim), by obtain ⟨cs, e1, e2⟩ := hHeld.2; exact ⟨cs, e1, e2.keep hk9 id⟩⟩)) (fun hHeld => ?_)
  clear hK K
  try simp only [Act.put, sA, sZ, sS]
  refine stepL 16 rfl (by kernel_rfl) (fun K hK => ?_)
  go_simp
  (refine (hN6.out _ hHeld.1).mono ?_; rintro e w9 ⟨rfl, hk9⟩)
  go_wp2_with fail
  refine hK.out _ _ ((⟨hHeld.1.trans' hk9 (fun _ f => f.elim), by obtain ⟨cs, e1, e2⟩ := hHeld.2; exact ⟨cs, e1, e2.keep hk9 id⟩⟩)) (fun hHeld => ?_)
  clear hK K
  try simp only [Act.put, sA, sZ, sS]
  refine tk 17 rfl ?_
  refine stepL 19 rfl (by kernel_rfl) (fun K hK => ?_)
  go_simp
  (refine (hN7.out _ hHeld.1).mono ?_; rintro e w9 ⟨rfl, hk9⟩)
  go_wp2_with fail
  refine hK.out _ _ ((⟨hHeld.1.trans' hk9 (fun _ f => f.elim), by obtain ⟨cs, e1, e2⟩ := hHeld.2; exact ⟨cs, e1, e2.keep hk9 id⟩⟩)) (fun hHeld => ?_)
  clear hK K
  try simp only [Act.put, sA, sZ, sS]
  refine tk 20 rfl ?_
  have hth9 : Hid (w9.there b4 0 10) := Lib.hid (by obtain ⟨cs, e1, e2⟩ := hHeld.2; exact e2.there 0 10 (by omega))
  refine stepL 21 rfl (by kernel_rfl) (fun K hK => ?_)
  rw [if_pos (by rfl)]
  (refine wp_store_mid 45 (.tmp 4) (.tmp 52) rfl b4 0 _ rfl rfl (by obtain ⟨cs, e1, e2⟩ := hHeld.2; exact e2.there 0 10 (by omega)) setInfo (by simp; exact ⟨rfl, rfl, rfl, rfl, rfl, rfl, rfl, rfl, rfl, rfl⟩) ?_)
  refine hK.out _ _ ((⟨hHeld.1.trans (Keeps.setCells (F := fun j => j = b4) (.inl rfl) _ _ _ (Keeps.refl _ _)), by obtain ⟨cs, e1, e2⟩ := hHeld.2; obtain ⟨c2, d1, d2, -⟩ := blk_sets _ 0 _ cs e2; exact ⟨c2, by rw [d2, e1], d1⟩⟩)) (fun hHeld => ?_)
  clear hK K
  try simp only [Act.put, sA, sZ, sS]
  refine wpAnyH_done (by kernel_rfl) (NoPanic.normal ?_) _
  have hK9 := Lib.hid hHeld.1
  clear hHeld
  have hrg := Lib.hid (World.rangeAt_setCells_same w9 b4 0 [Value.int IntKind.u32 A1, Value.int IntKind.u32 X2, Value.int IntKind.u32 (IntKind.u32.wrap (4294967295 * 2 ^ min J 32)), Value.int IntKind.i64 m1, Value.int IntKind.i64 m2, Value.int IntKind.i64 m3, Value.int IntKind.i64 m4, Value.int IntKind.i64 m5, Value.bool (V6.toList == [112, 111, 105, 110, 116, 45, 116, 111, 45, 112, 111, 105, 110, 116]), Value.string V7] hth9.out)
  generalize hWZ : w9.setCells b4 0 _ = WZ at hK9 hrg ⊢
  clear hWZ hth9
  go_wp2_with fail
  refine bodyPost_ret (ret_cell1 rfl _ WZ b4 _ _ rfl hrg.out Tryz.underlying45 rfl setInfo) rfl ⟨?_, hkw1.out.trans' hK9.out (fun i e => .inr (by rw [e]; exact hb34.out.2))⟩
  obtain ⟨f1, f2, f3⟩ := hres.out
  obtain ⟨g1, g2, g3, g4, g5⟩ := hnum.out
  obtain ⟨v6, v7⟩ := hvv.out
  obtain ⟨j1, j2⟩ := hJ1.out
  have q1 : (setD ls n).area = A1 := by show (addrL (valueR ls 2 n aAreaW)).getD 0 = _; rw [hr1'.out, f1]
  have q2 : (setD ls n).addr = X2 := by show ((netL (valueR ls 2 n aAddrW)).getD (0, 0)).1 = _; rw [hr2'.out, f2]
  have q3 : (((setD ls n).mask : Nat) : Int) = IntKind.u32.wrap (4294967295 * 2 ^ min J 32) := by
    show ((maskD ((netL (valueR ls 2 n aAddrW)).getD (0, 0)).2 : Nat) : Int) = _
    rw [hr2'.out, f3]
    unfold maskD
    rw [j1, Nat.min_eq_left j2]
    simp [IntKind.wrap, IntKind.signed, IntKind.bits]
  have q4 : (setD ls n).two = (V6.toList == [112, 111, 105, 110, 116, 45, 116, 111, 45, 112, 111, 105, 110, 116]) := by
    show (valueR ls 2 n aNetW == aTwoW) = _
    rw [v6, ba_toList]; rfl
  have q5 : strv (setD ls n).auth = .string V7 := by rw [v7]; rfl
  unfold setVals
  rw [q1, q2, q3, q4, q5, show (setD ls n).cost = m1 from g1, show (setD ls n).hello = m2 from g2, show (setD ls n).dead = m3 from g3, show (setD ls n).again = m4 from g4, show (setD ls n).prio = m5 from g5]
end Go.Proofs.YtialookpnoaogaaGreat
/- Of adv: may a configuration be used? -/
set_option linter.unusedVariables false
set_option linter.unusedSimpArgs false
namespace Go.Proofs.YtialookpnoaogaaGreat
open Go.RowKit

theorem isUsable_c (v : Value) (ls : List LineD) (z : Bool) (w : World) (hv : Hid (RowsAt 4 lineVals w v ls)) (hr : Hid (rightC ls = true)) (hz : Hid ((checkC ls).isEmpty = z)) :
    Calls Tryz.prog 18 #[v] w (NewRes (.bool z) w) := by
  have hc := Lib.hid (ruCheck_c v ls w hv hr)
  obtain ⟨F, hF⟩ : ∃ F, checkC ls = F := ⟨_, rfl⟩
  rw [hF] at hc hz
  clear hF
  go_enter Tryz.func18, Tryz.ntmps18
  go_wp2_with fail
  refine hc.out.mono ?_
  intro e w1 h1
  obtain ⟨p, c, rfl, hO, hk⟩ := h1
  have hk' := Lib.hid hk
  clear hc hO hk
  cases F with
  | nil =>
    have e1 : z = true := hz.out.symm
    subst e1
    go_wp2_with fail
    go_ret
    exact ⟨rfl, hk'.out⟩
  | cons f F =>
    have e1 : z = false := hz.out.symm
    subst e1
    obtain ⟨m, hm⟩ : ∃ m, (f :: F).length = m + 1 := ⟨F.length, rfl⟩
    simp only [hm]
    have l1 : (((m + 1 : Nat) : Int) == 0) = false := by rw [beq_eq_false_iff_ne]; omega
    go_wp2_with fail
    go_ret
    exact ⟨rfl, hk'.out⟩
end Go.Proofs.YtialookpnoaogaaGreat
/- Of adv: Settings. -/
set_option linter.unusedVariables false
set_option linter.unusedSimpArgs false
namespace Go.Proofs.YtialookpnoaogaaGreat
open Go.RowKit

theorem ret_cell_tmp {P : Program} {fn : Func} {p u : Tmp} {ty : TypeId} (h : fn.results = #[.cell p ty, .tmp u]) (tmps : Array Value) (w : World) (b : Nat) (cs : List Value) (d : TypeDesc) (hp : tmps.getD p undef = .pointer (some ⟨b, 0, none⟩))
    (hc : w.rangeAt b 0 cs) (hu : P.underlying ty = some d) (hd : d.isRow = true) (hi : (P.info? ty).map (·.size) = some cs.length) : (results fn tmps).run P w = .ok (.tuple #[.agg cs.toArray, tmps.getD u undef]) w := by
  rw [results_cell_tmp h, hp]
  have hl := run_loadVar_mid w b 0 ty cs d hc hu hd hi
  simp only [asAddr, Sem.run_pure, Result.andThen, hl]
def noSet : SetD := ⟨0, 0, 0, 0, 0, 0, 0, 0, false, []⟩
/-- what Settings answers -/
def setRes (ls : List LineD) (n : List UInt8) : SetD × Nat := if (checkC ls).isEmpty = false then (noSet, 7) else if (namesA 2 ls).contains n = false then (noSet, 6) else (setD ls n, 0)
theorem setVals_one (s : SetD) : (setVals s).toArray.all (·.oneCell') = true := by
  obtain ⟨a, b, c, d, e, f, g, h, t, u⟩ := s
  simp [setVals, strv]
  exact ⟨rfl, rfl, rfl, rfl, rfl, rfl, rfl, rfl, rfl, rfl⟩
theorem setVals_len (s : SetD) : (setVals s).length = 10 := rfl
set_option maxRecDepth 100000 in
set_option maxHeartbeats 8000000 in
theorem advSettings_c (v : Value) (ls : List LineD) (n : List UInt8) (w : World) (hv : Hid (RowsAt 4 lineVals w v ls)) (hr : Hid (rightC ls = true)) :
    Calls Tryz.prog 15 #[v, strv n] w (NewRes (.tuple #[.agg (setVals (setRes ls n).1).toArray, .int .i64 (setRes ls n).2]) w) := by
  obtain ⟨p, c, rfl⟩ := hv.out.slice
  obtain ⟨R, hR⟩ : ∃ R, setRes ls n = R := ⟨_, rfl⟩
  have hR' := Lib.hid hR
  rw [hR]
  clear hR
  obtain ⟨N, hN⟩ : ∃ N : ByteArray, (⟨n.toArray⟩ : ByteArray) = N := ⟨_, rfl⟩
  have hN' := Lib.hid hN
  unfold strv
  rw [hN]
  clear hN
  obtain ⟨z, hz⟩ : ∃ z, (checkC ls).isEmpty = z := ⟨_, rfl⟩
  have hz' := Lib.hid hz
  have hus := Lib.hid (fun W (k : Keeps (fun _ => False) w W) => isUsable_c _ ls z W (Lib.hid (hv.out.keep k)) hr hz')
  clear hz
  go_enter Tryz.func15, Tryz.ntmps15
  go_wp2_with fail
  refine (hus.out _ ((Keeps.refl _ _).alloc _)).mono ?_
  rintro e w1 ⟨rfl, hk1⟩
  have hB1 := Lib.hid ((BlkAt.new w 45 (setVals noSet)).keep hk1 id)
  have hk1' : Hid (Keeps (fun _ => False) w w1) := Lib.hid (((Keeps.refl _ _).alloc _).trans hk1)
  obtain ⟨b4, hb4⟩ : ∃ b, w.heap.size = b := ⟨_, rfl⟩
  rw [hb4] at hB1 ⊢
  have hb4' := Lib.hid hb4
  clear hus hk1 hb4
  cases z with
  | false =>
    have hRR : R = (noSet, 7) := by rw [← hR'.out]; unfold setRes; rw [hz'.out, if_pos rfl]
    subst hRR
    have hth := Lib.hid (hB1.out.there 0 10 (Nat.le_refl _))
    go_wp2_with ((with_reducible refine at_store 4 ?_); refine wpList_store_blk rfl 45 (.tmp 4) (.tmp 9) rfl b4 (setVals noSet).toArray rfl rfl hth.out setInfo (setVals_one _) ?_; intro w2 hr2 hk2)
    refine bodyPost_ret (ret_cell_tmp rfl _ w2 b4 _ _ rfl hr2.out Tryz.underlying45 rfl setInfo) rfl ⟨rfl, hk1'.out.trans' hk2.out (fun i e => .inr (by rw [e, hb4'.out]; exact Nat.le_refl _))⟩
  | true =>
    have hn := Lib.hid (names_all _ ls 2 w1 (Lib.hid (hv.out.keep hk1'.out)) hr)
    obtain ⟨y, hy⟩ : ∃ y, (namesA 2 ls).contains n = y := ⟨_, rfl⟩
    have hy' := Lib.hid hy
    clear hy
    go_wp2_with fail
    refine hn.out.mono ?_
    rintro e w2 ⟨pn, cn, rfl, hS2, hk2⟩
    have hk2' := Lib.hid (hk1'.out.trans hk2)
    have hB2 := Lib.hid (hB1.out.keep hk2 id)
    have hct := Lib.hid (slicesContains_any _ (namesA 2 ls) N y w2 hS2 (by have h1 := namesA_len 2 ls; have h2 := right_len hr.out; omega) (Lib.hid (by rw [← hN'.out]; exact hy'.out)))
    clear hn hS2 hk2 hk1' hB1
    go_wp2_with fail
    refine hct.out.mono ?_
    rintro e w3 ⟨rfl, rfl⟩
    clear hct
    cases y with
    | false =>
      have hRR : R = (noSet, 6) := by rw [← hR'.out]; unfold setRes; rw [hz'.out, if_neg (by decide), hy'.out, if_pos rfl]
      subst hRR
      have hth := Lib.hid (hB2.out.there 0 10 (Nat.le_refl _))
      go_wp2_with ((with_reducible refine at_store 4 ?_); refine wpList_store_blk rfl 45 (.tmp 4) (.tmp 15) rfl b4 (setVals noSet).toArray rfl rfl hth.out setInfo (setVals_one _) ?_; intro w4 hr4 hk4)
      refine bodyPost_ret (ret_cell_tmp rfl _ w4 b4 _ _ rfl hr4.out Tryz.underlying45 rfl setInfo) rfl ⟨rfl, hk2'.out.trans' hk4.out (fun i e => .inr (by rw [e, hb4'.out]; exact Nat.le_refl _))⟩
    | true =>
      have hRR : R = (setD ls n, 0) := by rw [← hR'.out]; unfold setRes; rw [hz'.out, if_neg (by decide), hy'.out, if_neg (by decide)]
      subst hRR
      have h0 : 0 < ls.length := by
        have h1 := hy'.out
        rw [List.contains_iff_mem] at h1
        have h2 := namesA_len 2 ls
        have h3 := List.length_pos_of_mem h1
        omega
      have hst := Lib.hid (settings_any _ ls n w2 (Lib.hid (hv.out.keep hk2'.out)) hr h0)
      unfold strv at hst
      rw [hN'.out] at hst
      go_wp2_with fail
      refine hst.out.mono ?_
      rintro e w4 ⟨rfl, hk4⟩
      have hk4' := Lib.hid (hk2'.out.trans hk4)
      have hB4 := Lib.hid (hB2.out.keep hk4 id)
      have hth := Lib.hid (hB4.out.there 0 10 (Nat.le_refl _))
      clear hst hk4 hB2 hk2'
      go_wp2_with ((with_reducible refine at_store 4 ?_); refine wpList_store_blk rfl 45 (.tmp 4) (.tmp 18) rfl b4 (setVals (setD ls n)).toArray rfl rfl hth.out setInfo (setVals_one _) ?_; intro w5 hr5 hk5)
      refine bodyPost_ret (ret_cell_tmp rfl _ w5 b4 _ _ rfl hr5.out Tryz.underlying45 rfl setInfo) rfl ⟨rfl, hk4'.out.trans' hk5.out (fun i e => .inr (by rw [e, hb4'.out]; exact Nat.le_refl _))⟩
end Go.Proofs.YtialookpnoaogaaGreat
