/- rules.Check, walked. -/
import Derived.Test.YtialookpnoaogaaGreatZZ23
import Derived.Test.YtialookpnoaogaaGreatZZ14
set_option linter.unusedVariables false
set_option linter.unusedSimpArgs false
set_option linter.unusedVariables false
set_option linter.unusedSimpArgs false
namespace Go.Proofs.YtialookpnoaogaaGreat
open Go.RowKit

def areaL : List UInt8 := [97, 114, 101, 97]
def addressL : List UInt8 := [97, 100, 100, 114, 101, 115, 115]
def checkC (ls : List LineD) : List FaultD :=
  routerC ls (namesA 2 ls) ++ unsetC 2 (namesA 2 ls) (valuesC ls (namesA 2 ls) areaL) ++ unsetC 3 (namesA 2 ls) (valuesC ls (namesA 2 ls) addressL) ++ overlapsC (namesA 2 ls) (valuesC ls (namesA 2 ls) addressL) ++
    badC (namesA 2 ls) (valuesC ls (namesA 2 ls) deadW) (valuesC ls (namesA 2 ls) helloW) ++ backC ls (valuesC ls (namesA 2 ls) areaL) ++ unusedC ls (valuesC ls (namesA 2 ls) areaL) ++ tooManyC (namesA 2 ls)
def checkR (ls : List LineD) : List FaultD × Nat := if rightC ls = true then (checkC ls, 0) else ([], 1)
def CRes (r : List FaultD × Nat) (w : World) (e : Ending) (w' : World) : Prop :=
  ∃ p c, e = .returned (.tuple #[.slice p r.1.length c, .int .i64 (r.2 : Int)]) ∧ OwnR 185 2 fVals w w' (.slice p r.1.length c) r.1 ∧ Keeps (fun _ => False) w w'
theorem fm_len {α β : Type} {f : α → List β} (h : ∀ x, (f x).length ≤ 1) : ∀ l : List α, (l.flatMap f).length ≤ l.length := by
  intro l
  induction l with
  | nil => simp
  | cons a l ih => rw [List.flatMap_cons, List.length_append, List.length_cons]; have := h a; omega
theorem router_len (ls : List LineD) (n : List (List UInt8)) : (routerC ls n).length ≤ 1 := by unfold routerC; split <;> simp
theorem unset_len (k : Int) (n v : List (List UInt8)) (h : n.length ≤ 64) : (unsetC k n v).length ≤ 64 := by
  unfold unsetC
  have := fm_len (f := fun p : List UInt8 × List UInt8 => if p.2 = [] then [(⟨k, p.1⟩ : FaultD)] else []) (fun p => by split <;> simp) (n.zip v)
  rw [List.length_zip] at this; omega
theorem over_len (n v : List (List UInt8)) (h : n.length ≤ 64) : (overlapsC n v).length ≤ 64 := by
  unfold overlapsC
  have := fm_len (f := overStep n v) (fun p => by unfold overStep; split <;> simp) (List.range n.length)
  rw [List.length_range] at this; omega
theorem bad_len (n d e : List (List UInt8)) (h : n.length ≤ 64) : (badC n d e).length ≤ 64 := by
  unfold badC
  have := fm_len (f := fun p : List UInt8 × (List UInt8 × List UInt8) => if decV p.2.1 ≤ decV p.2.2 then [(⟨5, p.1⟩ : FaultD)] else []) (fun p => by split <;> simp) (n.zip (d.zip e))
  rw [List.length_zip] at this; omega
theorem back_len (ls : List LineD) (a : List (List UInt8)) : (backC ls a).length ≤ 2 := by
  unfold backC; rw [List.length_append]
  have h1 : (if partedC a = true then [(⟨6, []⟩ : FaultD)] else []).length ≤ 1 := by split <;> simp
  have h2 : (if valueR ls 1 boneW typeW = normalW then [] else [(⟨6, boneW⟩ : FaultD)]).length ≤ 1 := by split <;> simp
  omega
theorem unused_len (ls : List LineD) (a : List (List UInt8)) (h : ls.length ≤ 64) : (unusedC ls a).length ≤ 64 := by
  unfold unusedC
  have := fm_len (f := fun n => if a.contains n = true then [] else [(⟨7, n⟩ : FaultD)]) (fun p => by split <;> simp) (namesA 1 ls)
  have := namesA_len 1 ls
  omega
theorem valueR_small {ls : List LineD} (hr : rightC ls = true) (h : Int) (n l : List UInt8) : (valueR ls h n l).length ≤ 9223372036854775807 := by
  unfold valueR
  split
  · rename_i q hq
    have := line_small (right_line hr q (List.mem_of_find?_eq_some hq))
    omega
  · split
    · rename_i r hr2
      have hall : ∀ q ∈ tableD, q.df.length ≤ 30 := by decide
      have := hall r (List.mem_of_find?_eq_some hr2)
      omega
    · simp
theorem values_small {ls : List LineD} (hr : rightC ls = true) (names : List (List UInt8)) (leaf : List UInt8) : ∀ x ∈ valuesC ls names leaf, x.length ≤ 9223372036854775807 := by
  intro x hx
  unfold valuesC at hx
  obtain ⟨n, _, rfl⟩ := List.mem_map.1 hx
  exact valueR_small hr _ _ _

set_option maxRecDepth 100000 in
set_option maxHeartbeats 4000000 in
theorem ruCheck_no (v : Value) (ls : List LineD) (w : World) (hv : Hid (RowsAt 4 lineVals w v ls)) (hl : ls.length ≤ 9223372036854775807) (hlt : Hid (LinesLt ls 9223372036854775807)) (hr : Hid (rightC ls = false)) :
    Calls Tryz.prog 45 #[v] w (CRes ([], 1) w) := by
  have hLn := Lib.hid hv.out.lines
  clear hv
  go_enter Tryz.func45, Tryz.ntmps45
  go_wp2_with fail
  refine (right_c _ ls false _ hLn hl hlt hr).mono ?_
  rintro e w2 ⟨rfl, k2⟩
  have k2' := Lib.hid k2
  clear k2
  go_wp2_with fail
  go_ret2
  exact ⟨none, 0, rfl, OwnR.nil _ _ k2'.out.size, k2'.out⟩

set_option maxRecDepth 100000 in
set_option maxHeartbeats 16000000 in
theorem ruCheck_c (v : Value) (ls : List LineD) (w : World) (hv : Hid (RowsAt 4 lineVals w v ls)) (hr : Hid (rightC ls = true)) :
    Calls Tryz.prog 45 #[v] w (CRes (checkC ls, 0) w) := by
  obtain ⟨i0, hi0, hi1, hi2, hi3⟩ := faultAll
  have hlen := right_len hr.out
  have hlt := Lib.hid (right_lt hr.out 9223372036854775807 (by omega))
  have hLn := Lib.hid hv.out.lines
  have hnl : (namesA 2 ls).length ≤ 64 := by have := namesA_len 2 ls; omega
  obtain ⟨N, hNe⟩ : ∃ N, namesA 2 ls = N := ⟨_, rfl⟩
  rw [hNe] at hnl
  have hNe' := Lib.hid hNe
  clear hNe
  go_enter Tryz.func45, Tryz.ntmps45
  go_wp2_with fail
  refine (right_c _ ls true _ hLn (by omega) hlt hr).mono ?_
  rintro e w1 ⟨rfl, k1⟩
  have hv1 := Lib.hid (hv.out.keep k1)
  have hk1 := Lib.hid k1
  clear k1 hv hLn hlt
  go_wp2_with fail
  refine (names_all _ ls 2 _ hv1 hr).mono ?_
  rw [hNe'.out]
  rintro e w2 ⟨pN, cN, rfl, hN0, k2⟩
  have hN2 := Lib.hid hN0
  have hv2 := Lib.hid (hv1.out.keep k2)
  have hk2 := Lib.hid (hk1.out.trans k2)
  clear k2 hN0 hv1 hk1
  go_wp2_with fail
  refine (ruValues_any _ _ ls N ⟨#[97, 114, 101, 97]⟩ _ hv2 hr hN2 hnl).mono ?_
  obtain ⟨A, hAe⟩ : ∃ A, valuesC ls N areaL = A := ⟨_, rfl⟩
  rw [show valuesC ls N (⟨#[97, 114, 101, 97]⟩ : ByteArray).data.toList = A from hAe]
  have hAl : A.length = N.length := by rw [← hAe]; exact valuesC_len _ _ _
  have hAe' := Lib.hid hAe
  have hAl' := Lib.hid hAl
  have hA64 : A.length ≤ 64 := by omega
  clear hAe hAl
  rintro e w3 ⟨pA, cA, rfl, hA0, k3⟩
  have hA3 := Lib.hid (rows_strs (hA0.at nv1_len))
  have hN3 := Lib.hid (hN2.out.keep k3 (fun _ _ _ f => f))
  have hv3 := Lib.hid (hv2.out.keep k3)
  have hk3 := Lib.hid (hk2.out.trans k3)
  clear k3 hA0 hN2 hv2 hk2
  go_wp2_with fail
  refine (ruValues_any _ _ ls N ⟨#[97, 100, 100, 114, 101, 115, 115]⟩ _ hv3 hr hN3 hnl).mono ?_
  obtain ⟨T, hTe⟩ : ∃ A, valuesC ls N addressL = A := ⟨_, rfl⟩
  rw [show valuesC ls N (⟨#[97, 100, 100, 114, 101, 115, 115]⟩ : ByteArray).data.toList = T from hTe]
  have hTl' := Lib.hid (show T.length = N.length by rw [← hTe]; exact valuesC_len _ _ _)
  have hTs := Lib.hid (show ∀ x ∈ T, x.length ≤ 9223372036854775807 by rw [← hTe]; exact values_small hr.out _ _)
  have hTe' := Lib.hid hTe
  clear hTe
  rintro e w4 ⟨pT, cT, rfl, hT0, k4⟩
  have hT4 := Lib.hid (hT0.at nv1_len)
  have hA4 := Lib.hid (hA3.out.keep k4 (fun _ _ _ f => f))
  have hN4 := Lib.hid (hN3.out.keep k4 (fun _ _ _ f => f))
  have hv4 := Lib.hid (hv3.out.keep k4)
  have hk4 := Lib.hid (hk3.out.trans k4)
  clear k4 hT0 hA3 hN3 hv3 hk3
  go_wp2_with fail
  refine (ruRouter_any _ _ ls N _ hv4 hr hN4 hnl).mono ?_
  rintro e w5 ⟨pL, cL, rfl, hL0, k5⟩
  have hrl := router_len ls N
  obtain ⟨L0, hL0e⟩ : ∃ L, routerC ls N = L := ⟨_, rfl⟩
  rw [hL0e] at hL0 hrl ⊢
  have hLe0 := Lib.hid hL0e
  have hL5 := Lib.hid hL0
  have hK5 := Lib.hid k5
  clear k5 hL0 hL0e
  go_wp2_with fail
  refine (ruUnset_any 2 _ _ N A _ (Lib.hid (hN4.out.keep hK5.out (fun _ _ _ f => f))) (Lib.hid (hA4.out.keep hK5.out (fun _ _ _ f => f))) hAl' hnl).mono ?_
  rintro e w6 ⟨pX0, cX0, rfl, hX0, k6⟩
  have hyl0 := unset_len 2 N A hnl
  obtain ⟨Y0, hYe0⟩ : ∃ L, unsetC 2 N A = L := ⟨_, rfl⟩
  rw [hYe0] at hX0 hyl0 ⊢
  have hYf0 := Lib.hid hYe0
  have hY0 := Lib.hid (hX0.at fVals_len)
  have hL6 := Lib.hid (hL5.out.keep k6 (fun _ _ f => f))
  have hK6 := Lib.hid (hK5.out.trans k6)
  clear k6 hX0 hL5 hK5 hYe0
  go_upto_region 8 with ((with_reducible refine at_slot 26 ?_); refine wpList_append_rows rfl (.tmp 22) (.tmp 25) 112 185 rfl i0 _ 24 Tryz.underlying112 hi0 hi1 hi2 hi3 rfl (by decide) (by decide) fVals_len fVals_one w4 _ L0 rfl hL6.out _ rfl Y0 hY0.out (by omega) ?_; intro pL7 cL7 w7 hZ7 hG7)
  have hK7 := Lib.hid (OwnR.keeps hL6.out hK6.out hG7.out)
  obtain ⟨L1, hLl1⟩ : ∃ L, L0 ++ Y0 = L := ⟨_, rfl⟩
  have hLen1 : L1.length ≤ 65 := by rw [← hLl1, List.length_append]; omega
  have hLeq1 : L0.length + Y0.length = L1.length := by rw [← hLl1, List.length_append]
  rw [hLl1, hLeq1] at hZ7
  rw [hLeq1]
  have hL7 := hZ7
  have hLf1 := Lib.hid hLl1
  clear hLeq1 hLl1 hL6 hK6 hG7 hY0
  go_wp2_with fail
  refine (ruUnset_any 3 _ _ N T _ (Lib.hid (hN4.out.keep hK7.out (fun _ _ _ f => f))) (Lib.hid (rows_strs (hT4.out.keep hK7.out))) hTl' hnl).mono ?_
  rintro e w8 ⟨pX1, cX1, rfl, hX0, k8⟩
  have hyl1 := unset_len 3 N T hnl
  obtain ⟨Y1, hYe1⟩ : ∃ L, unsetC 3 N T = L := ⟨_, rfl⟩
  rw [hYe1] at hX0 hyl1 ⊢
  have hYf1 := Lib.hid hYe1
  have hY1 := Lib.hid (hX0.at fVals_len)
  have hL8 := Lib.hid (hL7.out.keep k8 (fun _ _ f => f))
  have hK8 := Lib.hid (hK7.out.trans k8)
  clear k8 hX0 hL7 hK7 hYe1
  go_upto_region 9 with ((with_reducible refine at_slot 31 ?_); refine wpList_append_rows rfl (.tmp 27) (.tmp 30) 112 185 rfl i0 _ 24 Tryz.underlying112 hi0 hi1 hi2 hi3 rfl (by decide) (by decide) fVals_len fVals_one w4 _ L1 rfl hL8.out _ rfl Y1 hY1.out (by omega) ?_; intro pL9 cL9 w9 hZ9 hG9)
  have hK9 := Lib.hid (OwnR.keeps hL8.out hK8.out hG9.out)
  obtain ⟨L2, hLl2⟩ : ∃ L, L1 ++ Y1 = L := ⟨_, rfl⟩
  have hLen2 : L2.length ≤ 129 := by rw [← hLl2, List.length_append]; omega
  have hLeq2 : L1.length + Y1.length = L2.length := by rw [← hLl2, List.length_append]
  rw [hLl2, hLeq2] at hZ9
  rw [hLeq2]
  have hL9 := hZ9
  have hLf2 := Lib.hid hLl2
  clear hLeq2 hLl2 hL8 hK8 hG9 hY1
  go_wp2_with fail
  refine (ruOver_any _ _ N T _ (Lib.hid (hN4.out.keep hK9.out (fun _ _ _ f => f))) (Lib.hid (hT4.out.keep hK9.out)) hTl' hnl hTs).mono ?_
  rintro e w10 ⟨pX2, cX2, rfl, hX0, k10⟩
  have hyl2 := over_len N T hnl
  obtain ⟨Y2, hYe2⟩ : ∃ L, overlapsC N T = L := ⟨_, rfl⟩
  rw [hYe2] at hX0 hyl2 ⊢
  have hYf2 := Lib.hid hYe2
  have hY2 := Lib.hid (hX0.at fVals_len)
  have hL10 := Lib.hid (hL9.out.keep k10 (fun _ _ f => f))
  have hK10 := Lib.hid (hK9.out.trans k10)
  clear k10 hX0 hL9 hK9 hYe2
  go_upto_region 10 with ((with_reducible refine at_slot 36 ?_); refine wpList_append_rows rfl (.tmp 32) (.tmp 35) 112 185 rfl i0 _ 24 Tryz.underlying112 hi0 hi1 hi2 hi3 rfl (by decide) (by decide) fVals_len fVals_one w4 _ L2 rfl hL10.out _ rfl Y2 hY2.out (by omega) ?_; intro pL11 cL11 w11 hZ11 hG11)
  have hK11 := Lib.hid (OwnR.keeps hL10.out hK10.out hG11.out)
  obtain ⟨L3, hLl3⟩ : ∃ L, L2 ++ Y2 = L := ⟨_, rfl⟩
  have hLen3 : L3.length ≤ 193 := by rw [← hLl3, List.length_append]; omega
  have hLeq3 : L2.length + Y2.length = L3.length := by rw [← hLl3, List.length_append]
  rw [hLl3, hLeq3] at hZ11
  rw [hLeq3]
  have hL11 := hZ11
  have hLf3 := Lib.hid hLl3
  clear hLeq3 hLl3 hL10 hK10 hG11 hY2
  go_wp2_with fail
  refine (ruBad_any _ _ ls N _ (Lib.hid (hv4.out.keep hK11.out)) hr (Lib.hid (hN4.out.keep hK11.out (fun _ _ _ f => f))) hnl).mono ?_
  rintro e w12 ⟨pX3, cX3, rfl, hX0, k12⟩
  have hyl3 := bad_len N (valuesC ls N deadW) (valuesC ls N helloW) hnl
  obtain ⟨Y3, hYe3⟩ : ∃ L, badC N (valuesC ls N deadW) (valuesC ls N helloW) = L := ⟨_, rfl⟩
  rw [hYe3] at hX0 hyl3 ⊢
  have hYf3 := Lib.hid hYe3
  have hY3 := Lib.hid (hX0.at fVals_len)
  have hL12 := Lib.hid (hL11.out.keep k12 (fun _ _ f => f))
  have hK12 := Lib.hid (hK11.out.trans k12)
  clear k12 hX0 hL11 hK11 hYe3
  go_upto_region 11 with ((with_reducible refine at_slot 41 ?_); refine wpList_append_rows rfl (.tmp 37) (.tmp 40) 112 185 rfl i0 _ 24 Tryz.underlying112 hi0 hi1 hi2 hi3 rfl (by decide) (by decide) fVals_len fVals_one w4 _ L3 rfl hL12.out _ rfl Y3 hY3.out (by omega) ?_; intro pL13 cL13 w13 hZ13 hG13)
  have hK13 := Lib.hid (OwnR.keeps hL12.out hK12.out hG13.out)
  obtain ⟨L4, hLl4⟩ : ∃ L, L3 ++ Y3 = L := ⟨_, rfl⟩
  have hLen4 : L4.length ≤ 257 := by rw [← hLl4, List.length_append]; omega
  have hLeq4 : L3.length + Y3.length = L4.length := by rw [← hLl4, List.length_append]
  rw [hLl4, hLeq4] at hZ13
  rw [hLeq4]
  have hL13 := hZ13
  have hLf4 := Lib.hid hLl4
  clear hLeq4 hLl4 hL12 hK12 hG13 hY3
  go_wp2_with fail
  refine (ruBack_any _ _ ls A _ (Lib.hid (hv4.out.keep hK13.out)) hr (Lib.hid (hA4.out.keep hK13.out (fun _ _ _ f => f))) hA64).mono ?_
  rintro e w14 ⟨pX4, cX4, rfl, hX0, k14⟩
  have hyl4 := back_len ls A
  obtain ⟨Y4, hYe4⟩ : ∃ L, backC ls A = L := ⟨_, rfl⟩
  rw [hYe4] at hX0 hyl4 ⊢
  have hYf4 := Lib.hid hYe4
  have hY4 := Lib.hid (hX0.at fVals_len)
  have hL14 := Lib.hid (hL13.out.keep k14 (fun _ _ f => f))
  have hK14 := Lib.hid (hK13.out.trans k14)
  clear k14 hX0 hL13 hK13 hYe4
  go_upto_region 12 with ((with_reducible refine at_slot 46 ?_); refine wpList_append_rows rfl (.tmp 42) (.tmp 45) 112 185 rfl i0 _ 24 Tryz.underlying112 hi0 hi1 hi2 hi3 rfl (by decide) (by decide) fVals_len fVals_one w4 _ L4 rfl hL14.out _ rfl Y4 hY4.out (by omega) ?_; intro pL15 cL15 w15 hZ15 hG15)
  have hK15 := Lib.hid (OwnR.keeps hL14.out hK14.out hG15.out)
  obtain ⟨L5, hLl5⟩ : ∃ L, L4 ++ Y4 = L := ⟨_, rfl⟩
  have hLen5 : L5.length ≤ 321 := by rw [← hLl5, List.length_append]; omega
  have hLeq5 : L4.length + Y4.length = L5.length := by rw [← hLl5, List.length_append]
  rw [hLl5, hLeq5] at hZ15
  rw [hLeq5]
  have hL15 := hZ15
  have hLf5 := Lib.hid hLl5
  clear hLeq5 hLl5 hL14 hK14 hG15 hY4
  go_wp2_with fail
  refine (ruUnused_any _ _ ls A _ (Lib.hid (hv4.out.keep hK15.out)) hr (Lib.hid (hA4.out.keep hK15.out (fun _ _ _ f => f))) hA64).mono ?_
  rintro e w16 ⟨pX5, cX5, rfl, hX0, k16⟩
  have hyl5 := unused_len ls A hlen
  obtain ⟨Y5, hYe5⟩ : ∃ L, unusedC ls A = L := ⟨_, rfl⟩
  rw [hYe5] at hX0 hyl5 ⊢
  have hYf5 := Lib.hid hYe5
  have hY5 := Lib.hid (hX0.at fVals_len)
  have hL16 := Lib.hid (hL15.out.keep k16 (fun _ _ f => f))
  have hK16 := Lib.hid (hK15.out.trans k16)
  clear k16 hX0 hL15 hK15 hYe5
  go_upto_region 13 with ((with_reducible refine at_slot 51 ?_); refine wpList_append_rows rfl (.tmp 47) (.tmp 50) 112 185 rfl i0 _ 24 Tryz.underlying112 hi0 hi1 hi2 hi3 rfl (by decide) (by decide) fVals_len fVals_one w4 _ L5 rfl hL16.out _ rfl Y5 hY5.out (by omega) ?_; intro pL17 cL17 w17 hZ17 hG17)
  have hK17 := Lib.hid (OwnR.keeps hL16.out hK16.out hG17.out)
  obtain ⟨L6, hLl6⟩ : ∃ L, L5 ++ Y5 = L := ⟨_, rfl⟩
  have hLen6 : L6.length ≤ 385 := by rw [← hLl6, List.length_append]; omega
  have hLeq6 : L5.length + Y5.length = L6.length := by rw [← hLl6, List.length_append]
  rw [hLl6, hLeq6] at hZ17
  rw [hLeq6]
  have hL17 := hZ17
  have hLf6 := Lib.hid hLl6
  clear hLeq6 hLl6 hL16 hK16 hG17 hY5
  go_wp2_with fail
  refine (ruTooMany_any _ N _ (Lib.hid (hN4.out.keep hK17.out (fun _ _ _ f => f))) hnl).mono ?_
  rintro e w18 ⟨pX6, cX6, rfl, hX0, k18⟩
  have hyl6 := (show (tooManyC N).length ≤ 1 by unfold tooManyC; split <;> simp)
  obtain ⟨Y6, hYe6⟩ : ∃ L, tooManyC N = L := ⟨_, rfl⟩
  rw [hYe6] at hX0 hyl6 ⊢
  have hYf6 := Lib.hid hYe6
  have hY6 := Lib.hid (hX0.at fVals_len)
  have hL18 := Lib.hid (hL17.out.keep k18 (fun _ _ f => f))
  have hK18 := Lib.hid (hK17.out.trans k18)
  clear k18 hX0 hL17 hK17 hYe6
  go_wp2_with ((with_reducible refine at_slot 55 ?_); refine wpList_append_rows rfl (.tmp 52) (.tmp 54) 112 185 rfl i0 _ 24 Tryz.underlying112 hi0 hi1 hi2 hi3 rfl (by decide) (by decide) fVals_len fVals_one w4 _ L6 rfl hL18.out _ rfl Y6 hY6.out (by omega) ?_; intro pL19 cL19 w19 hZ19 hG19)
  have hK19 := Lib.hid (OwnR.keeps hL18.out hK18.out hG19.out)
  obtain ⟨L7, hLl7⟩ : ∃ L, L6 ++ Y6 = L := ⟨_, rfl⟩
  have hLen7 : L7.length ≤ 449 := by rw [← hLl7, List.length_append]; omega
  have hLeq7 : L6.length + Y6.length = L7.length := by rw [← hLl7, List.length_append]
  rw [hLl7, hLeq7] at hZ19
  rw [hLeq7]
  have hL19 := hZ19
  have hLf7 := Lib.hid hLl7
  clear hLeq7 hLl7 hL18 hK18 hG19 hY6
  go_ret2
  have hall : checkC ls = L7 := by
    unfold checkC
    rw [hNe'.out, hAe'.out, hTe'.out, hLe0.out, hYf0.out, hYf1.out, hYf2.out, hYf3.out, hYf4.out, hYf5.out, hYf6.out, hLf1.out, hLf2.out, hLf3.out, hLf4.out, hLf5.out, hLf6.out, hLf7.out]
  rw [hall]
  exact ⟨_, _, rfl, hL19.out.older hk4.out.size, hk4.out.trans hK19.out⟩
theorem ruCheck_any (v : Value) (ls : List LineD) (w : World) (hv : Hid (RowsAt 4 lineVals w v ls)) (hl : ls.length ≤ 9223372036854775807) (hlt : Hid (LinesLt ls 9223372036854775807)) :
    Calls Tryz.prog 45 #[v] w (CRes (checkR ls) w) := by
  unfold checkR
  cases hz : rightC ls with
  | true => rw [if_pos rfl]; exact ruCheck_c v ls w hv (Lib.hid hz)
  | false => rw [if_neg (by simp)]; exact ruCheck_no v ls w hv hl hlt (Lib.hid hz)
end Go.Proofs.YtialookpnoaogaaGreat
