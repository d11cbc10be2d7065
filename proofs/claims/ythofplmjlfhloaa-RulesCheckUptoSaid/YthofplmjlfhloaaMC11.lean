/- rules.Check, walked. -/
import Derived.Test.YthofplmjlfhloaaMC10
import Derived.Test.YthofplmjlfhloaaMC07
import Derived.Shelf.Strings.Builder1
import Derived.Test.YthofplmjlfhloaaProg
set_option linter.unusedVariables false
set_option linter.unusedSimpArgs false
set_option linter.unusedVariables false
set_option linter.unusedSimpArgs false
namespace Go.Proofs.Ythofplmjlfhloaa
open Go.RowKit

def areaL : List UInt8 := [97, 114, 101, 97]
def addressL : List UInt8 := [97, 100, 100, 114, 101, 115, 115]
def checkC (ls : List LineD) : List FaultD :=
  routerC ls (namesA 2 ls) ++ unsetC 2 (namesA 2 ls) (valuesC ls (namesA 2 ls) areaL) ++ unsetC 3 (namesA 2 ls) (valuesC ls (namesA 2 ls) addressL) ++ overlapsC (namesA 2 ls) (valuesC ls (namesA 2 ls) addressL) ++
    badC (namesA 2 ls) (valuesC ls (namesA 2 ls) deadW) (valuesC ls (namesA 2 ls) helloW) ++ backC ls (valuesC ls (namesA 2 ls) areaL) ++ unusedC ls (valuesC ls (namesA 2 ls) areaL) ++ tooManyC (namesA 2 ls)
def checkR (ls : List LineD) : List FaultD × Nat := if rightC ls = true then (checkC ls, 0) else ([], 1)
def CRes (r : List FaultD × Nat) (w : World) (e : Ending) (w' : World) : Prop :=
  ∃ p c, e = .returned (.tuple #[.slice p r.1.length c, .int .i64 (r.2 : Int)]) ∧ OwnR 41 2 fVals w w' (.slice p r.1.length c) r.1 ∧ Keeps (fun _ => False) w w'
theorem fm_len {α β : Type} {f : α → List β} (h : ∀ x, (f x).length ≤ 1) : ∀ l : List α, (l.flatMap f).length ≤ l.length := by
  intro l
  induction l with
  | nil => simp
  | cons a l ih => rw [List.flatMap_cons, List.length_append, List.length_cons]; have := h a; omega
theorem router_len (ls : List LineD) (n : List (List UInt8)) : (routerC ls n).length ≤ 1 := by unfold routerC; split <;> simp
theorem unset_len (k : Int) (n v : List (List UInt8)) (h : n.length ≤ 64) : (unsetC k n v).length ≤ 64 := by
  unfold unsetC
  have := fm_len (f := fun p : List UInt8 × List UInt8 => if p.2 = [] then [(⟨k, p.1⟩ : FaultD)] else []) (fun p => by split <;> simp) (n.zip v)
  rw [List.length_zip] at this; omega
theorem over_len (n v : List (List UInt8)) (h : n.length ≤ 64) : (overlapsC n v).length ≤ 64 := by
  unfold overlapsC
  have := fm_len (f := overStep n v) (fun p => by unfold overStep; split <;> simp) (List.range n.length)
  rw [List.length_range] at this; omega
theorem bad_len (n d e : List (List UInt8)) (h : n.length ≤ 64) : (badC n d e).length ≤ 64 := by
  unfold badC
  have := fm_len (f := fun p : List UInt8 × (List UInt8 × List UInt8) => if decV p.2.1 ≤ decV p.2.2 then [(⟨5, p.1⟩ : FaultD)] else []) (fun p => by split <;> simp) (n.zip (d.zip e))
  rw [List.length_zip] at this; omega
theorem back_len (ls : List LineD) (a : List (List UInt8)) : (backC ls a).length ≤ 2 := by
  unfold backC; rw [List.length_append]
  have h1 : (if partedC a = true then [(⟨6, []⟩ : FaultD)] else []).length ≤ 1 := by split <;> simp
  have h2 : (if valueR ls 1 boneW typeW = normalW then [] else [(⟨6, boneW⟩ : FaultD)]).length ≤ 1 := by split <;> simp
  omega
theorem unused_len (ls : List LineD) (a : List (List UInt8)) (h : ls.length ≤ 64) : (unusedC ls a).length ≤ 64 := by
  unfold unusedC
  have := fm_len (f := fun n => if a.contains n = true then [] else [(⟨7, n⟩ : FaultD)]) (fun p => by split <;> simp) (namesA 1 ls)
  have := namesA_len 1 ls
  omega
theorem valueR_small {ls : List LineD} (hr : rightC ls = true) (h : Int) (n l : List UInt8) : (valueR ls h n l).length ≤ 9223372036854775807 := by
  unfold valueR
  split
  · rename_i q hq
    have := line_small (right_line hr q (List.mem_of_find?_eq_some hq))
    omega
  · split
    · rename_i r hr2
      have hall : ∀ q ∈ tableD, q.df.length ≤ 30 := by decide
      have := hall r (List.mem_of_find?_eq_some hr2)
      omega
    · simp
theorem values_small {ls : List LineD} (hr : rightC ls = true) (names : List (List UInt8)) (leaf : List UInt8) : ∀ x ∈ valuesC ls names leaf, x.length ≤ 9223372036854775807 := by
  intro x hx
  unfold valuesC at hx
  obtain ⟨n, _, rfl⟩ := List.mem_map.1 hx
  exact valueR_small hr _ _ _

set_option maxRecDepth 100000 in
set_option maxHeartbeats 4000000 in
theorem ruCheck_no (v : Value) (ls : List LineD) (w : World) (hv : Hid (RowsAt 4 lineVals w v ls)) (hl : ls.length ≤ 9223372036854775807) (hlt : Hid (LinesLt ls 9223372036854775807)) (hr : Hid (rightC ls = false)) :
    Calls Try.prog 7 #[v] w (CRes ([], 1) w) := by
  have hLn := Lib.hid hv.out.lines
  clear hv
  go_enter Try.func7, Try.ntmps7
  go_wp2_with fail
  refine (right_c _ ls false _ hLn hl hlt hr).mono ?_
  rintro e w2 ⟨rfl, k2⟩
  have k2' := Lib.hid k2
  clear k2
  go_wp2_with fail
  go_ret2
  exact ⟨none, 0, rfl, OwnR.nil _ _ k2'.out.size, k2'.out⟩

set_option maxRecDepth 100000 in
set_option maxHeartbeats 16000000 in
theorem ruCheck_c (v : Value) (ls : List LineD) (w : World) (hv : Hid (RowsAt 4 lineVals w v ls)) (hr : Hid (rightC ls = true)) :
    Calls Try.prog 7 #[v] w (CRes (checkC ls, 0) w) := by
  obtain ⟨i0, hi0, hi1, hi2, hi3⟩ := faultAll
  have hlen := right_len hr.out
  have hlt := Lib.hid (right_lt hr.out 9223372036854775807 (by omega))
  have hLn := Lib.hid hv.out.lines
  have hnl : (namesA 2 ls).length ≤ 64 := by have := namesA_len 2 ls; omega
  obtain ⟨N, hNe⟩ : ∃ N, namesA 2 ls = N := ⟨_, rfl⟩
  rw [hNe] at hnl
  have hNe' := Lib.hid hNe
  clear hNe
  go_enter Try.func7, Try.ntmps7
  go_wp2_with fail
  refine (right_c _ ls true _ hLn (by omega) hlt hr).mono ?_
  rintro e w1 ⟨rfl, k1⟩
  have hv1 := Lib.hid (hv.out.keep k1)
  have hk1 := Lib.hid k1
  clear k1 hv hLn hlt
  go_wp2_with fail
  refine (names_all _ ls 2 _ hv1 hr).mono ?_
  rw [hNe'.out]
  rintro e w2 ⟨pN, cN, rfl, hN0, k2⟩
  have hN2 := Lib.hid hN0
  have hv2 := Lib.hid (hv1.out.keep k2)
  have hk2 := Lib.hid (hk1.out.trans k2)
  clear k2 hN0 hv1 hk1
  go_wp2_with fail
  refine (ruValues_any _ _ ls N ⟨#[97, 114, 101, 97]⟩ _ hv2 hr hN2 hnl).mono ?_
  obtain ⟨A, hAe⟩ : ∃ A, valuesC ls N areaL = A := ⟨_, rfl⟩
  rw [show valuesC ls N (⟨#[97, 114, 101, 97]⟩ : ByteArray).data.toList = A from hAe]
  have hAl : A.length = N.length := by rw [← hAe]; exact valuesC_len _ _ _
  have hAe' := Lib.hid hAe
  have hAl' := Lib.hid hAl
  have hA64 : A.length ≤ 64 := by omega
  clear hAe hAl
  rintro e w3 ⟨pA, cA, rfl, hA0, k3⟩
  have hA3 := Lib.hid (rows_strs (hA0.at nv1_len))
  have hN3 := Lib.hid (hN2.out.keep k3 (fun _ _ _ f => f))
  have hv3 := Lib.hid (hv2.out.keep k3)
  have hk3 := Lib.hid (hk2.out.trans k3)
  clear k3 hA0 hN2 hv2 hk2
  go_wp2_with fail
  refine (ruValues_any _ _ ls N ⟨#[97, 100, 100, 114, 101, 115, 115]⟩ _ hv3 hr hN3 hnl).mono ?_
  obtain ⟨T, hTe⟩ : ∃ A, valuesC ls N addressL = A := ⟨_, rfl⟩
  rw [show valuesC ls N (⟨#[97, 100, 100, 114, 101, 115, 115]⟩ : ByteArray).data.toList = T from hTe]
  have hTl' := Lib.hid (show T.length = N.length by rw [← hTe]; exact valuesC_len _ _ _)
  have hTs := Lib.hid (show ∀ x ∈ T, x.length ≤ 9223372036854775807 by rw [← hTe]; exact values_small hr.out _ _)
  have hTe' := Lib.hid hTe
  clear hTe
  rintro e w4 ⟨pT, cT, rfl, hT0, k4⟩
  have hT4 := Lib.hid (hT0.at nv1_len)
  have hA4 := Lib.hid (hA3.out.keep k4 (fun _ _ _ f => f))
  have hN4 := Lib.hid (hN3.out.keep k4 (fun _ _ _ f => f))
  have hv4 := Lib.hid (hv3.out.keep k4)
  have hk4 := Lib.hid (hk3.out.trans k4)
  clear k4 hT0 hA3 hN3 hv3 hk3
  go_wp2_with fail
  refine (ruRouter_any _ _ ls N _ hv4 hr hN4 hnl).mono ?_
  rintro e w5 ⟨pL, cL, rfl, hL0, k5⟩
  have hrl := router_len ls N
  obtain ⟨L0, hL0e⟩ : ∃ L, routerC ls N = L := ⟨_, rfl⟩
  rw [hL0e] at hL0 hrl ⊢
  have hLe0 := Lib.hid hL0e
  have hL5 := Lib.hid hL0
  have hK5 := Lib.hid k5
  clear k5 hL0 hL0e
  go_wp2_with fail
  refine (ruUnset_any 2 _ _ N A _ (Lib.hid (hN4.out.keep hK5.out (fun _ _ _ f => f))) (Lib.hid (hA4.out.keep hK5.out (fun _ _ _ f => f))) hAl' hnl).mono ?_
  rintro e w6 ⟨pX0, cX0, rfl, hX0, k6⟩
  have hyl0 := unset_len 2 N A hnl
  obtain ⟨Y0, hYe0⟩ : ∃ L, unsetC 2 N A = L := ⟨_, rfl⟩
  rw [hYe0] at hX0 hyl0 ⊢
  have hYf0 := Lib.hid hYe0
  have hY0 := Lib.hid (hX0.at fVals_len)
  have hL6 := Lib.hid (hL5.out.keep k6 (fun _ _ f => f))
  have hK6 := Lib.hid (hK5.out.trans k6)
  clear k6 hX0 hL5 hK5 hYe0
  go_upto_region 8 with ((with_reducible refine at_slot 26 ?_); refine wpList_append_rows rfl (.tmp 22) (.tmp 25) 24 41 rfl i0 _ 24 Try.underlying24 hi0 hi1 hi2 hi3 rfl (by decide) (by decide) fVals_len fVals_one w4 _ L0 rfl hL6.out _ rfl Y0 hY0.out (by omega) ?_; intro pL7 cL7 w7 hZ7 hG7)
  have hK7 := Lib.hid (OwnR.keeps hL6.out hK6.out hG7.out)
  obtain ⟨L1, hLl1⟩ : ∃ L, L0 ++ Y0 = L := ⟨_, rfl⟩
  have hLen1 : L1.length ≤ 65 := by rw [← hLl1, List.length_append]; omega
  have hLeq1 : L0.length + Y0.length = L1.length := by rw [← hLl1, List.length_append]
  rw [hLl1, hLeq1] at hZ7
  rw [hLeq1]
  have hL7 := hZ7
  have hLf1 := Lib.hid hLl1
  clear hLeq1 hLl1 hL6 hK6 hG7 hY0
  go_wp2_with fail
  refine (ruUnset_any 3 _ _ N T _ (Lib.hid (hN4.out.keep hK7.out (fun _ _ _ f => f))) (Lib.hid (rows_strs (hT4.out.keep hK7.out))) hTl' hnl).mono ?_
  rintro e w8 ⟨pX1, cX1, rfl, hX0, k8⟩
  have hyl1 := unset_len 3 N T hnl
  obtain ⟨Y1, hYe1⟩ : ∃ L, unsetC 3 N T = L := ⟨_, rfl⟩
  rw [hYe1] at hX0 hyl1 ⊢
  have hYf1 := Lib.hid hYe1
  have hY1 := Lib.hid (hX0.at fVals_len)
  have hL8 := Lib.hid (hL7.out.keep k8 (fun _ _ f => f))
  have hK8 := Lib.hid (hK7.out.trans k8)
  clear k8 hX0 hL7 hK7 hYe1
  go_upto_region 9 with ((with_reducible refine at_slot 31 ?_); refine wpList_append_rows rfl (.tmp 27) (.tmp 30) 24 41 rfl i0 _ 24 Try.underlying24 hi0 hi1 hi2 hi3 rfl (by decide) (by decide) fVals_len fVals_one w4 _ L1 rfl hL8.out _ rfl Y1 hY1.out (by omega) ?_; intro pL9 cL9 w9 hZ9 hG9)
  have hK9 := Lib.hid (OwnR.keeps hL8.out hK8.out hG9.out)
  obtain ⟨L2, hLl2⟩ : ∃ L, L1 ++ Y1 = L := ⟨_, rfl⟩
  have hLen2 : L2.length ≤ 129 := by rw [← hLl2, List.length_append]; omega
  have hLeq2 : L1.length + Y1.length = L2.length := by rw [← hLl2, List.length_append]
  rw [hLl2, hLeq2] at hZ9
  rw [hLeq2]
  have hL9 := hZ9
  have hLf2 := Lib.hid hLl2
  clear hLeq2 hLl2 hL8 hK8 hG9 hY1
  go_wp2_with fail
  refine (ruOver_any _ _ N T _ (Lib.hid (hN4.out.keep hK9.out (fun _ _ _ f => f))) (Lib.hid (hT4.out.keep hK9.out)) hTl' hnl hTs).mono ?_
  rintro e w10 ⟨pX2, cX2, rfl, hX0, k10⟩
  have hyl2 := over_len N T hnl
  obtain ⟨Y2, hYe2⟩ : ∃ L, overlapsC N T = L := ⟨_, rfl⟩
  rw [hYe2] at hX0 hyl2 ⊢
  have hYf2 := Lib.hid hYe2
  have hY2 := Lib.hid (hX0.at fVals_len)
  have hL10 := Lib.hid (hL9.out.keep k10 (fun _ _ f => f))
  have hK10 := Lib.hid (hK9.out.trans k10)
  clear k10 hX0 hL9 hK9 hYe2
  go_upto_region 10 with ((with_reducible refine at_slot 36 ?_); refine wpList_append_rows rfl (.tmp 32) (.tmp 35) 24 41 rfl i0 _ 24 Try.underlying24 hi0 hi1 hi2 hi3 rfl (by decide) (by decide) fVals_len fVals_one w4 _ L2 rfl hL10.out _ rfl Y2 hY2.out (by omega) ?_; intro pL11 cL11 w11 hZ11 hG11)
  have hK11 := Lib.hid (OwnR.keeps hL10.out hK10.out hG11.out)
  obtain ⟨L3, hLl3⟩ : ∃ L, L2 ++ Y2 = L := ⟨_, rfl⟩
  have hLen3 : L3.length ≤ 193 := by rw [← hLl3, List.length_append]; omega
  have hLeq3 : L2.length + Y2.length = L3.length := by rw [← hLl3, List.length_append]
  rw [hLl3, hLeq3] at hZ11
  rw [hLeq3]
  have hL11 := hZ11
  have hLf3 := Lib.hid hLl3
  clear hLeq3 hLl3 hL10 hK10 hG11 hY2
  go_wp2_with fail
  refine (ruBad_any _ _ ls N _ (Lib.hid (hv4.out.keep hK11.out)) hr (Lib.hid (hN4.out.keep hK11.out (fun _ _ _ f => f))) hnl).mono ?_
  rintro e w12 ⟨pX3, cX3, rfl, hX0, k12⟩
  have hyl3 := bad_len N (valuesC ls N deadW) (valuesC ls N helloW) hnl
  obtain ⟨Y3, hYe3⟩ : ∃ L, badC N (valuesC ls N deadW) (valuesC ls N helloW) = L := ⟨_, rfl⟩
  rw [hYe3] at hX0 hyl3 ⊢
  have hYf3 := Lib.hid hYe3
  have hY3 := Lib.hid (hX0.at fVals_len)
  have hL12 := Lib.hid (hL11.out.keep k12 (fun _ _ f => f))
  have hK12 := Lib.hid (hK11.out.trans k12)
  clear k12 hX0 hL11 hK11 hYe3
  go_upto_region 11 with ((with_reducible refine at_slot 41 ?_); refine wpList_append_rows rfl (.tmp 37) (.tmp 40) 24 41 rfl i0 _ 24 Try.underlying24 hi0 hi1 hi2 hi3 rfl (by decide) (by decide) fVals_len fVals_one w4 _ L3 rfl hL12.out _ rfl Y3 hY3.out (by omega) ?_; intro pL13 cL13 w13 hZ13 hG13)
  have hK13 := Lib.hid (OwnR.keeps hL12.out hK12.out hG13.out)
  obtain ⟨L4, hLl4⟩ : ∃ L, L3 ++ Y3 = L := ⟨_, rfl⟩
  have hLen4 : L4.length ≤ 257 := by rw [← hLl4, List.length_append]; omega
  have hLeq4 : L3.length + Y3.length = L4.length := by rw [← hLl4, List.length_append]
  rw [hLl4, hLeq4] at hZ13
  rw [hLeq4]
  have hL13 := hZ13
  have hLf4 := Lib.hid hLl4
  clear hLeq4 hLl4 hL12 hK12 hG13 hY3
  go_wp2_with fail
  refine (ruBack_any _ _ ls A _ (Lib.hid (hv4.out.keep hK13.out)) hr (Lib.hid (hA4.out.keep hK13.out (fun _ _ _ f => f))) hA64).mono ?_
  rintro e w14 ⟨pX4, cX4, rfl, hX0, k14⟩
  have hyl4 := back_len ls A
  obtain ⟨Y4, hYe4⟩ : ∃ L, backC ls A = L := ⟨_, rfl⟩
  rw [hYe4] at hX0 hyl4 ⊢
  have hYf4 := Lib.hid hYe4
  have hY4 := Lib.hid (hX0.at fVals_len)
  have hL14 := Lib.hid (hL13.out.keep k14 (fun _ _ f => f))
  have hK14 := Lib.hid (hK13.out.trans k14)
  clear k14 hX0 hL13 hK13 hYe4
  go_upto_region 12 with ((with_reducible refine at_slot 46 ?_); refine wpList_append_rows rfl (.tmp 42) (.tmp 45) 24 41 rfl i0 _ 24 Try.underlying24 hi0 hi1 hi2 hi3 rfl (by decide) (by decide) fVals_len fVals_one w4 _ L4 rfl hL14.out _ rfl Y4 hY4.out (by omega) ?_; intro pL15 cL15 w15 hZ15 hG15)
  have hK15 := Lib.hid (OwnR.keeps hL14.out hK14.out hG15.out)
  obtain ⟨L5, hLl5⟩ : ∃ L, L4 ++ Y4 = L := ⟨_, rfl⟩
  have hLen5 : L5.length ≤ 321 := by rw [← hLl5, List.length_append]; omega
  have hLeq5 : L4.length + Y4.length = L5.length := by rw [← hLl5, List.length_append]
  rw [hLl5, hLeq5] at hZ15
  rw [hLeq5]
  have hL15 := hZ15
  have hLf5 := Lib.hid hLl5
  clear hLeq5 hLl5 hL14 hK14 hG15 hY4
  go_wp2_with fail
  refine (ruUnused_any _ _ ls A _ (Lib.hid (hv4.out.keep hK15.out)) hr (Lib.hid (hA4.out.keep hK15.out (fun _ _ _ f => f))) hA64).mono ?_
  rintro e w16 ⟨pX5, cX5, rfl, hX0, k16⟩
  have hyl5 := unused_len ls A hlen
  obtain ⟨Y5, hYe5⟩ : ∃ L, unusedC ls A = L := ⟨_, rfl⟩
  rw [hYe5] at hX0 hyl5 ⊢
  have hYf5 := Lib.hid hYe5
  have hY5 := Lib.hid (hX0.at fVals_len)
  have hL16 := Lib.hid (hL15.out.keep k16 (fun _ _ f => f))
  have hK16 := Lib.hid (hK15.out.trans k16)
  clear k16 hX0 hL15 hK15 hYe5
  go_upto_region 13 with ((with_reducible refine at_slot 51 ?_); refine wpList_append_rows rfl (.tmp 47) (.tmp 50) 24 41 rfl i0 _ 24 Try.underlying24 hi0 hi1 hi2 hi3 rfl (by decide) (by decide) fVals_len fVals_one w4 _ L5 rfl hL16.out _ rfl Y5 hY5.out (by omega) ?_; intro pL17 cL17 w17 hZ17 hG17)
  have hK17 := Lib.hid (OwnR.keeps hL16.out hK16.out hG17.out)
  obtain ⟨L6, hLl6⟩ : ∃ L, L5 ++ Y5 = L := ⟨_, rfl⟩
  have hLen6 : L6.length ≤ 385 := by rw [← hLl6, List.length_append]; omega
  have hLeq6 : L5.length + Y5.length = L6.length := by rw [← hLl6, List.length_append]
  rw [hLl6, hLeq6] at hZ17
  rw [hLeq6]
  have hL17 := hZ17
  have hLf6 := Lib.hid hLl6
  clear hLeq6 hLl6 hL16 hK16 hG17 hY5
  go_wp2_with fail
  refine (ruTooMany_any _ N _ (Lib.hid (hN4.out.keep hK17.out (fun _ _ _ f => f))) hnl).mono ?_
  rintro e w18 ⟨pX6, cX6, rfl, hX0, k18⟩
  have hyl6 := (show (tooManyC N).length ≤ 1 by unfold tooManyC; split <;> simp)
  obtain ⟨Y6, hYe6⟩ : ∃ L, tooManyC N = L := ⟨_, rfl⟩
  rw [hYe6] at hX0 hyl6 ⊢
  have hYf6 := Lib.hid hYe6
  have hY6 := Lib.hid (hX0.at fVals_len)
  have hL18 := Lib.hid (hL17.out.keep k18 (fun _ _ f => f))
  have hK18 := Lib.hid (hK17.out.trans k18)
  clear k18 hX0 hL17 hK17 hYe6
  go_wp2_with ((with_reducible refine at_slot 55 ?_); refine wpList_append_rows rfl (.tmp 52) (.tmp 54) 24 41 rfl i0 _ 24 Try.underlying24 hi0 hi1 hi2 hi3 rfl (by decide) (by decide) fVals_len fVals_one w4 _ L6 rfl hL18.out _ rfl Y6 hY6.out (by omega) ?_; intro pL19 cL19 w19 hZ19 hG19)
  have hK19 := Lib.hid (OwnR.keeps hL18.out hK18.out hG19.out)
  obtain ⟨L7, hLl7⟩ : ∃ L, L6 ++ Y6 = L := ⟨_, rfl⟩
  have hLen7 : L7.length ≤ 449 := by rw [← hLl7, List.length_append]; omega
  have hLeq7 : L6.length + Y6.length = L7.length := by rw [← hLl7, List.length_append]
  rw [hLl7, hLeq7] at hZ19
  rw [hLeq7]
  have hL19 := hZ19
  have hLf7 := Lib.hid hLl7
  clear hLeq7 hLl7 hL18 hK18 hG19 hY6
  go_ret2
  have hall : checkC ls = L7 := by
    unfold checkC
    rw [hNe'.out, hAe'.out, hTe'.out, hLe0.out, hYf0.out, hYf1.out, hYf2.out, hYf3.out, hYf4.out, hYf5.out, hYf6.out, hLf1.out, hLf2.out, hLf3.out, hLf4.out, hLf5.out, hLf6.out, hLf7.out]
  rw [hall]
  exact ⟨_, _, rfl, hL19.out.older hk4.out.size, hk4.out.trans hK19.out⟩
theorem ruCheck_any (v : Value) (ls : List LineD) (w : World) (hv : Hid (RowsAt 4 lineVals w v ls)) (hl : ls.length ≤ 9223372036854775807) (hlt : Hid (LinesLt ls 9223372036854775807)) :
    Calls Try.prog 7 #[v] w (CRes (checkR ls) w) := by
  unfold checkR
  cases hz : rightC ls with
  | true => rw [if_pos rfl]; exact ruCheck_c v ls w hv (Lib.hid hz)
  | false => rw [if_neg (by simp)]; exact ruCheck_no v ls w hv hl hlt (Lib.hid hz)
end Go.Proofs.Ythofplmjlfhloaa
/- strings.Builder: copyCheck, WriteString, by hand; String by the shelf (ShelfB). -/
set_option linter.unusedVariables false
set_option linter.unusedSimpArgs false
namespace Go.Proofs.Ythofplmjlfhloaa
open Go.RowKit

theorem sizeB : (Try.prog.info? 69).map (·.size) = some 2 := by kernel_rfl
theorem liesB : liesAt Try.prog Try.prog.depth 69 (2 / Try.prog.cellsOf 69) 0 69 1 = true := by kernel_rfl
theorem infoB : (Try.prog.info? 5).map (fun i => (i.zero, i.size, i.bytes)) = some (some (.int .u8 0), 1, 1) := by kernel_rfl
set_option maxHeartbeats 1000000 in
set_option maxRecDepth 100000 in
theorem cc_used (b : Nat) (w : World) (h0 : w.cell? ⟨b, 0, none⟩ = some (.pointer (some ⟨b, 0, none⟩))) :
    Calls Try.prog 50 #[.pointer (some ⟨b, 0, none⟩)] w fun e w' => e = .returned (.tuple #[]) ∧ w' = w := by
  obtain ⟨j, hj, _⟩ := Option.map_eq_some_iff.1 sizeB
  go_enter Try.func50, Try.ntmps50
  go_wp2
  rw [Lib.run_neq_ptr_same w _ Try.underlying67 hj]
  go_wp2
  go_end0
  exact ⟨rfl, rfl⟩
set_option maxHeartbeats 1000000 in
set_option maxRecDepth 100000 in
theorem cc_fresh (b : Nat) (w : World) (h0 : w.cell? ⟨b, 0, none⟩ = some (.pointer none)) (hsh : w.shape? b = some (69, 2)) (hfz : w.frozen? ⟨b, 0, none⟩ = false) :
    Calls Try.prog 50 #[.pointer (some ⟨b, 0, none⟩)] w fun e w' => e = .returned (.tuple #[]) ∧ w' = w.setCell ⟨b, 0, none⟩ (.pointer (some ⟨b, 0, none⟩)) := by
  obtain ⟨j, hj, hjs⟩ := Option.map_eq_some_iff.1 sizeB
  go_enter Try.func50, Try.ntmps50
  go_wp2
  rw [Lib.run_to_unsafe w ⟨b, 0, none⟩ Try.underlying67 Try.underlying109 hj (by rw [hjs]; decide) hsh (Nat.zero_lt_succ 1)]
  simp only [Result.andThen]
  rw [Oper.upon_value]
  go_wp2
  rw [run_callFunc_extern Try.func63 (by kernel_rfl) (by kernel_rfl) (by kernel_rfl) (e := Extern.AbiNoEscape.same) (by kernel_rfl)]
  rw [Lib.run_noEscape]
  simp only [Result.andThen]
  rw [Oper.upon_value]
  go_wp2
  rw [Lib.run_from_unsafe w ⟨b, 0, none⟩ Try.underlying109 Try.underlying67 hj hsh liesB]
  simp only [Result.andThen]
  rw [Oper.upon_value]
  go_wp2
  go_end0
  exact ⟨rfl, rfl⟩
/-- what is older than B stays, and so do blocks of other types -/
structure KeepsT (B : Nat) (w w' : World) : Prop where
  k : Keeps (fun i => B ≤ i) w w'
  t : ∀ (x : Nat) (t : TypeId) (cs : Array Value), t ≠ 5 → t ≠ 69 → w.heap[x]? = some (.cells cs t (0, 0)) → w'.heap[x]? = some (.cells cs t (0, 0))
theorem KeepsT.trans {B : Nat} {a b c : World} (h : KeepsT B a b) (k : KeepsT B b c) : KeepsT B a c := ⟨h.k.trans k.k, fun x t cs h1 h2 h3 => k.t x t cs h1 h2 (h.t x t cs h1 h2 h3)⟩
theorem KeepsT.of {B : Nat} {w w' : World} (k : Keeps (fun _ => False) w w') : KeepsT B w w' := ⟨k.mono (fun _ e => e.elim), fun x t cs _ _ h => by
  have hx : x < w.heap.size := by
    rcases Nat.lt_or_ge x w.heap.size with h' | h'
    · exact h'
    · simp [Array.getElem?_eq_none h'] at h
  rw [k.block x hx id]; exact h⟩
theorem KeepsT.blk {B : Nat} {w w' : World} (k : KeepsT B w w') {x : Nat} {t : TypeId} {cs : List Value} (h : BlkAt w x t cs) (h1 : t ≠ 5) (h2 : t ≠ 69) : BlkAt w' x t cs := k.t x t _ h1 h2 h
def IsB (B b : Nat) (bs : List Value) (w : World) : Prop := Lib.IsBuilder 69 5 B b bs w
theorem cc_any (B b : Nat) (bs : List Value) (w : World) (h : IsB B b bs w) :
    Calls Try.prog 50 #[.pointer (some ⟨b, 0, none⟩)] w fun e w' => e = .returned (.tuple #[]) ∧ (Lib.BuilderAt 69 5 B b (.pointer (some ⟨b, 0, none⟩)) bs w' ∧ KeepsT B w w') := by
  rcases h with h | h
  · refine (cc_fresh b w h.cell0 h.shape h.frozen0).mono ?_
    rintro e w' ⟨rfl, rfl⟩
    obtain ⟨hB, v, hbk, hown, hne⟩ := h
    refine ⟨rfl, Lib.BuilderAt.used (p := .pointer none) ⟨hB, v, hbk, hown, hne⟩ _, (Keeps.refl _ _).setCell (p := ⟨b, 0, none⟩) (.inl hB) _, fun x t cs h1 h2 h3 => ?_⟩
    rw [heap_setCell_other _ _ _ _ (fun e => by
      have e : x = b := e
      subst e; rw [hbk] at h3; injection h3 with h3; injection h3 with h4 h5 h6; exact h2 h5.symm)]
    exact h3
  · refine (cc_used b w h.cell0).mono ?_
    rintro e w' ⟨rfl, rfl⟩
    exact ⟨rfl, h, KeepsT.of (Keeps.refl _ _)⟩
set_option maxHeartbeats 2000000 in
set_option maxRecDepth 100000 in
theorem writeString_any (B b : Nat) (l : List UInt8) (s : ByteArray) (w : World) (h : IsB B b (Lib.byteCells l) w) (hlen : l.length + s.size ≤ 1000000000) (hBw : B ≤ w.heap.size) :
    Calls Try.prog 32 #[.pointer (some ⟨b, 0, none⟩), .string s] w fun e w' => e = .returned (.tuple #[.int .i64 s.size, .nilIface]) ∧ (IsB B b (Lib.byteCells (l ++ s.data.toList)) w' ∧ KeepsT B w w') := by
  obtain ⟨i0, hi, hz0, hz1, hz2⟩ := info_parts infoB
  have hl : (Lib.byteCells l).length = l.length := Lib.byteCells_length l
  go_enter Try.func32, Try.ntmps32
  go_wp2_with fail
  refine (cc_any B b (Lib.byteCells l) _ h).mono ?_
  rintro e w1 ⟨rfl, h1, hb1⟩
  obtain ⟨hB, v, hbk, hown, hne⟩ := h1
  have c0 : w1.cell? ⟨b, 0, none⟩ = some (.pointer (some ⟨b, 0, none⟩)) := by rw [Lib.cell_of_heap hbk]; rfl
  have c1 : w1.cell? ⟨b, 1, none⟩ = some v := by rw [Lib.cell_of_heap hbk]; rfl
  go_wp2_with (at_builtin; refine Lib.wpList_append_own_string _ rfl _ _ 46 9 rfl B 5 i0 Try.underlying46 Try.underlying9 hi hz0 hz1 hz2 _ _ _ rfl hown s rfl ?c3 ?c4 ?c5 ?_)
  case c3 => unfold maxLen; omega
  case c4 => omega
  case c5 => have := hb1.k.size; omega
  intro v' w2 hown' hgrow _
  have hlt : b < w1.heap.size := by
    rcases Nat.lt_or_ge b w1.heap.size with h' | h'
    · exact h'
    · simp [Array.getElem?_eq_none h'] at hbk
  have hb2 : w2.heap[b]? = some (.cells #[.pointer (some ⟨b, 0, none⟩), v] 69 (0, 0)) := by
    rw [hgrow.block b hlt (fun e => hne e.symm)]
    exact hbk
  have d0 : w2.cell? ⟨b, 0, none⟩ = some (.pointer (some ⟨b, 0, none⟩)) := by rw [Lib.cell_of_heap hb2]; rfl
  have d1 : w2.cell? ⟨b, 1, none⟩ = some v := by rw [Lib.cell_of_heap hb2]; rfl
  have f1 : w2.frozen? ⟨b, 1, none⟩ = false := Lib.frozen_of_heap hb2 1
  obtain ⟨ao, n', cap, rfl⟩ : ∃ ao n' cap, v' = .slice ao n' cap := by
    rcases hown'.2 with ⟨hv, _⟩ | ⟨g, cap, cur, hv, _⟩
    · exact ⟨_, _, _, hv⟩
    · exact ⟨_, _, _, hv⟩
  go_wp2
  go_ret2
  refine ⟨rfl, .inr ?_, ?_⟩
  · have e : Lib.byteCells (l ++ s.data.toList) = Lib.byteCells l ++ Lib.strCells s := by simp [Lib.byteCells, Lib.strCells]
    rw [e]
    exact Lib.BuilderAt.put (T := 69) (e := 5) hB hb2 (bs' := Lib.byteCells l ++ Lib.strCells s) (by rw [List.length_append, Lib.strCells_length, hl]; exact hown') (by decide)
  · refine hb1.trans ⟨((Keeps.refl _ _).grown hgrow (fun k hk => .inl ((hown.lt k hk).1))).setCell (p := ⟨b, 1, none⟩) (.inl hB) _, fun x t cs h1 h2 h3 => ?_⟩
    have hx : x < w1.heap.size := by
      rcases Nat.lt_or_ge x w1.heap.size with h' | h'
      · exact h'
      · simp [Array.getElem?_eq_none h'] at h3
    rw [heap_setCell_other _ _ _ _ (fun e => by
      have e : x = b := e
      subst e; rw [hbk] at h3; injection h3 with h3; injection h3 with h4 h5 h6; exact h2 h5.symm)]
    rw [hgrow.block x hx (fun e => by
      rcases hown.2 with ⟨hv, _⟩ | ⟨g, cap, cur, hv, _, hg, _⟩
      · subst hv; cases e
      · subst hv
        simp only [Value.ownBlock, Option.some.injEq] at e
        subst e
        rw [hg] at h3; injection h3 with h3; injection h3 with h4 h5 h6; exact h1 h5.symm)]
    exact h3
end Go.Proofs.Ythofplmjlfhloaa
/- (*strings.Builder).String at this program, laid in plain words: laid by lay-shelf.mjs and lay-plain.mjs, then its numbers made names. -/
namespace Go.Proofs.Ythofplmjlfhloaa
open Go.Shelf
def Try.lays169_ren : Go.Shelf.Ren := ⟨fun | 169 => 34 | n => n, fun | 70 => 67 | 9 => 9 | 0 => 0 | 72 => 69 | 37 => 46 | 127 => 94 | 3 => 3 | 5 => 5 | n => n, fun | n => n⟩
theorem Try.lays169 : Go.Proofs.Lays.n169 Try.prog Try.lays169_ren := {
  mixed := by kernel_rfl
  f169 := Try.func34.trans (congrArg some (by kernel_rfl))
  t0 := Try.underlying0
  a0 := Try.isAgg0
  z0 := Try.sizeOf0
  v0 := Try.zeroValue0
  t3 := Try.underlying3
  a3 := Try.isAgg3
  z3 := Try.sizeOf3
  v3 := Try.zeroValue3
  t9 := Try.underlying9
  a9 := Try.isAgg9
  z9 := Try.sizeOf9
  v9 := Try.zeroValue9
  t37 := Try.underlying46
  a37 := Try.isAgg46
  z37 := Try.sizeOf46
  v37 := Try.zeroValue46
  t70 := Try.underlying67
  a70 := Try.isAgg67
  z70 := Try.sizeOf67
  v70 := Try.zeroValue67
  t72 := Try.underlying69
  a72 := Try.isAgg69
  z72 := Try.sizeOf69
  v72 := Try.zeroValue69
  t127 := Try.underlying94
  a127 := Try.isAgg94
  z127 := Try.sizeOf94
  v127 := Try.zeroValue94 }
theorem Try.Builder_Extra_169 : Builder.Extra Try.prog Try.lays169_ren := {
  sizeBuilder := by kernel_rfl
  liesBuilder := by kernel_rfl
  t5 := Try.underlying5
  a5 := Try.isAgg5
  z5 := Try.sizeOf5
  v5 := Try.zeroValue5
  infoByte := by kernel_rfl
  cellsByte := by kernel_rfl
  sizeByte := by kernel_rfl
  neB5 := by decide }
open Go.RowKit in
theorem Try.Builder_String (B b : Nat) (l : List UInt8) (w : World) (h : Lib.IsBuilder 69 5 B b (Lib.byteCells l) w) (h0 : l ≠ []) :
    Calls Try.prog 34 #[.pointer (some ⟨b, 0, none⟩)] w fun e w' => e = .returned (.string ⟨l.toArray⟩) ∧ Below B w w' := Any.Builder_String Try.lays169 Try.Builder_Extra_169 B b l w h h0
open Go.RowKit in
theorem Try.Builder_String_empty (B b : Nat) (w : World) (h : Lib.IsBuilder 69 5 B b [] w) (hBw : B ≤ w.heap.size) :
    Calls Try.prog 34 #[.pointer (some ⟨b, 0, none⟩)] w fun e w' => e = .returned (.string ⟨#[]⟩) ∧ Below B w w' := Any.Builder_String_empty Try.lays169 Try.Builder_Extra_169 B b w h hBw
open Go.RowKit in
theorem Try.Builder_String_any (B b : Nat) (l : List UInt8) (w : World) (h : Lib.IsBuilder 69 5 B b (Lib.byteCells l) w) (hBw : B ≤ w.heap.size) :
    Calls Try.prog 34 #[.pointer (some ⟨b, 0, none⟩)] w fun e w' => e = .returned (.string ⟨l.toArray⟩) ∧ Below B w w' := Any.Builder_String_any Try.lays169 Try.Builder_Extra_169 B b l w h hBw
end Go.Proofs.Ythofplmjlfhloaa
/- rules.word, rules.Text, walked (gen_rvb.py). -/
set_option linter.unusedVariables false
set_option linter.unusedSimpArgs false
namespace Go.Proofs.Ythofplmjlfhloaa
open Go.RowKit

theorem IsB.keep {B b : Nat} {bs : List Value} {w w' : World} (h : IsB B b bs w) (k : Keeps (fun _ => False) w w') : IsB B b bs w' := by
  have f : ∀ p, Lib.BuilderAt 69 5 B b p bs w → Lib.BuilderAt 69 5 B b p bs w' := fun p h => by
    obtain ⟨hB, v, hbk, hown, hne⟩ := h
    have hx : b < w.heap.size := by
      rcases Nat.lt_or_ge b w.heap.size with h' | h'
      · exact h'
      · simp [Array.getElem?_eq_none h'] at hbk
    exact ⟨hB, v, by rw [k.block b hx id]; exact hbk, k.ownsRow hown (fun _ _ f => f), hne⟩
  rcases h with h | h
  · exact .inl (f _ h)
  · exact .inr (f _ h)
theorem IsB.new (w : World) : IsB w.heap.size w.heap.size (Lib.byteCells []) (w.alloc (.cells #[.pointer none, .slice none 0 0] 69)) :=
  .inl ⟨Nat.le_refl _, .slice none 0 0, heap_alloc_last w _, ⟨rfl, .inl ⟨rfl, rfl⟩⟩, by simp [Value.ownBlock]⟩
theorem Below.keepsB {B : Nat} {w w' : World} (h : Below B w w') : Keeps (fun i => B ≤ i) w w' := ⟨h.os, h.tape, h.output, h.size, fun k hk hn => h.block k (by omega)⟩
def wordF (k : Int) : List UInt8 :=
  if k = 1 then [110, 111, 114, 111, 117, 116, 101, 114]
  else if k = 2 then [110, 111, 97, 114, 101, 97]
  else if k = 3 then [110, 111, 97, 100, 100, 114, 101, 115, 115]
  else if k = 4 then [111, 118, 101, 114, 108, 97, 112]
  else if k = 5 then [98, 97, 100, 100, 101, 97, 100]
  else if k = 6 then [98, 97, 99, 107, 98, 111, 110, 101]
  else if k = 7 then [117, 110, 117, 115, 101, 100]
  else if k = 8 then [116, 111, 111, 109, 97, 110, 121]
  else [63]
def pieceF (f : FaultD) : List UInt8 := wordF f.kind ++ (if f.name = [] then [] else 32 :: f.name) ++ [10]
def textF (fs : List FaultD) : List UInt8 := fs.flatMap pieceF
theorem wordF_len (k : Int) : (wordF k).length ≤ 9 := by
  unfold wordF
  repeat' split
  all_goals simp
theorem textF_step {fs : List FaultD} {k : Nat} {f : FaultD} (hq : fs[k]? = some f) : textF (fs.take (k + 1)) = textF (fs.take k) ++ pieceF f := by
  unfold textF
  rw [List.take_add_one, hq, List.flatMap_append]
  simp
theorem textF_pre (fs : List FaultD) (k : Nat) : (textF (fs.take k)).length ≤ (textF fs).length := by
  have : textF fs = textF (fs.take k) ++ textF (fs.drop k) := by unfold textF; rw [← List.flatMap_append, List.take_append_drop]
  rw [this, List.length_append]; omega
set_option maxRecDepth 100000 in
theorem ruWord_any (k : Int) (W : ByteArray) (w : World) (hW : Hid (W = ⟨(wordF k).toArray⟩)) : Calls Try.prog 33 #[.int .i64 k] w (NewRes (.string W) w) := by
  by_cases h1 : k = 1
  · subst h1
    have e : W = ⟨#[110, 111, 114, 111, 117, 116, 101, 114]⟩ := by rw [hW.out]; rfl
    clear hW
    go_enter Try.func33, Try.ntmps33
    go_wp2
    go_ret
    exact ⟨by rw [e]; rfl, Keeps.refl _ _⟩
  by_cases h2 : k = 2
  · subst h2
    have e : W = ⟨#[110, 111, 97, 114, 101, 97]⟩ := by rw [hW.out]; rfl
    clear hW
    go_enter Try.func33, Try.ntmps33
    go_wp2
    go_ret
    exact ⟨by rw [e]; rfl, Keeps.refl _ _⟩
  by_cases h3 : k = 3
  · subst h3
    have e : W = ⟨#[110, 111, 97, 100, 100, 114, 101, 115, 115]⟩ := by rw [hW.out]; rfl
    clear hW
    go_enter Try.func33, Try.ntmps33
    go_wp2
    go_ret
    exact ⟨by rw [e]; rfl, Keeps.refl _ _⟩
  by_cases h4 : k = 4
  · subst h4
    have e : W = ⟨#[111, 118, 101, 114, 108, 97, 112]⟩ := by rw [hW.out]; rfl
    clear hW
    go_enter Try.func33, Try.ntmps33
    go_wp2
    go_ret
    exact ⟨by rw [e]; rfl, Keeps.refl _ _⟩
  by_cases h5 : k = 5
  · subst h5
    have e : W = ⟨#[98, 97, 100, 100, 101, 97, 100]⟩ := by rw [hW.out]; rfl
    clear hW
    go_enter Try.func33, Try.ntmps33
    go_wp2
    go_ret
    exact ⟨by rw [e]; rfl, Keeps.refl _ _⟩
  by_cases h6 : k = 6
  · subst h6
    have e : W = ⟨#[98, 97, 99, 107, 98, 111, 110, 101]⟩ := by rw [hW.out]; rfl
    clear hW
    go_enter Try.func33, Try.ntmps33
    go_wp2
    go_ret
    exact ⟨by rw [e]; rfl, Keeps.refl _ _⟩
  by_cases h7 : k = 7
  · subst h7
    have e : W = ⟨#[117, 110, 117, 115, 101, 100]⟩ := by rw [hW.out]; rfl
    clear hW
    go_enter Try.func33, Try.ntmps33
    go_wp2
    go_ret
    exact ⟨by rw [e]; rfl, Keeps.refl _ _⟩
  by_cases h8 : k = 8
  · subst h8
    have e : W = ⟨#[116, 111, 111, 109, 97, 110, 121]⟩ := by rw [hW.out]; rfl
    clear hW
    go_enter Try.func33, Try.ntmps33
    go_wp2
    go_ret
    exact ⟨by rw [e]; rfl, Keeps.refl _ _⟩
  have e : W = ⟨#[63]⟩ := by rw [hW.out]; unfold wordF; rw [if_neg h1, if_neg h2, if_neg h3, if_neg h4, if_neg h5, if_neg h6, if_neg h7, if_neg h8]
  have e1 : (k == 1) = false := by simpa using h1
  have e2 : (k == 2) = false := by simpa using h2
  have e3 : (k == 3) = false := by simpa using h3
  have e4 : (k == 4) = false := by simpa using h4
  have e5 : (k == 5) = false := by simpa using h5
  have e6 : (k == 6) = false := by simpa using h6
  have e7 : (k == 7) = false := by simpa using h7
  have e8 : (k == 8) = false := by simpa using h8
  clear h1 h2 h3 h4 h5 h6 h7 h8 hW
  go_enter Try.func33, Try.ntmps33
  go_wp2
  go_ret
  exact ⟨by rw [e]; rfl, Keeps.refl _ _⟩

theorem fault_one (k : Int) (n : ByteArray) : (#[.int .i64 k, .string n] : Array Value).all (·.oneCell') = true := by simp; exact ⟨rfl, rfl⟩

set_option maxRecDepth 100000 in
set_option maxHeartbeats 8000000 in
theorem ruText_any (v : Value) (fs : List FaultD) (T : ByteArray) (w : World) (hv : Hid (RowsAt 2 fVals w v fs)) (hl : fs.length ≤ 1000000000) (hz : (textF fs).length ≤ 1000000000) (hT : Hid (T = ⟨(textF fs).toArray⟩)) :
    Calls Try.prog 13 #[v] w (NewRes (.string T) w) := by
  obtain ⟨p, c, rfl⟩ := hv.out.slice
  have hz' := Lib.hid hz
  clear hz
  go_enter Try.func13, Try.ntmps13
  go_wp2_with fail
  have hI0 := Lib.hid (IsB.new w)
  have hK0 : Hid (KeepsT w.heap.size w (w.alloc (.cells #[.pointer none, .slice none 0 0] 69))) := Lib.hid (KeepsT.of ((Keeps.refl _ _).alloc _))
  go_loopw [8] (fun iv wr => ∃ (k : Nat), k ≤ fs.length ∧ iv = .int .i64 k ∧ Hid (IsB w.heap.size w.heap.size (Lib.byteCells (textF (fs.take k))) wr) ∧ Hid (KeepsT w.heap.size w wr)) (fun iv _ => fs.length - (intOf iv).toNat)
  case atStart => exact ⟨0, by omega, rfl, hI0, hK0⟩
  case round =>
    obtain ⟨k, hk, rfl, hI, hKr⟩ := hrel
    by_cases hlk : k < fs.length
    · obtain ⟨g, o, rfl, hrows⟩ := hv.out.open (by omega)
      obtain ⟨f, hq⟩ : ∃ q, fs[k]? = some q := ⟨_, List.getElem?_eq_getElem hlk⟩
      obtain ⟨N, hN⟩ : ∃ N : ByteArray, N = ⟨f.name.toArray⟩ := ⟨_, rfl⟩
      have hstep := Lib.hid (textF_step hq)
      have hb1 := textF_pre fs (k + 1)
      rw [hstep.out, List.length_append] at hb1
      have hwl := wordF_len f.kind
      have hps : (pieceF f).length ≤ 1000000000 := by have := hz'.out; omega
      have sN : N.size ≤ 1000000000 := by
        have e : N.size = f.name.length := by rw [hN]; rfl
        unfold pieceF at hps
        rw [List.length_append, List.length_append] at hps
        split at hps
        · rename_i h; rw [e, h]; simp
        · rw [List.length_cons] at hps; omega
      obtain ⟨U, hU⟩ : ∃ U, textF (fs.take k) = U := ⟨_, rfl⟩
      have hUl : U.length + (pieceF f).length ≤ 1000000000 := by rw [← hU]; have := hz'.out; omega
      rw [hU] at hI hstep
      have hgw : Hid (¬ w.heap.size ≤ g) := Lib.hid (by have := World.block_lt_of_cell? w _ (hrows k f hq 0 _ rfl); have h3 : g < w.heap.size := this; omega)
      have hrw : Hid (wr.rangeAt g (o + k * 2) [.int .i64 f.kind, .string N]) := Lib.hid (by rw [hN]; exact hKr.out.k.rangeAt (hrows k f hq) hgw.out)
      have hNl : Hid (N.data.toList = f.name) := Lib.hid (by rw [hN])
      obtain ⟨WD, hWD⟩ : ∃ W : ByteArray, W = ⟨(wordF f.kind).toArray⟩ := ⟨_, rfl⟩
      have hWl : Hid (WD.data.toList = wordF f.kind) := Lib.hid (by rw [hWD])
      have sWD : WD.size = (wordF f.kind).length := by rw [hWD]; rfl
      have hWD' := Lib.hid hWD
      have hBx : Hid (BlkAt (wr.alloc (.cells #[.int .i64 f.kind, .string N] 41)) wr.heap.size 41 [.int .i64 f.kind, .string N]) := Lib.hid (BlkAt.new _ _ _)
      have hIx : Hid (IsB w.heap.size w.heap.size (Lib.byteCells U) (wr.alloc (.cells #[.int .i64 f.kind, .string N] 41))) := Lib.hid (hI.out.keep ((Keeps.refl _ _).alloc _))
      have hKx : Hid (KeepsT w.heap.size w (wr.alloc (.cells #[.int .i64 f.kind, .string N] 41))) := Lib.hid (hKr.out.trans (KeepsT.of ((Keeps.refl _ _).alloc _)))
      have m1 : (0 : Int) ≤ (k : Int) := by omega
      have m2 : (k : Int) < (fs.length : Int) := by omega
      have hpl : (pieceF f).length = (wordF f.kind).length + (if f.name = [] then [] else 32 :: f.name).length + 1 := by unfold pieceF; rw [List.length_append, List.length_append]; rfl
      clear hrows hN hWD hq hI hI0 hK0 hU hb1 hps
      have c0 := hBx.out.cell 0 _ rfl
      go_upto_region 5 with (first | ((with_reducible refine at_slot 11 ?_); refine wpList_load_mid rfl 41 (.tmp 10) rfl g (o + k * 2) rfl [.int .i64 f.kind, .string N] _ hrw.out Try.underlying41 rfl faultInfo ?_) | ((with_reducible refine at_store 5 ?_); refine wpList_store_new rfl 41 (.tmp 5) (.tmp 11) rfl _ #[.int .i64 f.kind, .string N] rfl rfl faultInfo rfl (fault_one _ _) ?_))
      generalize hgx : wr.heap.size = gx at hBx c0 ⊢
      generalize hWx : wr.alloc (.cells #[.int .i64 f.kind, .string N] 41) = Wx at hBx hIx hKx c0 ⊢
      clear hgx hWx hrw hKr
      go_wp2_with fail
      refine (ruWord_any f.kind WD _ hWD').mono ?_
      rintro e w4 ⟨rfl, k4⟩
      have hI4 := Lib.hid (hIx.out.keep k4)
      have hK4 := Lib.hid (hKx.out.trans (KeepsT.of k4))
      have hB4 := Lib.hid (hBx.out.keep k4 id)
      clear k4 hBx hIx hKx c0
      go_wp2_with fail
      refine (writeString_any _ _ U WD _ hI4.out (by omega) (by have := hK4.out.k.size; omega)).mono ?_
      rintro e w5 ⟨rfl, i5, k5⟩
      have hI5 := Lib.hid i5
      have hK5 := Lib.hid (hK4.out.trans k5)
      have hB5 := Lib.hid (k5.blk hB4.out (by decide) (by decide))
      clear i5 k5 hI4 hK4 hB4
      have c1 := hB5.out.cell 1 _ rfl
      by_cases hn0 : f.name = []
      · have hNn := nil_yes (hNl.out.trans hn0)
        obtain ⟨z1, z2, z3⟩ := hNn
        rw [if_pos hn0] at hpl
        have hlenW : (U ++ WD.data.toList).length + (⟨#[10]⟩ : ByteArray).size ≤ 1000000000 := by
          have e3 : WD.data.toList.length = WD.size := by simp
          have e4 : (⟨#[10]⟩ : ByteArray).size = 1 := rfl
          rw [List.length_append, e3, e4]
          simp only [List.length_nil] at hpl; omega
        have hfin : Hid (textF (fs.take (k + 1)) = U ++ WD.data.toList ++ [10]) := Lib.hid (by rw [hstep.out, hWl.out]; unfold pieceF; rw [if_pos hn0]; simp)
        clear hn0
        go_wp2_with fail
        refine (writeString_any _ _ _ ⟨#[10]⟩ _ hI5.out hlenW (by have := hK5.out.k.size; omega)).mono ?_
        rintro e w6 ⟨rfl, i6, k6⟩
        have hI6 := Lib.hid i6
        have hK6 := Lib.hid (hK5.out.trans k6)
        clear i6 k6 hI5 hK5 hB5 c1
        go_wp2_with fail
        exact ⟨⟨k + 1, by omega, by go_num, by rw [hfin.out]; exact hI6, hK6⟩, by simp [intOf]; omega⟩
      · have hNn := nil_no (fun e => hn0 (hNl.out.symm.trans e))
        obtain ⟨z1, z2, z3⟩ := hNn
        rw [if_neg hn0] at hpl
        have eN : N.size = f.name.length := by rw [← hNl.out]; simp
        obtain ⟨T3, h3⟩ : ∃ T : ByteArray, T = ⟨#[32]⟩ ++ N := ⟨_, rfl⟩
        have h3' := Lib.hid h3
        have s3 : T3.size = 1 + N.size := by rw [h3, ByteArray.size_append]; rfl
        have hT3l : Hid (T3.data.toList = 32 :: f.name) := Lib.hid (by rw [h3, ← hNl.out]; simp)
        clear h3
        have hlenN : (U ++ WD.data.toList).length + T3.size ≤ 1000000000 := by
          have e3 : WD.data.toList.length = WD.size := by simp
          have e4 := s3
          rw [List.length_append, e3, e4]
          simp only [List.length_cons] at hpl; omega
        have hlenW : (U ++ WD.data.toList ++ T3.data.toList).length + (⟨#[10]⟩ : ByteArray).size ≤ 1000000000 := by
          have e3 : WD.data.toList.length = WD.size := by simp
          have e4 : T3.data.toList.length = 1 + N.size := by rw [← s3]; simp
          have e5 : (⟨#[10]⟩ : ByteArray).size = 1 := rfl
          rw [List.length_append, List.length_append, e3, e4, e5]
          simp only [List.length_cons] at hpl; omega
        have hfin : Hid (textF (fs.take (k + 1)) = U ++ WD.data.toList ++ T3.data.toList ++ [10]) := Lib.hid (by rw [hstep.out, hWl.out]; unfold pieceF; rw [if_neg hn0, hT3l.out]; simp)
        clear hn0
        go_wp2_with fail
        rw [← h3'.out]
        refine (writeString_any _ _ _ T3 _ hI5.out hlenN (by have := hK5.out.k.size; omega)).mono ?_
        rintro e w6 ⟨rfl, i6, k6⟩
        have hI6 := Lib.hid i6
        have hK6 := Lib.hid (hK5.out.trans k6)
        clear i6 k6 hI5 hK5 hB5 c1
        go_wp2_with fail
        refine (writeString_any _ _ _ ⟨#[10]⟩ _ hI6.out hlenW (by have := hK6.out.k.size; omega)).mono ?_
        rintro e w7 ⟨rfl, i7, k7⟩
        have hI7 := Lib.hid i7
        have hK7 := Lib.hid (hK6.out.trans k7)
        clear i7 k7 hI6 hK6
        go_wp2_with fail
        exact ⟨⟨k + 1, by omega, by go_num, by rw [hfin.out]; exact hI7, hK7⟩, by simp [intOf]; omega⟩
    · obtain rfl : k = fs.length := by omega
      have hx2 : textF (fs.take fs.length) = textF fs := by rw [List.take_length]
      rw [hx2] at hI
      clear hlk hk hI0 hK0 hx2
      go_wp2_with fail
      refine (Try.Builder_String_any _ _ _ _ hI.out (by have := hKr.out.k.size; omega)).mono ?_
      rintro e w3 ⟨rfl, b3⟩
      have b3' := Lib.hid b3
      clear b3
      rw [← hT.out]
      go_wp2_with fail
      go_ret
      exact ⟨rfl, ((hKr.out.k.trans (Below.keepsB b3'.out)).mono (fun i hi => .inr hi))⟩
end Go.Proofs.Ythofplmjlfhloaa
/- The document's Text of faults, walked (gen_rvc.py). -/
set_option linter.unusedVariables false
set_option linter.unusedSimpArgs false
namespace Go.Proofs.Ythofplmjlfhloaa
open Go.RowKit

def nine8 : List Value := [.string ⟨#[63]⟩, .string ⟨#[110, 111, 114, 111, 117, 116, 101, 114]⟩, .string ⟨#[110, 111, 97, 114, 101, 97]⟩, .string ⟨#[110, 111, 97, 100, 100, 114, 101, 115, 115]⟩, .string ⟨#[111, 118, 101, 114, 108, 97, 112]⟩, .string ⟨#[98, 97, 100, 100, 101, 97, 100]⟩, .string ⟨#[98, 97, 99, 107, 98, 111, 110, 101]⟩, .string ⟨#[117, 110, 117, 115, 101, 100]⟩, .string ⟨#[116, 111, 111, 109, 97, 110, 121]⟩]
theorem nine8_get : ∀ kk : Nat, kk < 9 → nine8[kk]? = some (.string ⟨(wordF (kk : Int)).toArray⟩) := by
  intro kk h
  match kk, h with
  | 0, _ => rfl
  | 1, _ => rfl
  | 2, _ => rfl
  | 3, _ => rfl
  | 4, _ => rfl
  | 5, _ => rfl
  | 6, _ => rfl
  | 7, _ => rfl
  | 8, _ => rfl
theorem wordF_out {k : Int} (h : k < 0 ∨ 8 < k) : wordF k = wordF 0 := by
  unfold wordF
  rw [if_neg (by omega), if_neg (by omega), if_neg (by omega), if_neg (by omega), if_neg (by omega), if_neg (by omega), if_neg (by omega), if_neg (by omega)]
  rfl
set_option maxRecDepth 100000 in
theorem run_b9 (W : World) : (Instr.buildSlice 51 9 #[(0, .string ⟨#[63]⟩), (1, .string ⟨#[110, 111, 114, 111, 117, 116, 101, 114]⟩), (2, .string ⟨#[110, 111, 97, 114, 101, 97]⟩), (3, .string ⟨#[110, 111, 97, 100, 100, 114, 101, 115, 115]⟩), (4, .string ⟨#[111, 118, 101, 114, 108, 97, 112]⟩), (5, .string ⟨#[98, 97, 100, 100, 101, 97, 100]⟩), (6, .string ⟨#[98, 97, 99, 107, 98, 111, 110, 101]⟩), (7, .string ⟨#[117, 110, 117, 115, 101, 100]⟩), (8, .string ⟨#[116, 111, 111, 109, 97, 110, 121]⟩)]).run Try.prog W = .ok (.slice (some ⟨W.heap.size, 0, none⟩) 9 9) (W.alloc (.cells nine8.toArray 9)) := by unfold nine8; go_simp
theorem wpList_b9 {ops : Array Oper} {rest : List Oper} {op : Oper} {a : Act} {w : World} {Q : Exit → Act → World → Prop} (hgd : op.guard = none) (ho : op.op = .buildSlice 51 9 #[(0, .const (.string ⟨#[63]⟩)), (1, .const (.string ⟨#[110, 111, 114, 111, 117, 116, 101, 114]⟩)), (2, .const (.string ⟨#[110, 111, 97, 114, 101, 97]⟩)), (3, .const (.string ⟨#[110, 111, 97, 100, 100, 114, 101, 115, 115]⟩)), (4, .const (.string ⟨#[111, 118, 101, 114, 108, 97, 112]⟩)), (5, .const (.string ⟨#[98, 97, 100, 100, 101, 97, 100]⟩)), (6, .const (.string ⟨#[98, 97, 99, 107, 98, 111, 110, 101]⟩)), (7, .const (.string ⟨#[117, 110, 117, 115, 101, 100]⟩)), (8, .const (.string ⟨#[116, 111, 111, 109, 97, 110, 121]⟩))])
    (h : ∀ W3, Hid (W3 = w.alloc (.cells nine8.toArray 9)) → wpList Try.prog ops Q rest (a.put op.dst (.slice (some ⟨w.heap.size, 0, none⟩) 9 9)) W3) : wpList Try.prog ops Q (op :: rest) a w :=
  wpList_plain hgd fun _ hK => by
    unfold Oper.wp execOp
    simp only [ho, Sem.run_bind, List.map_toArray, List.map_cons, List.map_nil]
    have := run_b9 w
    simp only [show ∀ v : Value, a.eval (.const v) = v from fun _ => rfl, this, Result.andThen_ok]
    exact hK _ _ (h _ (Lib.hid rfl))
theorem wpList_load_cell8 {P : Program} {ops : Array Oper} {rest : List Oper} {op : Oper} {a : Act} {w : World} {Q : Exit → Act → World → Prop} (hgd : op.guard = none) (ty : TypeId) (x : Operand) (ho : op.op = .load ty x)
    (b o : Nat) (hx : a.eval x = .pointer (some ⟨b, o, none⟩)) (v : Value) (hl : (loadVar ty ⟨b, o, none⟩).run P w = .ok v w)
    (h : wpList P ops Q rest (a.put op.dst v) w) : wpList P ops Q (op :: rest) a w :=
  wpList_plain hgd fun _ hK => by
    unfold Oper.wp execOp
    simp only [ho, hx, Instr.loadAt, Instr.sureAddr, Sem.run_bind, Sem.run_pure, Result.andThen_ok, hl]
    exact hK _ _ h

set_option maxRecDepth 100000 in
set_option maxHeartbeats 8000000 in
theorem r8Text_any (v : Value) (fs : List FaultD) (T : ByteArray) (w : World) (hv : Hid (RowsAt 2 fVals w v fs)) (hl : fs.length ≤ 1000000000) (hz : (textF fs).length ≤ 1000000000) (hT : Hid (T = ⟨(textF fs).toArray⟩)) :
    Calls Try.prog 14 #[v] w (NewRes (.string T) w) := by
  obtain ⟨p, c, rfl⟩ := hv.out.slice
  have hz' := Lib.hid hz
  clear hz
  go_enter Try.func14, Try.ntmps14
  go_upto_region 2 with ((with_reducible refine at_slot 7 ?_); refine wpList_b9 rfl rfl ?_; intro W0 hW0)
  have hK0 : Hid (Keeps (fun _ => False) w W0) := Lib.hid (by rw [hW0.out]; exact (Keeps.refl _ _).alloc _)
  have hN0 : Hid (BlkAt W0 w.heap.size 9 nine8) := Lib.hid (by rw [hW0.out]; exact BlkAt.new _ _ _)
  clear hW0
  go_wp2_with fail
  go_loopw [5, 4] (fun iv ov wr => ∃ (k : Nat) (S : ByteArray), k ≤ fs.length ∧ iv = .int .i64 k ∧ ov = .string S ∧ Hid (S.data.toList = textF (fs.take k)) ∧ Hid (Keeps (fun _ => False) w wr) ∧ Hid (BlkAt wr w.heap.size 9 nine8)) (fun iv _ _ => fs.length - (intOf iv).toNat)
  case atStart => exact ⟨0, ⟨#[]⟩, by omega, rfl, rfl, Lib.hid rfl, hK0, hN0⟩
  case round =>
    obtain ⟨k, S, hk, rfl, rfl, hS, hKr, hNr⟩ := hrel
    by_cases hlk : k < fs.length
    · obtain ⟨g, o, rfl, hrows⟩ := hv.out.open (by omega)
      obtain ⟨f, hq⟩ : ∃ q, fs[k]? = some q := ⟨_, List.getElem?_eq_getElem hlk⟩
      obtain ⟨N, hN⟩ : ∃ N : ByteArray, N = ⟨f.name.toArray⟩ := ⟨_, rfl⟩
      have hstep := Lib.hid (textF_step hq)
      have hb1 := textF_pre fs (k + 1)
      rw [hstep.out, List.length_append, ← hS.out] at hb1
      have hwl := wordF_len f.kind
      have hNl : Hid (N.data.toList = f.name) := Lib.hid (by rw [hN])
      have eN : N.size = f.name.length := by rw [← hNl.out]; simp
      have eS : S.data.toList.length = S.size := by simp
      have hpl : (pieceF f).length = (wordF f.kind).length + (if f.name = [] then [] else 32 :: f.name).length + 1 := by unfold pieceF; rw [List.length_append, List.length_append]; rfl
      have sN : N.size ≤ 1000000000 := by
        have := hz'.out
        rw [eN]
        split at hpl
        · rename_i h; rw [h]; simp
        · rw [List.length_cons] at hpl; omega
      have hUl : S.size + (pieceF f).length ≤ 1000000000 := by have := hz'.out; omega
      rw [← hS.out] at hstep
      have hrw : Hid (wr.rangeAt g (o + k * 2) [.int .i64 f.kind, .string N]) := Lib.hid (by rw [hN]; exact hKr.out.rangeAt (hrows k f hq) id)
      obtain ⟨nm, hnm⟩ : ∃ z, f.name = z := ⟨_, rfl⟩
      obtain ⟨kd, hkd⟩ : ∃ z, f.kind = z := ⟨_, rfl⟩
      have hpc : Hid (pieceF f = wordF kd ++ (if nm = [] then [] else 32 :: nm) ++ [10]) := Lib.hid (by unfold pieceF; rw [hkd, hnm])
      rw [hkd, hnm] at hpl
      rw [hkd] at hrw hwl
      rw [hnm] at hNl
      rw [hpc.out] at hstep
      rw [hpl] at hUl
      have m1 : (0 : Int) ≤ (k : Int) := by omega
      have m2 : (k : Int) < (fs.length : Int) := by omega
      have r0 := hrw.out 0 _ rfl
      have r1 := hrw.out 1 _ rfl
      simp only [Nat.add_zero] at r0
      clear hrows hN hq hb1 hpl eN eS hkd hnm hS hpc hK0 hN0 hrw
      go_upto_region 7 with fail
      by_cases a1 : kd < 0
      · have e1 : decide (kd < 0) = true := by simpa using a1
        have hwk : Hid (wordF kd = wordF ((0 : Nat) : Int)) := Lib.hid (wordF_out (.inl a1))
        obtain ⟨WD, hWD⟩ : ∃ W : ByteArray, W = ⟨(wordF kd).toArray⟩ := ⟨_, rfl⟩
        have sWD : WD.size = (wordF kd).length := by rw [hWD]; rfl
        have s9 : Hid (wr.cell? ⟨w.heap.size, 0, none⟩ = some (.string WD)) := Lib.hid (by rw [hWD, hwk.out]; exact hNr.out.cell 0 _ (nine8_get 0 (by omega)))
        have hWl : Hid (WD.data.toList = wordF kd) := Lib.hid (by rw [hWD])
        clear hWD hwk
        by_cases hn0 : nm = []
        · have hNn := nil_yes (hNl.out.trans hn0)
          obtain ⟨z1, z2, z3⟩ := hNn
          rw [if_pos hn0] at hUl
          simp only [List.length_nil] at hUl
          have hfin : Hid ((S ++ WD ++ ⟨#[10]⟩).data.toList = textF (fs.take (k + 1))) := Lib.hid (by rw [hstep.out, if_pos hn0, ← hWl.out]; simp)
          clear hn0
          go_wp2_with ((with_reducible refine at_slot 29 ?_); refine wpList_load_cell8 rfl 9 (.tmp 28) rfl w.heap.size 0 rfl _ (load_str _ _ _ _ s9.out) ?_)
          exact ⟨⟨k + 1, _, by omega, by go_num, rfl, hfin, hKr, hNr⟩, by simp [intOf]; omega⟩
        · have hNn := nil_no (fun e => hn0 (hNl.out.symm.trans e))
          obtain ⟨z1, z2, z3⟩ := hNn
          rw [if_neg hn0] at hUl
          simp only [List.length_cons] at hUl
          have eN : N.size = nm.length := by rw [← hNl.out]; simp
          have hfin : Hid ((S ++ WD ++ ⟨#[32]⟩ ++ N ++ ⟨#[10]⟩).data.toList = textF (fs.take (k + 1))) := Lib.hid (by rw [hstep.out, if_neg hn0, ← hWl.out, ← hNl.out]; simp)
          clear hn0
          go_wp2_with ((with_reducible refine at_slot 29 ?_); refine wpList_load_cell8 rfl 9 (.tmp 28) rfl w.heap.size 0 rfl _ (load_str _ _ _ _ s9.out) ?_)
          exact ⟨⟨k + 1, _, by omega, by go_num, rfl, hfin, hKr, hNr⟩, by simp [intOf]; omega⟩
      · by_cases a2 : 8 < kd
        · have e2 : decide (8 < kd) = true := by simpa using a2
          have hwk : Hid (wordF kd = wordF ((0 : Nat) : Int)) := Lib.hid (wordF_out (.inr a2))
          obtain ⟨WD, hWD⟩ : ∃ W : ByteArray, W = ⟨(wordF kd).toArray⟩ := ⟨_, rfl⟩
          have sWD : WD.size = (wordF kd).length := by rw [hWD]; rfl
          have s9 : Hid (wr.cell? ⟨w.heap.size, 0, none⟩ = some (.string WD)) := Lib.hid (by rw [hWD, hwk.out]; exact hNr.out.cell 0 _ (nine8_get 0 (by omega)))
          have hWl : Hid (WD.data.toList = wordF kd) := Lib.hid (by rw [hWD])
          clear hWD hwk
          by_cases hn0 : nm = []
          · have hNn := nil_yes (hNl.out.trans hn0)
            obtain ⟨z1, z2, z3⟩ := hNn
            rw [if_pos hn0] at hUl
            simp only [List.length_nil] at hUl
            have hfin : Hid ((S ++ WD ++ ⟨#[10]⟩).data.toList = textF (fs.take (k + 1))) := Lib.hid (by rw [hstep.out, if_pos hn0, ← hWl.out]; simp)
            clear hn0
            go_wp2_with ((with_reducible refine at_slot 29 ?_); refine wpList_load_cell8 rfl 9 (.tmp 28) rfl w.heap.size 0 rfl _ (load_str _ _ _ _ s9.out) ?_)
            exact ⟨⟨k + 1, _, by omega, by go_num, rfl, hfin, hKr, hNr⟩, by simp [intOf]; omega⟩
          · have hNn := nil_no (fun e => hn0 (hNl.out.symm.trans e))
            obtain ⟨z1, z2, z3⟩ := hNn
            rw [if_neg hn0] at hUl
            simp only [List.length_cons] at hUl
            have eN : N.size = nm.length := by rw [← hNl.out]; simp
            have hfin : Hid ((S ++ WD ++ ⟨#[32]⟩ ++ N ++ ⟨#[10]⟩).data.toList = textF (fs.take (k + 1))) := Lib.hid (by rw [hstep.out, if_neg hn0, ← hWl.out, ← hNl.out]; simp)
            clear hn0
            go_wp2_with ((with_reducible refine at_slot 29 ?_); refine wpList_load_cell8 rfl 9 (.tmp 28) rfl w.heap.size 0 rfl _ (load_str _ _ _ _ s9.out) ?_)
            exact ⟨⟨k + 1, _, by omega, by go_num, rfl, hfin, hKr, hNr⟩, by simp [intOf]; omega⟩
        · obtain ⟨kk, rfl⟩ := Int.eq_ofNat_of_zero_le (a := kd) (by omega)
          have l1 : (0 : Int) ≤ (kk : Int) := by omega
          have l2 : (kk : Int) < 9 := by omega
          have hwk : Hid (wordF (kk : Int) = wordF ((kk : Nat) : Int)) := Lib.hid rfl
          obtain ⟨WD, hWD⟩ : ∃ W : ByteArray, W = ⟨(wordF (kk : Int)).toArray⟩ := ⟨_, rfl⟩
          have sWD : WD.size = (wordF (kk : Int)).length := by rw [hWD]; rfl
          have s9 : Hid (wr.cell? ⟨w.heap.size, kk, none⟩ = some (.string WD)) := Lib.hid (by rw [hWD, hwk.out]; exact hNr.out.cell kk _ (nine8_get kk (by omega)))
          have hWl : Hid (WD.data.toList = wordF (kk : Int)) := Lib.hid (by rw [hWD])
          clear hWD hwk
          by_cases hn0 : nm = []
          · have hNn := nil_yes (hNl.out.trans hn0)
            obtain ⟨z1, z2, z3⟩ := hNn
            rw [if_pos hn0] at hUl
            simp only [List.length_nil] at hUl
            have hfin : Hid ((S ++ WD ++ ⟨#[10]⟩).data.toList = textF (fs.take (k + 1))) := Lib.hid (by rw [hstep.out, if_pos hn0, ← hWl.out]; simp)
            clear hn0
            go_wp2_with ((with_reducible refine at_slot 29 ?_); refine wpList_load_cell8 rfl 9 (.tmp 28) rfl w.heap.size kk rfl _ (load_str _ _ _ _ s9.out) ?_)
            exact ⟨⟨k + 1, _, by omega, by go_num, rfl, hfin, hKr, hNr⟩, by simp [intOf]; omega⟩
          · have hNn := nil_no (fun e => hn0 (hNl.out.symm.trans e))
            obtain ⟨z1, z2, z3⟩ := hNn
            rw [if_neg hn0] at hUl
            simp only [List.length_cons] at hUl
            have eN : N.size = nm.length := by rw [← hNl.out]; simp
            have hfin : Hid ((S ++ WD ++ ⟨#[32]⟩ ++ N ++ ⟨#[10]⟩).data.toList = textF (fs.take (k + 1))) := Lib.hid (by rw [hstep.out, if_neg hn0, ← hWl.out, ← hNl.out]; simp)
            clear hn0
            go_wp2_with ((with_reducible refine at_slot 29 ?_); refine wpList_load_cell8 rfl 9 (.tmp 28) rfl w.heap.size kk rfl _ (load_str _ _ _ _ s9.out) ?_)
            exact ⟨⟨k + 1, _, by omega, by go_num, rfl, hfin, hKr, hNr⟩, by simp [intOf]; omega⟩
    · obtain rfl : k = fs.length := by omega
      have hx2 : S = T := by
        rw [hT.out]
        have h := hS.out
        rw [List.take_length] at h
        rw [← h]
      clear hlk hk hS
      go_wp2_with fail
      go_ret
      exact ⟨by rw [hx2]; rfl, hKr.out⟩
end Go.Proofs.Ythofplmjlfhloaa
/- waystonelaw08.tells, walked. -/
set_option linter.unusedVariables false
set_option linter.unusedSimpArgs false
namespace Go.Proofs.Ythofplmjlfhloaa
open Go.RowKit

def lineT : LineD := ⟨2, [101, 116, 104, 48], [99, 111, 115, 116], [53]⟩
theorem rightT : rightC [lineT] = true := by kernel_rfl
theorem checkT : checkC [lineT] = [⟨1, []⟩, ⟨2, [101, 116, 104, 48]⟩, ⟨3, [101, 116, 104, 48]⟩] := by kernel_rfl
theorem textT : textF [⟨1, []⟩, ⟨2, [101, 116, 104, 48]⟩, ⟨3, [101, 116, 104, 48]⟩] = [110, 111, 114, 111, 117, 116, 101, 114, 10, 110, 111, 97, 114, 101, 97, 32, 101, 116, 104, 48, 10, 110, 111, 97, 100, 100, 114, 101, 115, 115, 32, 101, 116, 104, 48, 10] := by kernel_rfl
set_option maxRecDepth 100000 in
set_option maxHeartbeats 4000000 in
theorem tells_any (w : World) : Calls Try.prog 10 #[] w (NewRes (.bool true) w) := by
  go_enter Try.func10, Try.ntmps10
  go_wp2_with fail
  have hv : Hid (RowsAt 4 lineVals (w.alloc (.cells #[.int .i64 2, .string ⟨#[101, 116, 104, 48]⟩, .string ⟨#[99, 111, 115, 116]⟩, .string ⟨#[53]⟩] 58)) (.slice (some ⟨w.heap.size, 0, none⟩) 1 1) [lineT]) := Lib.hid ⟨_, 1, rfl, fun h => (by cases h), by simp, fun _ => ⟨_, 0, rfl, fun i x hx => by
    cases i with
    | zero => simp at hx; subst hx; exact new_rangeb w [.int .i64 2, .string ⟨#[101, 116, 104, 48]⟩, .string ⟨#[99, 111, 115, 116]⟩, .string ⟨#[53]⟩] 58
    | succ i => simp at hx⟩⟩
  have hcr : checkR [lineT] = ([⟨1, []⟩, ⟨2, [101, 116, 104, 48]⟩, ⟨3, [101, 116, 104, 48]⟩], 0) := by unfold checkR; rw [if_pos rightT, checkT]
  have hc := Lib.hid (ruCheck_any _ [lineT] _ hv (by simp) (Lib.hid (right_lt rightT 9223372036854775807 (by omega))))
  rw [hcr] at hc
  refine hc.out.mono ?_
  rintro e w2 ⟨p, c, rfl, hO, k2⟩
  have hF := Lib.hid (hO.at fVals_len)
  have k2' := Lib.hid (((Keeps.refl (fun _ => False) w).alloc _).trans k2)
  have hT : Hid ((⟨#[110, 111, 114, 111, 117, 116, 101, 114, 10, 110, 111, 97, 114, 101, 97, 32, 101, 116, 104, 48, 10, 110, 111, 97, 100, 100, 114, 101, 115, 115, 32, 101, 116, 104, 48, 10]⟩ : ByteArray) = ⟨(textF [⟨1, []⟩, ⟨2, [101, 116, 104, 48]⟩, ⟨3, [101, 116, 104, 48]⟩]).toArray⟩) := Lib.hid (by rw [textT])
  have hz : (textF [⟨1, []⟩, ⟨2, [101, 116, 104, 48]⟩, ⟨3, [101, 116, 104, 48]⟩]).length ≤ 1000000000 := by rw [textT]; simp
  clear hc hcr hv hO k2
  go_wp2_with fail
  refine (ruText_any _ _ _ _ hF (by simp) hz hT).mono ?_
  rintro e w3 ⟨rfl, k3⟩
  have k3' := Lib.hid (k2'.out.trans k3)
  clear k3 k2' hF hT hz
  go_wp2_with fail
  go_ret
  exact ⟨rfl, k3'.out⟩
end Go.Proofs.Ythofplmjlfhloaa
