/- plan.ofFaces. -/
import Derived.Test.YtmclnamgihphcaaGreatMM19
import Derived.Test.YtmclnamgihphcaaGreatMM06
import Derived.Sort.Grow
import Derived.Shelf.SlSortCmp.WholeK
import Derived.Sort.Statements
import Derived.Shelf.SlGeneric
import Derived.Shelf.SlSortCmp.NoneTotal
import Derived.Ground.SlsfProg
import Derived.Test.YtmclnamgihphcaaGreatProg
set_option linter.unusedVariables false
set_option linter.unusedSimpArgs false
set_option linter.unusedVariables false
set_option linter.unusedSimpArgs false
namespace Go.Proofs.YtmclnamgihphcaaGreat
open Go.RowKit

def face1 (b : List LineD) (inB : List (List UInt8)) (cs : List ChD) (n : List UInt8) : List ActD := if (if inB.contains n = true then faceK b n cs else 2) = 10 then [] else [⟨if inB.contains n = true then faceK b n cs else 2, n⟩]
def face2 (inA : List (List UInt8)) (n : List UInt8) : List ActD := if inA.contains n = true then [] else [⟨6, n⟩]
def facesC (a b : List LineD) (cs : List ChD) : List ActD := (namesA 2 a).flatMap (face1 b (namesA 2 b) cs) ++ (namesA 2 b).flatMap (face2 (namesA 2 a))
theorem face1_len (b : List LineD) (inB : List (List UInt8)) (cs : List ChD) (n : List UInt8) : (face1 b inB cs n).length ≤ 1 := by unfold face1; (repeat' split) <;> first | exact Nat.zero_le _ | exact Nat.le_refl _
theorem face2_len (inA : List (List UInt8)) (n : List UInt8) : (face2 inA n).length ≤ 1 := by unfold face2; split; exact Nat.zero_le _; exact Nat.le_refl _
theorem facesC_len (a b : List LineD) (cs : List ChD) : (facesC a b cs).length ≤ (namesA 2 a).length + (namesA 2 b).length := by
  unfold facesC
  rw [List.length_append]
  have h1 := flat_len (face1_len b (namesA 2 b) cs) (namesA 2 a)
  have h2 := flat_len (face2_len (namesA 2 a)) (namesA 2 b)
  omega
theorem names_short {ls : List LineD} (hr : rightC ls = true) (h : Int) (x : List UInt8) (hx : (namesA h ls).contains x = true) : True := trivial
def ActRes (L : List ActD) (w : World) (e : Ending) (w' : World) : Prop :=
  ∃ p c, e = .returned (.slice p L.length c) ∧ OwnR 53 2 aVals w w' (.slice p L.length c) L ∧ Keeps (fun _ => False) w w'
theorem strs_keep {w w' : World} {v : Value} {xs : List (List UInt8)} (h : StrsAt w v xs) (k : Keeps (fun _ => False) w w') : StrsAt w' v xs := by
  obtain ⟨p, c, e, hr⟩ := h
  refine ⟨p, c, e, fun h0 => ?_⟩
  obtain ⟨g, o, h1, h2⟩ := hr h0
  exact ⟨g, o, h1, k.rangeAt h2 id⟩

set_option maxRecDepth 100000 in
set_option maxHeartbeats 16000000 in
theorem plFaces_any (v u c : Value) (a b : List LineD) (cs : List ChD) (w : World) (hv : Hid (RowsAt 4 lineVals w v a)) (hra : Hid (rightC a = true)) (hu : Hid (RowsAt 4 lineVals w u b)) (hrb : Hid (rightC b = true)) (hc : Hid (RowsAt 6 cVals w c cs)) (hl : cs.length ≤ 1000000) :
    Calls Tryz.prog 17 #[v, u, c] w (ActRes (facesC a b cs) w) := by
  obtain ⟨i0, hi0, hi1, hi2, hi3⟩ := actAll
  have hla := right_len hra.out
  have hlb := right_len hrb.out
  have hna := namesA_len 2 a
  have hnb := namesA_len 2 b
  go_enter Tryz.func17, Tryz.ntmps17
  go_wp2_with fail
  refine (names_all _ a 2 _ hv hra).mono ?_
  rintro e w1 ⟨p1, c1, rfl, hA1, k1⟩
  have hA1' := Lib.hid hA1
  have hu1 := Lib.hid (hu.out.keep k1)
  have hc1 := Lib.hid (hc.out.keep k1)
  have hk1 := Lib.hid k1
  clear k1 hA1 hv hu hc
  go_wp2_with fail
  refine (names_all _ b 2 _ hu1 hrb).mono ?_
  rintro e w2 ⟨p2, c2, rfl, hB2, k2⟩
  have hA2 := Lib.hid (strs_keep hA1'.out k2)
  have hB2' := Lib.hid hB2
  have hu2 := Lib.hid (hu1.out.keep k2)
  have hc2 := Lib.hid (hc1.out.keep k2)
  have hk2 := Lib.hid (hk1.out.trans k2)
  clear k2 hB2 hA1' hu1 hc1 hk1
  have hres : Hid ((namesA 2 a).flatMap (face1 b (namesA 2 b) cs) ++ (namesA 2 b).flatMap (face2 (namesA 2 a)) = facesC a b cs) := Lib.hid rfl
  generalize namesA 2 a = A at hA2 hna hres ⊢
  generalize namesA 2 b = B at hB2' hnb hres ⊢
  have hA64 : A.length ≤ 64 := by omega
  have hB64 : B.length ≤ 64 := by omega
  clear hna hnb hla hlb
  go_wp2_with fail
  go_loopw [21, 9] (fun iv lv wr => ∃ (k : Nat) (L : List ActD) (pa : Option Addr) (ca : Nat), k ≤ A.length ∧ iv = .int .i64 k ∧ lv = .slice pa L.length ca ∧ L.length ≤ k ∧ Hid (L = (A.take k).flatMap (face1 b B cs)) ∧ Hid (OwnR 53 2 aVals w2 wr lv L) ∧ Hid (Keeps (fun _ => False) w2 wr)) (fun iv _ _ => A.length - (intOf iv).toNat)
  case atStart => exact ⟨0, [], none, 0, by omega, rfl, rfl, by simp, Lib.hid rfl, Lib.hid (OwnR.nil _ _ (Nat.le_refl _)), Lib.hid (Keeps.refl _ _)⟩
  case round =>
    obtain ⟨k, L, pa, ca, hk, rfl, rfl, hLl, hL, hOw, hkr⟩ := hrel
    by_cases hlk : k < A.length
    · obtain ⟨x, hx⟩ : ∃ x, A[k]? = some x := ⟨_, List.getElem?_eq_getElem hlk⟩
      obtain ⟨g, o, rfl, hcx⟩ := strs_get hA2.out hx
      obtain ⟨X, hX⟩ : ∃ X : ByteArray, X = ⟨x.toArray⟩ := ⟨_, rfl⟩
      have c0 : wr.cell? ⟨g, o + k, none⟩ = some (.string X) := by rw [hX]; exact (hkr.out.cell (p := ⟨g, o + k, none⟩) (World.block_lt_of_cell? w2 _ hcx) id).trans hcx
      obtain ⟨z, hz⟩ : ∃ z, B.contains X.data.toList = z := ⟨_, rfl⟩
      have hz' := Lib.hid hz
      have hst : Hid ((A.take (k + 1)).flatMap (face1 b B cs) = L ++ face1 b B cs X.data.toList) := Lib.hid (by rw [flat_take _ hx, hL.out, hX])
      have hBr := Lib.hid (strs_keep hB2'.out hkr.out)
      have n1 : (0 : Int) ≤ (k : Int) := by omega
      have n2 : (k : Int) < (A.length : Int) := by omega
      clear hz hX hcx hx hL
      go_wp2_with fail
      refine (slicesContains_any _ B X z _ hBr.out (by omega) hz').mono ?_
      rintro e w3 ⟨rfl, rfl⟩
      have hO3 := hOw
      have hk3 := hkr
      clear hOw hkr hBr c0
      cases z with
      | false =>
        have hf1 : Hid (face1 b B cs X.data.toList = [⟨2, X.data.toList⟩]) := Lib.hid (by unfold face1; rw [hz'.out]; simp)
        clear hz'
        go_wp2_with ((with_reducible refine at_slot 39 ?_); go_must (refine wpList_append_r rfl (.tmp 34) (.tmp 38) 24 53 rfl i0 _ 24 Tryz.underlying24 hi0 hi1 hi2 hi3 rfl (by decide) (by decide) aVals_len w2 _ L.length L rfl rfl (hO3.out.keep ((Keeps.refl (fun _ => False) _).alloc _) (fun _ _ f => f)) _ rfl ⟨2, X.data.toList⟩ (cells_new rfl [.int .i64 2, .string X] _) (aVals_one _) (by omega) ?_); intro q8 d8 w8 hO8 hg8)
        have hK8 := Lib.hid ((hO3.out.keep ((Keeps.refl (fun _ => False) wr).alloc (.cells #[.int .i64 2, .string X] 53)) (fun _ _ f => f)).keeps (hk3.out.alloc _) hg8.out)
        exact ⟨⟨k + 1, L ++ [⟨2, X.data.toList⟩], q8, d8, by omega, by go_num, by simp, by simp; omega, Lib.hid (by rw [hst.out, hf1.out]), by simpa using hO8, hK8⟩, by simp [intOf]; omega⟩
      | true =>
        obtain ⟨r, hr⟩ : ∃ r, faceK b X.data.toList cs = r := ⟨_, rfl⟩
        have hr' := Lib.hid hr
        have hu3 := Lib.hid (hu2.out.keep hk3.out)
        have hc3 := Lib.hid (hc2.out.keep hk3.out)
        clear hr
        go_wp2_with fail
        refine (plFace_any _ _ b cs X r _ hu3 hrb hc3 (by omega) hr').mono ?_
        rintro e w4 ⟨rfl, k4⟩
        have hO4 := Lib.hid (hO3.out.keep k4 (fun _ _ f => f))
        have hk4 := Lib.hid (hk3.out.trans k4)
        clear k4 hO3 hk3 hu3 hc3
        by_cases h10 : r = 10
        · have hf1 : Hid (face1 b B cs X.data.toList = []) := Lib.hid (by unfold face1; rw [hz'.out, hr'.out]; simp [h10])
          have e1 : (r == 10) = true := by simp [h10]
          clear hz' hr' h10
          go_wp2_with fail
          exact ⟨⟨k + 1, L, pa, ca, by omega, by go_num, rfl, by omega, Lib.hid (by rw [hst.out, hf1.out, List.append_nil]), hO4, hk4⟩, by simp [intOf]; omega⟩
        · have hf1 : Hid (face1 b B cs X.data.toList = [⟨r, X.data.toList⟩]) := Lib.hid (by unfold face1; rw [hz'.out, hr'.out]; simp [h10])
          have e1 : (r == 10) = false := by simp [h10]
          clear hz' hr' h10
          go_wp2_with ((with_reducible refine at_slot 39 ?_); go_must (refine wpList_append_r rfl (.tmp 34) (.tmp 38) 24 53 rfl i0 _ 24 Tryz.underlying24 hi0 hi1 hi2 hi3 rfl (by decide) (by decide) aVals_len w2 _ L.length L rfl rfl (hO4.out.keep ((Keeps.refl (fun _ => False) _).alloc _) (fun _ _ f => f)) _ rfl ⟨r, X.data.toList⟩ (cells_new rfl [.int .i64 r, .string X] _) (aVals_one _) (by omega) ?_); intro q8 d8 w8 hO8 hg8)
          have hK8 := Lib.hid ((hO4.out.keep ((Keeps.refl (fun _ => False) w4).alloc (.cells #[.int .i64 r, .string X] 53)) (fun _ _ f => f)).keeps (hk4.out.alloc _) hg8.out)
          exact ⟨⟨k + 1, L ++ [⟨r, X.data.toList⟩], q8, d8, by omega, by go_num, by simp, by simp; omega, Lib.hid (by rw [hst.out, hf1.out]), by simpa using hO8, hK8⟩, by simp [intOf]; omega⟩
    · obtain rfl : k = A.length := by omega
      rw [List.take_length] at hL
      clear hlk hk
      generalize hgz : wr = w5 at hOw hkr ⊢
      clear hgz
      have hL0 : Hid (L = L ++ ((B.take 0).flatMap (face2 A))) := Lib.hid (by simp)
      go_wp2_with fail
      go_loopw [43, 9] (fun iv lv wr => ∃ (j : Nat) (M : List ActD) (pb : Option Addr) (cb : Nat), j ≤ B.length ∧ iv = .int .i64 j ∧ lv = .slice pb M.length cb ∧ M.length ≤ A.length + j ∧ Hid (M = L ++ (B.take j).flatMap (face2 A)) ∧ Hid (OwnR 53 2 aVals w2 wr lv M) ∧ Hid (Keeps (fun _ => False) w2 wr)) (fun iv _ _ => B.length - (intOf iv).toNat)
      case atStart => exact ⟨0, L, pa, ca, by omega, rfl, rfl, by omega, hL0, hOw, hkr⟩
      case round =>
        obtain ⟨j, M, pb, cb, hj, rfl, rfl, hMl, hM, hOm, hkm⟩ := hrel
        clear hOw hkr
        by_cases hlj : j < B.length
        · obtain ⟨x, hx⟩ : ∃ x, B[j]? = some x := ⟨_, List.getElem?_eq_getElem hlj⟩
          obtain ⟨g, o, rfl, hcx⟩ := strs_get hB2'.out hx
          obtain ⟨X, hX⟩ : ∃ X : ByteArray, X = ⟨x.toArray⟩ := ⟨_, rfl⟩
          have c0 : wr.cell? ⟨g, o + j, none⟩ = some (.string X) := by rw [hX]; exact (hkm.out.cell (p := ⟨g, o + j, none⟩) (World.block_lt_of_cell? w2 _ hcx) id).trans hcx
          obtain ⟨z, hz⟩ : ∃ z, A.contains X.data.toList = z := ⟨_, rfl⟩
          have hz' := Lib.hid hz
          have hst : Hid (L ++ (B.take (j + 1)).flatMap (face2 A) = M ++ face2 A X.data.toList) := Lib.hid (by rw [flat_take _ hx, hM.out, hX, List.append_assoc])
          have hAr := Lib.hid (strs_keep hA2.out hkm.out)
          have n1 : (0 : Int) ≤ (j : Int) := by omega
          have n2 : (j : Int) < (B.length : Int) := by omega
          clear hz hX hcx hx hM
          go_wp2_with fail
          refine (slicesContains_any _ A X z _ hAr.out (by omega) hz').mono ?_
          rintro e w6 ⟨rfl, rfl⟩
          have hO6 := hOm
          have hk6 := hkm
          clear hOm hkm hAr c0
          cases z with
          | true =>
            have hf2 : Hid (face2 A X.data.toList = []) := Lib.hid (by unfold face2; rw [hz'.out]; rfl)
            clear hz'
            go_wp2_with fail
            exact ⟨⟨j + 1, M, pb, cb, by omega, by go_num, rfl, by omega, Lib.hid (by rw [hst.out, hf2.out, List.append_nil]), hO6, hk6⟩, by simp [intOf]; omega⟩
          | false =>
            have hf2 : Hid (face2 A X.data.toList = [⟨6, X.data.toList⟩]) := Lib.hid (by unfold face2; rw [hz'.out]; rfl)
            clear hz'
            go_wp2_with ((with_reducible refine at_slot 55 ?_); go_must (refine wpList_append_r rfl (.tmp 51) (.tmp 54) 24 53 rfl i0 _ 24 Tryz.underlying24 hi0 hi1 hi2 hi3 rfl (by decide) (by decide) aVals_len w2 _ M.length M rfl rfl (hO6.out.keep ((Keeps.refl (fun _ => False) _).alloc _) (fun _ _ f => f)) _ rfl ⟨6, X.data.toList⟩ (cells_new rfl [.int .i64 6, .string X] _) (aVals_one _) (by omega) ?_); intro q8 d8 w8 hO8 hg8)
            have hK8 := Lib.hid ((hO6.out.keep ((Keeps.refl (fun _ => False) wr).alloc (.cells #[.int .i64 6, .string X] 53)) (fun _ _ f => f)).keeps (hk6.out.alloc _) hg8.out)
            exact ⟨⟨j + 1, M ++ [⟨6, X.data.toList⟩], q8, d8, by omega, by go_num, by simp, by simp; omega, Lib.hid (by rw [hst.out, hf2.out]), by simpa using hO8, hK8⟩, by simp [intOf]; omega⟩
        · obtain rfl : j = B.length := by omega
          rw [List.take_length] at hM
          clear hlj
          go_wp2_with fail
          go_ret
          rw [← hres.out, ← hL.out, ← hM.out]
          exact ⟨pb, cb, rfl, hOm.out.older hk2.out.size, hk2.out.trans hkm.out⟩
end Go.Proofs.YtmclnamgihphcaaGreat
/- plan's order of actions: compare (out of LW, ELA). -/
set_option linter.unusedVariables false
set_option linter.unusedSimpArgs false
namespace Go.Proofs.YtmclnamgihphcaaGreat
open Go.RowKit Go.Sort

def cmpI (a b : Int) : Int := if a < b then -1 else if a > b then 1 else 0
def cmpH (age1 age2 : Nat) (seq1 seq2 : Int) (sum1 sum2 : Nat) : Int :=
  if seq1 ≠ seq2 then cmpI seq1 seq2 else if sum1 ≠ sum2 then cmpI sum1 sum2 else if age1 = 3600 ∧ age2 ≠ 3600 then 1 else if age2 = 3600 ∧ age1 ≠ 3600 then -1
  else if max age1 age2 - min age1 age2 > 900 then cmpI age2 age1 else 0
set_option maxHeartbeats 1000000 in
theorem nanInt_any (a : Int) (w : World) : Calls Tryz.prog 45 #[.int .i64 a] w fun e w' => e = .returned (.bool false) ∧ w = w' := by
  have h : (a != a) = false := by simp
  go_enter Tryz.func45, Tryz.ntmps45
  go_wp2_with fail
  go_ret
  exact ⟨rfl, rfl⟩
set_option maxHeartbeats 1000000 in
set_option maxHeartbeats 1000000 in
theorem cmpInt_any (a b : Int) (w : World) : Calls Tryz.prog 22 #[.int .i64 a, .int .i64 b] w fun e w' => e = .returned (.int .i64 (cmpI a b)) ∧ w = w' := by
  unfold cmpI
  by_cases h1 : a < b
  · rw [if_pos h1]
    go_enter Tryz.func22, Tryz.ntmps22
    go_wp2_with fail
    refine (nanInt_any _ _).mono ?_
    rintro e w' ⟨rfl, rfl⟩
    go_wp2_with fail
    refine (nanInt_any _ _).mono ?_
    rintro e w' ⟨rfl, rfl⟩
    go_wp2_with fail
    go_ret
    exact ⟨rfl, rfl⟩
  · rw [if_neg h1]
    by_cases h2 : a > b
    · rw [if_pos h2]
      go_enter Tryz.func22, Tryz.ntmps22
      go_wp2_with fail
      refine (nanInt_any _ _).mono ?_
      rintro e w' ⟨rfl, rfl⟩
      go_wp2_with fail
      refine (nanInt_any _ _).mono ?_
      rintro e w' ⟨rfl, rfl⟩
      go_wp2_with fail
      go_ret
      exact ⟨rfl, rfl⟩
    · rw [if_neg h2]
      go_enter Tryz.func22, Tryz.ntmps22
      go_wp2_with fail
      refine (nanInt_any _ _).mono ?_
      rintro e w' ⟨rfl, rfl⟩
      go_wp2_with fail
      refine (nanInt_any _ _).mono ?_
      rintro e w' ⟨rfl, rfl⟩
      go_wp2_with fail
      go_ret
      exact ⟨rfl, rfl⟩
def orI (a b : Int) : Int := if a ≠ 0 then a else b
set_option maxHeartbeats 1000000 in
theorem orInt_any (g c : Nat) (a b : Int) (z : Int) (w : World) (hz : Hid (orI a b = z)) (h : Hid (w.rangeAt g 0 [.int .i64 a, .int .i64 b])) :
    Calls Tryz.prog 21 #[.slice (some ⟨g, 0, none⟩) 2 c] w fun e w' => e = .returned (.int .i64 z) ∧ w = w' := by
  have h0 : w.cell? ⟨g, 0, none⟩ = some (.int .i64 a) := h.out 0 _ rfl
  have h1 : w.cell? ⟨g, 1, none⟩ = some (.int .i64 b) := h.out 1 _ rfl
  clear h
  have hA : Hid (a ≠ 0 → a = z) := Lib.hid (fun e => by rw [← hz.out]; unfold orI; rw [if_pos e])
  have hB : Hid (a = 0 → b = z) := Lib.hid (fun e => by rw [← hz.out]; unfold orI; rw [if_neg (fun h => h e)])
  clear hz
  go_enter Tryz.func21, Tryz.ntmps21
  go_wp2_with fail
  go_loop [8] (fun iv => ∃ k : Nat, k ≤ 2 ∧ iv = .int .i64 k ∧ (1 ≤ k → a = 0) ∧ (2 ≤ k → b = 0)) (fun iv => 2 - (intOf iv).toNat)
  case atStart => exact ⟨0, by omega, rfl, by omega, by omega⟩
  case round =>
    obtain ⟨k, hk, rfl, ha, hb⟩ := hrel
    have hk3 : k = 0 ∨ k = 1 ∨ k = 2 := by omega
    rcases hk3 with rfl | rfl | rfl
    · by_cases e : a = 0
      · have e1 : (a != 0) = false := by rw [e]; rfl
        have e' := Lib.hid e
        clear e
        go_wp2_with fail
        exact ⟨⟨1, by omega, rfl, fun _ => e'.out, by omega⟩, by simp [intOf]⟩
      · have e1 : (a != 0) = true := by rw [bne_iff_ne]; exact e
        have ez := Lib.hid (hA.out e)
        clear e ha hb
        go_wp2_with fail
        go_ret
        exact ⟨by rw [ez.out]; rfl, rfl⟩
    · have e0 := ha (by omega)
      have ez := Lib.hid (hB.out e0)
      clear e0
      by_cases e : b = 0
      · have e1 : (b != 0) = false := by rw [e]; rfl
        have e' := Lib.hid e
        clear e
        go_wp2_with fail
        exact ⟨⟨2, by omega, rfl, fun _ => ha (by omega), fun _ => e'.out⟩, by simp [intOf]⟩
      · have e1 : (b != 0) = true := by rw [bne_iff_ne]; exact e
        clear e ha hb
        go_wp2_with fail
        go_ret
        exact ⟨by rw [ez.out]; rfl, rfl⟩
    · have e0 := ha (by omega)
      have e1 := hb (by omega)
      have ez := Lib.hid (e1.symm.trans (hB.out e0))
      clear e0 e1 ha hb
      go_wp2_with fail
      go_ret
      exact ⟨by rw [← ez.out]; rfl, rfl⟩


def cmpS (a b : List UInt8) : Int := if Op.bytesLess a b = true then -1 else if Op.bytesLess b a = true then 1 else 0
theorem nanStr_any (a : ByteArray) (w : World) : Calls Tryz.prog 46 #[.string a] w fun e w' => e = .returned (.bool false) ∧ w = w' := by
  have h : (a.toList == a.toList) = true := by simp
  go_enter Tryz.func46, Tryz.ntmps46
  go_wp2_with fail
  go_ret
  exact ⟨rfl, rfl⟩
set_option maxHeartbeats 1000000 in
theorem cmpStr_any (a b : ByteArray) (w : World) : Calls Tryz.prog 23 #[.string a, .string b] w fun e w' => e = .returned (.int .i64 (cmpS a.data.toList b.data.toList)) ∧ w = w' := by
  unfold cmpS
  have hd : Op.bytesLess a.data.toList b.data.toList = Op.bytesLess a.toList b.toList := by rw [Lib.toList_data, Lib.toList_data]
  cases h1 : Op.bytesLess a.data.toList b.data.toList with
  | true =>
    rw [if_pos rfl]
    have l1 : Op.bytesLess a.toList b.toList = true := hd.symm.trans h1
    clear hd h1
    go_enter Tryz.func23, Tryz.ntmps23
    go_wp2_with fail
    refine (nanStr_any _ _).mono ?_
    rintro e w' ⟨rfl, rfl⟩
    go_wp2_with fail
    refine (nanStr_any _ _).mono ?_
    rintro e w' ⟨rfl, rfl⟩
    go_wp2_with fail
    go_ret
    exact ⟨rfl, rfl⟩
  | false =>
    rw [if_neg Bool.false_ne_true]
    have l1 : Op.bytesLess a.toList b.toList = false := hd.symm.trans h1
    by_cases he : a.data.toList = b.data.toList
    · have h2 : ¬ Op.bytesLess b.data.toList a.data.toList = true := by rw [he, bl_irr]; exact Bool.false_ne_true
      rw [if_neg h2]
      have e2 := beq_list he
      clear hd h1 he h2
      go_enter Tryz.func23, Tryz.ntmps23
      go_wp2_with fail
      refine (nanStr_any _ _).mono ?_
      rintro e w' ⟨rfl, rfl⟩
      go_wp2_with fail
      refine (nanStr_any _ _).mono ?_
      rintro e w' ⟨rfl, rfl⟩
      go_wp2_with fail
      go_ret
      exact ⟨rfl, rfl⟩
    · have h2 : Op.bytesLess b.data.toList a.data.toList = true := by
        cases h3 : Op.bytesLess b.data.toList a.data.toList with
        | true => rfl
        | false => exact absurd (bl_tri h1 h3) he
      rw [if_pos h2]
      have e2 := bne_list he
      clear hd h1 he h2
      go_enter Tryz.func23, Tryz.ntmps23
      go_wp2_with fail
      refine (nanStr_any _ _).mono ?_
      rintro e w' ⟨rfl, rfl⟩
      go_wp2_with fail
      refine (nanStr_any _ _).mono ?_
      rintro e w' ⟨rfl, rfl⟩
      go_wp2_with fail
      go_ret
      exact ⟨rfl, rfl⟩
def cmpA (x y : ActD) : Int := orI (cmpI x.kind y.kind) (cmpS x.name y.name)
theorem ltA (x y : ActD) : Go.Proofs.ltOf cmpA x y = true ↔ x.kind < y.kind ∨ (x.kind = y.kind ∧ Op.bytesLess x.name y.name = true) := by
  unfold Go.Proofs.ltOf cmpA orI cmpI cmpS
  rw [decide_eq_true_iff]
  by_cases h1 : x.kind < y.kind
  · simp [h1]
  · by_cases h2 : x.kind > y.kind
    · have h3 : ¬ x.kind = y.kind := by omega
      simp [h1, h2, h3]
    · have h3 : x.kind = y.kind := by omega
      cases h4 : Op.bytesLess x.name y.name with
      | true => simp [h1, h2, h3]
      | false =>
        cases h5 : Op.bytesLess y.name x.name with
        | true => simp [h1, h2, h3]
        | false => simp [h1, h2, h3]
set_option maxRecDepth 100000 in
set_option maxHeartbeats 4000000 in
theorem plCmp_c (k1 k2 : Int) (N1 N2 : ByteArray) (w : World) : Calls Tryz.prog 20 #[.agg #[.int .i64 k1, .string N1], .agg #[.int .i64 k2, .string N2]] w fun e w' => e = .returned (.int .i64 (cmpA ⟨k1, N1.data.toList⟩ ⟨k2, N2.data.toList⟩)) ∧ ∃ q os, w' = grow (w.drewN q) os := by
  obtain ⟨wB, hwB⟩ : ∃ W, W = (w.alloc (.cells #[.int .i64 k1, .string N1] 53)).alloc (.cells #[.int .i64 k2, .string N2] 53) := ⟨_, rfl⟩
  have hA : Hid (wB.rangeAt w.heap.size 0 [.int .i64 k1, .string N1]) := Lib.hid (by rw [hwB]; exact ((BlkAt.new w 53 [.int .i64 k1, .string N1]).alloc _).range)
  have hB : Hid (wB.rangeAt (w.heap.size + 1) 0 [.int .i64 k2, .string N2]) := Lib.hid (by
    have h := (BlkAt.new (w.alloc (.cells #[.int .i64 k1, .string N1] 53)) 53 [.int .i64 k2, .string N2]).range
    rw [alloc_size] at h
    rw [hwB]; exact h)
  have hg : Hid (wB = grow w #[.cells #[.int .i64 k1, .string N1] 53, .cells #[.int .i64 k2, .string N2] 53]) := Lib.hid (by rw [hwB, alloc_eq_grow, alloc_eq_grow, grow_grow]; rfl)
  have hwB' := Lib.hid hwB
  clear hwB
  obtain ⟨x, hx⟩ : ∃ x, orI (cmpI k1 k2) (cmpS N1.data.toList N2.data.toList) = x := ⟨_, rfl⟩
  have hx' := Lib.hid hx
  have hxx : Hid (cmpA ⟨k1, N1.data.toList⟩ ⟨k2, N2.data.toList⟩ = x) := Lib.hid hx
  clear hx
  go_enter Tryz.func20, Tryz.ntmps20
  go_upto_region 1 with fail
  rw [← hwB'.out]
  refine wp_region_noPanic ?_
  refine wp_region_held_drew (S := (fun W => Keeps (fun _ => False) wB W ∧ ∃ q os, W = grow (w.drewN q) os)) (by kernel_rfl) (⟨(Keeps.refl (fun _ => False) _).drew, 1, _, by rw [hg.out]; rfl⟩) (fun hHeld => ?_)
  refine tk 0 rfl ?_
  refine tkL 1 rfl (yieldsIf_load_cell (by rfl) 3 (.tmp 5) rfl w.heap.size 0 rfl _ (fun _ s => (s.1.rangeAt hA.out id) 0 (.int .i64 k1) rfl) (fun w s => load_int w _ _ _ s)) ?_
  refine tk 2 rfl ?_
  refine tkL 3 rfl (yieldsIf_load_cell (by rfl) 3 (.tmp 7) rfl (w.heap.size + 1) 0 rfl _ (fun _ s => (s.1.rangeAt hB.out id) 0 (.int .i64 k2) rfl) (fun w s => load_int w _ _ _ s)) ?_
  refine tk 5 rfl ?_
  refine tkL 6 rfl (yieldsIf_load_cell (by rfl) 9 (.tmp 10) rfl w.heap.size 1 rfl _ (fun _ s => (s.1.rangeAt hA.out id) 1 (.string N1) rfl) (fun w s => load_str w _ _ _ s)) ?_
  refine tk 7 rfl ?_
  refine tkL 8 rfl (yieldsIf_load_cell (by rfl) 9 (.tmp 12) rfl (w.heap.size + 1) 1 rfl _ (fun _ s => (s.1.rangeAt hB.out id) 1 (.string N2) rfl) (fun w s => load_str w _ _ _ s)) ?_
  refine stepL 4 rfl (by kernel_rfl) (fun K hK => ?_)
  go_simp
  (refine (cmpInt_any _ _ _).mono ?_; rintro e w' ⟨rfl, rfl⟩)
  go_wp2_with fail
  refine hK.out _ _ (hHeld) (fun hHeld => ?_)
  clear hK K
  try simp only [Act.put, sA, sZ, sS]
  refine stepL 9 rfl (by kernel_rfl) (fun K hK => ?_)
  go_simp
  (refine (cmpStr_any _ _ _).mono ?_; rintro e w' ⟨rfl, rfl⟩)
  go_wp2_with fail
  refine hK.out _ _ (hHeld) (fun hHeld => ?_)
  clear hK K
  try simp only [Act.put, sA, sZ, sS]
  refine stepL 10 rfl (by kernel_rfl) (fun K hK => ?_)
  go_simp
  refine hK.out _ _ ((⟨hHeld.1.alloc _, 1, _, by rw [hg.out, alloc_eq_grow, grow_grow]; rfl⟩)) (fun hHeld => ?_)
  clear hK K
  try simp only [Act.put, sA, sZ, sS]
  refine stepL 11 rfl (by kernel_rfl) (fun K hK => ?_)
  go_simp
  (refine (orInt_any _ _ _ _ x _ hx' (Lib.hid (Keeps.rangeAt ((Keeps.refl (fun _ => False) _).drew) (new_rangeb wB _ _) id))).mono ?_; rintro e w' ⟨rfl, rfl⟩)
  go_wp2_with fail
  refine hK.out _ _ (hHeld) (fun hHeld => ?_)
  clear hK K
  try simp only [Act.put, sA, sZ, sS]
  refine tk 12 rfl ?_
  refine wpAnyH_done (by kernel_rfl) (NoPanic.normal ?_) _
  have hh := Lib.hid hHeld
  clear hHeld
  go_wp2_with fail
  go_ret
  exact ⟨by rw [hxx.out]; rfl, hh.out.2⟩
end Go.Proofs.YtmclnamgihphcaaGreat
/- slices.SortFunc at actions, laid in plain words by lay-plain.mjs: its numbers made names. -/
namespace Go.Proofs.YtmclnamgihphcaaGreat
open Go.Shelf
def Tryz.sortAct_ren : Go.Shelf.Ren := ⟨fun | 6 => 19 | 15 => 44 | 14 => 43 | 28 => 70 | 29 => 71 | 20 => 62 | 21 => 63 | 22 => 64 | 23 => 65 | 24 => 66 | 25 => 67 | 26 => 68 | 27 => 69 | 46 => 82 | 47 => 83 | 48 => 84 | 49 => 85 | 50 => 86 | 57 => 93 | n => n, fun | 22 => 24 | 24 => 53 | 25 => 60 | 3 => 3 | 39 => 101 | 0 => 0 | 53 => 128 | 55 => 130 | 4 => 4 | 46 => 122 | 45 => 121 | 50 => 76 | 5 => 5 | 9 => 9 | 66 => 144 | 70 => 148 | 76 => 153 | 77 => 154 | n => n, fun | n => n⟩
theorem Tryz.sortAct : Go.Proofs.SlLaysF0.n6 Tryz.prog Tryz.sortAct_ren := {
  mixed := by kernel_rfl
  f6 := ⟨Tryz.f19.name, by decide, Tryz.func19.trans (congrArg some (by kernel_rfl))⟩
  f14 := ⟨Tryz.f43.name, by decide, Tryz.func43.trans (congrArg some (by kernel_rfl))⟩
  f15 := Tryz.func44.trans (congrArg some (by kernel_rfl))
  f20 := ⟨Tryz.f62.name, by decide, Tryz.func62.trans (congrArg some (by kernel_rfl))⟩
  f21 := ⟨Tryz.f63.name, by decide, Tryz.func63.trans (congrArg some (by kernel_rfl))⟩
  f22 := ⟨Tryz.f64.name, by decide, Tryz.func64.trans (congrArg some (by kernel_rfl))⟩
  f23 := ⟨Tryz.f65.name, by decide, Tryz.func65.trans (congrArg some (by kernel_rfl))⟩
  f24 := ⟨Tryz.f66.name, by decide, Tryz.func66.trans (congrArg some (by kernel_rfl))⟩
  f25 := ⟨Tryz.f67.name, by decide, Tryz.func67.trans (congrArg some (by kernel_rfl))⟩
  f26 := ⟨Tryz.f68.name, by decide, Tryz.func68.trans (congrArg some (by kernel_rfl))⟩
  f27 := ⟨Tryz.f69.name, by decide, Tryz.func69.trans (congrArg some (by kernel_rfl))⟩
  f28 := Tryz.func70.trans (congrArg some (by kernel_rfl))
  f29 := Tryz.func71.trans (congrArg some (by kernel_rfl))
  f46 := ⟨Tryz.f82.name, by decide, Tryz.func82.trans (congrArg some (by kernel_rfl))⟩
  f47 := Tryz.func83.trans (congrArg some (by kernel_rfl))
  f48 := Tryz.func84.trans (congrArg some (by kernel_rfl))
  f49 := ⟨Tryz.f85.name, by decide, Tryz.func85.trans (congrArg some (by kernel_rfl))⟩
  f50 := ⟨Tryz.f86.name, by decide, Tryz.func86.trans (congrArg some (by kernel_rfl))⟩
  f57 := ⟨Tryz.f93.name, by decide, Tryz.func93.trans (congrArg some (by kernel_rfl))⟩
  t0 := Tryz.underlying0
  a0 := Tryz.isAgg0
  z0 := Tryz.sizeOf0
  v0 := Tryz.zeroValue0
  t3 := Tryz.underlying3
  a3 := Tryz.isAgg3
  z3 := Tryz.sizeOf3
  v3 := Tryz.zeroValue3
  t4 := Tryz.underlying4
  a4 := Tryz.isAgg4
  z4 := Tryz.sizeOf4
  v4 := Tryz.zeroValue4
  t5 := Tryz.underlying5
  a5 := Tryz.isAgg5
  z5 := Tryz.sizeOf5
  v5 := Tryz.zeroValue5
  t9 := Tryz.underlying9
  a9 := Tryz.isAgg9
  z9 := Tryz.sizeOf9
  v9 := Tryz.zeroValue9
  t22 := Tryz.underlying24
  a22 := Tryz.isAgg24
  z22 := Tryz.sizeOf24
  v22 := Tryz.zeroValue24
  t25 := Tryz.underlying60
  a25 := Tryz.isAgg60
  z25 := Tryz.sizeOf60
  v25 := Tryz.zeroValue60
  t39 := Tryz.underlying101
  a39 := Tryz.isAgg101
  z39 := Tryz.sizeOf101
  v39 := Tryz.zeroValue101
  t45 := Tryz.underlying121
  a45 := Tryz.isAgg121
  z45 := Tryz.sizeOf121
  v45 := Tryz.zeroValue121
  t46 := Tryz.underlying122
  a46 := Tryz.isAgg122
  z46 := Tryz.sizeOf122
  v46 := Tryz.zeroValue122
  t50 := Tryz.underlying76
  a50 := Tryz.isAgg76
  z50 := Tryz.sizeOf76
  v50 := Tryz.zeroValue76
  t53 := Tryz.underlying128
  a53 := Tryz.isAgg128
  z53 := Tryz.sizeOf128
  v53 := Tryz.zeroValue128
  t55 := Tryz.underlying130
  a55 := Tryz.isAgg130
  z55 := Tryz.sizeOf130
  v55 := Tryz.zeroValue130
  t66 := Tryz.underlying144
  a66 := Tryz.isAgg144
  z66 := Tryz.sizeOf144
  v66 := Tryz.zeroValue144
  t70 := Tryz.underlying148
  a70 := Tryz.isAgg148
  z70 := Tryz.sizeOf148
  v70 := Tryz.zeroValue148
  t76 := Tryz.underlying153
  a76 := Tryz.isAgg153
  z76 := Tryz.sizeOf153
  v76 := Tryz.zeroValue153
  t77 := Tryz.underlying154
  a77 := Tryz.isAgg154
  z77 := Tryz.sizeOf154
  v77 := Tryz.zeroValue154 }
end Go.Proofs.YtmclnamgihphcaaGreat
