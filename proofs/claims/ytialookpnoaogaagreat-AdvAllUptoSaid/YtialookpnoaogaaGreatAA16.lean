/- The document's Check of layer 8, walked (gen_rvp.py). -/
import Derived.Test.YtialookpnoaogaaGreatAA15
import Derived.Deep.DeepCutAuto
import Derived.Deep.CutBlock
import Derived.BigQuiet
set_option linter.unusedVariables false
set_option linter.unusedSimpArgs false
set_option linter.unusedVariables false
set_option linter.unusedSimpArgs false
namespace Go.Proofs.YtialookpnoaogaaGreat
open Go.RowKit

theorem strv_of (V : ByteArray) : strv V.data.toList = .string V := by cases V; simp [strv]
theorem _root_.Go.Proofs.YtialookpnoaogaaGreat.OwnR.own_lt8 {α : Type} {t sz : Nat} {cv : α → List Value} {w0 w : World} {v : Value} {xs : List α} (h : OwnR t sz cv w0 w v xs) (k : Nat) (e : v.ownBlock = some k) : k < w.heap.size := by
  rcases h.1.2 with ⟨e1, _⟩ | ⟨g, cap, cur, he, _, hg, _⟩
  · rw [e1] at e; simp [Value.ownBlock] at e
  · rw [he] at e
    have e : some g = some k := e
    injection e with e; subst e; exact lt_of_block hg
set_option maxRecDepth 100000 in
set_option maxHeartbeats 64000000 in
theorem r8Check_c (v : Value) (ls : List LineD) (w : World) (hv : Hid (RowsAt 4 lineVals w v ls)) (hr : Hid (rightC ls = true)) :
    Calls Tryz.prog 28 #[v] w (FRes8 (docR ls) w) := by
  have hlen := right_len hr.out
  obtain ⟨p, c, rfl⟩ := hv.out.slice
  obtain ⟨i0, hi0, hi1, hi2, hi3⟩ := faultAll8
  have hmm := @run_makeMap Tryz.prog
  go_enter Tryz.func28, Tryz.ntmps28
  go_wp2_with fail
  refine (rNames_all _ ls 2 _ hv hr).mono ?_
  rintro e w1 ⟨p1, c1, rfl, hF1, k1⟩
  have hF1' := Lib.hid hF1
  have hv1 := Lib.hid (hv.out.keep k1)
  have k1' := Lib.hid k1
  clear hF1 k1 hv
  go_wp2_with fail
  refine (rNames_all _ ls 1 _ hv1 hr).mono ?_
  rintro e w2 ⟨p2, c2, rfl, hA2, k2⟩
  have hF0 := Lib.hid (hF1'.out.keep k2 (fun _ _ _ f => f))
  have hA0 := Lib.hid hA2
  have hv2 := Lib.hid (hv1.out.keep k2)
  have k2' := Lib.hid (k1'.out.trans k2)
  clear hA2 k2 hv1 k1' hF1'
  have hFl := namesA_len 2 ls
  have hAl := namesA_len 1 ls
  have hres : Hid (docTo ls (namesA 2 ls) (namesA 1 ls) 8 = docR ls) := Lib.hid rfl
  generalize namesA 2 ls = F at hF0 hFl hres ⊢
  generalize namesA 1 ls = A at hA0 hAl hres ⊢
  have hF64 : F.length ≤ 64 := by omega
  have hA64 : A.length ≤ 64 := by omega
  clear hFl hAl
  go_wp2_with fail
  go_loopw [6, 3] (fun iv ov wr => ∃ (kd : Nat) (L : List FaultD) (q : Option Addr) (d : Nat), kd ≤ 8 ∧ iv = .int .i64 ((kd : Int) + 1) ∧ ov = .slice q L.length d ∧ L.length ≤ 200 * kd ∧ Hid (L = docTo ls F A kd) ∧ Hid (OwnR 139 2 fVals w2 wr ov L) ∧ Hid (Keeps (fun _ => False) w2 wr)) (fun iv _ _ => 9 - (intOf iv).toNat)
  case atStart => exact ⟨0, [], none, 0, by omega, rfl, rfl, by simp, Lib.hid rfl, Lib.hid (OwnR.nil _ _ (Nat.le_refl _)), Lib.hid (Keeps.refl _ _)⟩
  case round =>
    as_aux_lemma =>
      obtain ⟨kd, L, q, d, hk8, rfl, rfl, hLl, hL, hO, hK⟩ := hrel
      by_cases hlk : kd < 8
      · have m1 : (kd : Int) + 1 ≤ 8 := by omega
        have hvr := Lib.hid (hv2.out.keep hK.out)
        obtain ⟨V0, hV0⟩ : ∃ V : ByteArray, V = ⟨((setR ls 0 (⟨#[]⟩ : ByteArray).data.toList (⟨#[114, 111, 117, 116, 101, 114, 45, 105, 100]⟩ : ByteArray).data.toList).getD []).toArray⟩ := ⟨_, rfl⟩
        obtain ⟨b0, hb0⟩ : ∃ b, (setR ls 0 (⟨#[]⟩ : ByteArray).data.toList (⟨#[114, 111, 117, 116, 101, 114, 45, 105, 100]⟩ : ByteArray).data.toList).isSome = b := ⟨_, rfl⟩
        have hV0' := Lib.hid hV0
        have hb0' := Lib.hid hb0
        obtain ⟨z1, hz1⟩ : ∃ z, zA ls F (kd + 1) = z := ⟨_, rfl⟩
        have hz1' := Lib.hid hz1
        clear hV0 hb0 hz1
        go_wp2_with fail
        refine (r8Set_any _ ls 0 ⟨#[]⟩ ⟨#[114, 111, 117, 116, 101, 114, 45, 105, 100]⟩ V0 b0 _ hvr (by omega) hV0' hb0').mono ?_
        rintro e w3 ⟨rfl, k3⟩
        have hK3 := Lib.hid (hK.out.trans k3)
        have hO3 := Lib.hid (hO.out.keep k3 (fun _ _ f => f))
        clear k3 hK hO hvr
        go_upto_region 7 with fail
        go_cut [59] (fun tv wx => tv = .bool z1 ∧ Hid (OwnR 139 2 fVals w2 wx (.slice q L.length d) L) ∧ Hid (Keeps (fun _ => False) w2 wx))
        case first =>
          as_aux_lemma =>
            by_cases a1 : kd = 0
            · have e1 : ((kd : Int) + 1 == 1) = true := by simp; omega
              by_cases a2 : 0 < F.length
              · have e2 : (0 : Int) < (F.length : Int) := by omega
                cases b0 with
                | false =>
                  have hzt : Hid (z1 = true) := Lib.hid (by
                    rw [← hz1'.out]; unfold zA
                    have h := hb0'.out
                    cases hs : setR ls 0 [] routerW with
                    | none => simp [a1, a2]
                    | some x => rw [show setR ls 0 (⟨#[]⟩ : ByteArray).data.toList (⟨#[114, 111, 117, 116, 101, 114, 45, 105, 100]⟩ : ByteArray).data.toList = some x from hs] at h; cases h)
                  clear a1 a2
                  go_wp2_with fail
                  go_meet
                  case rel => exact ⟨by rw [hzt.out], hO3, hK3⟩
                | true =>
                  obtain ⟨x, hx⟩ : ∃ x, setR ls 0 [] routerW = some x := by
                    have h := hb0'.out
                    cases hs : setR ls 0 [] routerW with
                    | none => rw [show setR ls 0 (⟨#[]⟩ : ByteArray).data.toList (⟨#[114, 111, 117, 116, 101, 114, 45, 105, 100]⟩ : ByteArray).data.toList = none from hs] at h; cases h
                    | some x => exact ⟨x, rfl⟩
                  have hVx : V0.data.toList = x := by rw [hV0'.out, show setR ls 0 (⟨#[]⟩ : ByteArray).data.toList (⟨#[114, 111, 117, 116, 101, 114, 45, 105, 100]⟩ : ByteArray).data.toList = some x from hx]; rfl
                  have hzz : z1 = decide (x = boneW) := by rw [← hz1'.out]; unfold zA; rw [hx]; simp [a1, a2]
                  have e3 := ba_eqr V0 boneW
                  rw [hVx, ← hzz] at e3
                  unfold boneW at e3
                  clear hzz hVx hx a1 a2
                  go_wp2_with fail
                  go_meet
                  case rel => exact ⟨rfl, hO3, hK3⟩
              · have e2 : ¬ (0 : Int) < (F.length : Int) := by omega
                have hzf : Hid (z1 = false) := Lib.hid (by rw [← hz1'.out]; unfold zA; simp [a2])
                clear a1 a2
                go_wp2_with fail
                go_meet
                case rel => exact ⟨by rw [hzf.out], hO3, hK3⟩
            · have e1 : ((kd : Int) + 1 == 1) = false := by simp; omega
              have hzf : Hid (z1 = false) := Lib.hid (by rw [← hz1'.out]; unfold zA; simp [a1])
              clear a1
              go_wp2_with fail
              go_meet
              case rel => exact ⟨by rw [hzf.out], hO3, hK3⟩
        case rest =>
          as_aux_lemma =>
            obtain ⟨rfl, hO4, hK4⟩ := hcut
            clear hO3 hK3 hV0' hb0'
            generalize wc = w4 at hO4 hK4 ⊢
            go_upto_if 59 with fail
            go_cut [3] (fun ov wx => (∃ q' d', ov = .slice q' (L ++ one8 z1 1 []).length d' ∧ Hid (OwnR 139 2 fVals w2 wx (.slice q' (L ++ one8 z1 1 []).length d') (L ++ one8 z1 1 []))) ∧ Hid (Keeps (fun _ => False) w2 wx))
            case first =>
              as_aux_lemma =>
                cases z1 with
                | true =>
                  go_wp2_with ((with_reducible refine at_slot 63 ?_); go_must (refine wpList_append_r rfl (.tmp 60) (.tmp 62) 87 139 rfl i0 _ 24 Tryz.underlying87 hi0 hi1 hi2 hi3 rfl (by decide) (by decide) fVals_len w2 _ L.length L rfl rfl (hO4.out.keep ((Keeps.refl (fun _ => False) _).alloc _) (fun _ _ f => f)) _ rfl ⟨1, []⟩ (cells_new rfl [.int .i64 1, .string ⟨#[]⟩] _) (fVals_one _) (by omega) ?_); intro q8 d8 w8 hO8 hg8)
                  have hk9 := Lib.hid ((hO4.out.keep ((Keeps.refl (fun _ => False) w4).alloc (.cells #[.int .i64 1, .string ⟨#[]⟩] 139)) (fun _ _ f => f)).keeps (hK4.out.alloc _) hg8.out)
                  go_meet
                  case rel => exact ⟨⟨q8, d8, by rw [one_yes rfl, List.length_append]; rfl, by rw [one_yes rfl, List.length_append]; exact hO8⟩, hk9⟩
                | false =>
                  go_wp2_with fail
                  go_meet
                  case rel => exact ⟨⟨q, d, by rw [one_no rfl, List.append_nil], by rw [one_no rfl, List.append_nil]; exact hO4⟩, hK4⟩
            case rest =>
              as_aux_lemma =>
                obtain ⟨⟨q1, d1, rfl, hO5⟩, hK5⟩ := hcut
                clear hO4 hK4
                have hL1l : (L ++ one8 z1 1 []).length ≤ 200 * kd + 1 := by have := one8_len z1 1 []; rw [List.length_append]; omega
                obtain ⟨L1, hL1⟩ : ∃ L1, L ++ one8 z1 1 [] = L1 := ⟨_, rfl⟩
                rw [hL1] at hO5 hL1l
                have hL1' := Lib.hid hL1
                rw [hL1]
                clear hL1
                generalize wc = w5 at hO5 hK5 ⊢
                have hS0 : Hid (OutS w2 (w5.alloc (.map #[] 0)) w5.heap.size (usedS ls (F.take 0)) (.slice q1 L1.length d1) L1) := Lib.hid ⟨hO5.out.keep ((Keeps.refl (fun _ => False) _).alloc _) (fun _ _ f => f), hK5.out.alloc _, SetAt.new _, fun k e => Nat.ne_of_lt (hO5.out.own_lt8 k e)⟩
                go_wp2_with fail
                generalize hgr : w5.heap.size = r at hS0 ⊢
                generalize hgw : w5.alloc (.map #[] 0) = w6 at hS0 ⊢
                have hr2 : Hid (w2.heap.size ≤ r) := Lib.hid (by rw [← hgr]; exact hK5.out.size)
                clear hgr hgw hO5 hK5
                go_loopw [10] (fun iv wr => ∃ (j : Nat), j ≤ F.length ∧ iv = .int .i64 j ∧ Hid (OutS w2 wr r (usedS ls (F.take j)) (.slice q1 L1.length d1) L1)) (fun iv _ => F.length - (intOf iv).toNat)
                case atStart => exact ⟨0, by omega, rfl, hS0⟩
                case round =>
                  as_aux_lemma =>
                    obtain ⟨j, hj, rfl, hS⟩ := hrel
                    by_cases hlj : j < F.length
                    · as_aux_lemma =>
                        obtain ⟨x, hx⟩ : ∃ x, F[j]? = some x := ⟨_, List.getElem?_eq_getElem hlj⟩
                        obtain ⟨g, o, rfl, hc⟩ := strs_get hF0.out hx
                        obtain ⟨X, hX⟩ : ∃ X : ByteArray, X = ⟨x.toArray⟩ := ⟨_, rfl⟩
                        have c0 : wr.cell? ⟨g, o + j, none⟩ = some (.string X) := by rw [hX]; exact (hS.out.k.cell (p := ⟨g, o + j, none⟩) (World.block_lt_of_cell? w2 _ hc) id).trans hc
                        obtain ⟨V, hV⟩ : ∃ V : ByteArray, V = ⟨((setR ls 2 X.data.toList (⟨#[97, 114, 101, 97]⟩ : ByteArray).data.toList).getD []).toArray⟩ := ⟨_, rfl⟩
                        obtain ⟨b, hb⟩ : ∃ b, (setR ls 2 X.data.toList (⟨#[97, 114, 101, 97]⟩ : ByteArray).data.toList).isSome = b := ⟨_, rfl⟩
                        have hV' := Lib.hid hV
                        have hb' := Lib.hid hb
                        have hst := Lib.hid (used_step ls F hx)
                        have hXx : Hid (X.data.toList = x) := Lib.hid (by rw [hX])
                        have hvr := Lib.hid (hv2.out.keep hS.out.k)
                        have n1 : (0 : Int) ≤ (j : Int) := by omega
                        have n2 : (j : Int) < (F.length : Int) := by omega
                        clear hV hb hX hx hc
                        go_wp2_with fail
                        refine (r8Set_any _ ls 2 X ⟨#[97, 114, 101, 97]⟩ V b _ hvr (by omega) hV' hb').mono ?_
                        rintro e w7 ⟨rfl, k7⟩
                        have hS7 := Lib.hid (hS.out.keep k7)
                        clear k7 hS hvr c0
                        cases b with
                        | false =>
                          have hu : Hid (usedS ls (F.take (j + 1)) = usedS ls (F.take j)) := Lib.hid (by
                            rw [hst.out]
                            have h := hb'.out
                            rw [hXx.out] at h
                            cases hs : setR ls 2 x areaL with
                            | none => rfl
                            | some a => rw [show setR ls 2 x (⟨#[97, 114, 101, 97]⟩ : ByteArray).data.toList = some a from hs] at h; cases h)
                          clear hst
                          go_wp2_with fail
                          exact ⟨⟨j + 1, by omega, by go_num, by rw [hu.out]; exact hS7⟩, by simp [intOf]; omega⟩
                        | true =>
                          have hu : Hid (usedS ls (F.take (j + 1)) = putU (usedS ls (F.take j)) V.data.toList) := Lib.hid (by
                            rw [hst.out, hV'.out]
                            have h := hb'.out
                            rw [hXx.out] at h ⊢
                            cases hs : setR ls 2 x areaL with
                            | none => rw [show setR ls 2 x (⟨#[97, 114, 101, 97]⟩ : ByteArray).data.toList = none from hs] at h; cases h
                            | some a => rw [show setR ls 2 x (⟨#[97, 114, 101, 97]⟩ : ByteArray).data.toList = some a from hs]; rfl)
                          obtain ⟨w8, hmu, hS8, hK8⟩ := hS7.out.s.put V.data.toList
                          rw [strv_of] at hmu
                          have hS9 : Hid (OutS w2 w8 r (putU (usedS ls (F.take j)) V.data.toList) (.slice q1 L1.length d1) L1) := Lib.hid ⟨hS7.out.own.keep hK8 (fun k e => hS7.out.ne k e), hS7.out.k.trans' hK8 (fun i e => .inr (by rw [e]; exact hr2.out)), hS8, hS7.out.ne⟩
                          clear hst hK8 hS8
                          go_wp2_with fail
                          exact ⟨⟨j + 1, by omega, by go_num, by rw [hu.out]; exact hS9⟩, by simp [intOf]; omega⟩
                    · obtain rfl : j = F.length := by omega
                      rw [List.take_length] at hS
                      clear hlj hj hS0
                      have hUl : Hid (usedS ls F = usedS ls F) := Lib.hid rfl
                      obtain ⟨z2, hz2⟩ : ∃ z, zB (usedS ls F) (kd + 1) = z := ⟨_, rfl⟩
                      have hz2' := Lib.hid hz2
                      clear hz2
                      obtain ⟨U, hU⟩ : ∃ U, usedS ls F = U := ⟨_, rfl⟩
                      rw [hU] at hS hz2'
                      have hU' := Lib.hid hU
                      clear hU hUl
                      generalize wr = w7 at hS ⊢
                      go_upto_region 16 with fail
                      go_cut [94] (fun tv wx => tv = .bool z2 ∧ Hid (OutS w2 wx r U (.slice q1 L1.length d1) L1))
                      case first =>
                        as_aux_lemma =>
                          by_cases a1 : kd = 5
                          · have e1 : ((kd : Int) + 1 == 6) = true := by simp; omega
                            have hln := fun ty => hS.out.s.len ty
                            by_cases a2 : 1 < U.length
                            · have e2 : (1 : Int) < (U.length : Int) := by omega
                              obtain ⟨zu, hzu⟩ : ∃ z, decide (boneW ∈ U) = z := ⟨_, rfl⟩
                              have hlo : (Instr.lookup 140 (.map (some r)) (.string ⟨#[48, 46, 48, 46, 48, 46, 48]⟩) false).run Tryz.prog w7 = .ok (.bool zu) w7 := by rw [← hzu]; exact hS.out.s.lookup boneW
                              have hzz : Hid (z2 = !zu) := Lib.hid (by rw [← hz2'.out]; unfold zB; rw [hzu]; simp [a1, a2])
                              clear hzu a1 a2
                              cases zu with
                              | true =>
                                go_wp2_with fail
                                go_meet
                                case rel => exact ⟨by rw [hzz.out]; rfl, hS⟩
                              | false =>
                                go_wp2_with fail
                                go_meet
                                case rel => exact ⟨by rw [hzz.out]; rfl, hS⟩
                            · have e2 : ¬ (1 : Int) < (U.length : Int) := by omega
                              have hzf : Hid (z2 = false) := Lib.hid (by rw [← hz2'.out]; unfold zB; simp [a2])
                              clear a1 a2
                              go_wp2_with fail
                              go_meet
                              case rel => exact ⟨by rw [hzf.out], hS⟩
                          · have e1 : ((kd : Int) + 1 == 6) = false := by simp; omega
                            have hzf : Hid (z2 = false) := Lib.hid (by rw [← hz2'.out]; unfold zB; simp [a1])
                            clear a1
                            go_wp2_with fail
                            go_meet
                            case rel => exact ⟨by rw [hzf.out], hS⟩
                      case rest =>
                        as_aux_lemma =>
                          obtain ⟨rfl, hS2⟩ := hcut
                          clear hS
                          generalize wc = w8 at hS2 ⊢
                          go_upto_if 94 with fail
                          go_cut [3] (fun ov wx => (∃ q' d', ov = .slice q' (L1 ++ one8 z2 6 []).length d' ∧ Hid (OutS w2 wx r U (.slice q' (L1 ++ one8 z2 6 []).length d') (L1 ++ one8 z2 6 []))))
                          case first =>
                            as_aux_lemma =>
                              cases z2 with
                              | true =>
                                go_wp2_with ((with_reducible refine at_slot 98 ?_); go_must (refine wpList_append_r rfl (.tmp 95) (.tmp 97) 87 139 rfl i0 _ 24 Tryz.underlying87 hi0 hi1 hi2 hi3 rfl (by decide) (by decide) fVals_len w2 _ L1.length L1 rfl rfl ((hS2.out.keep ((Keeps.refl (fun _ => False) _).alloc _)).own) _ rfl ⟨6, []⟩ (cells_new rfl [.int .i64 6, .string ⟨#[]⟩] _) (fVals_one _) (by omega) ?_); intro q8 d8 w8b hO8 hg8)
                                have hS9 := Lib.hid ((hS2.out.keep ((Keeps.refl (fun _ => False) w8).alloc (.cells #[.int .i64 6, .string ⟨#[]⟩] 139))).grow hO8.out hg8.out)
                                go_meet
                                case rel => exact ⟨q8, d8, by rw [one_yes rfl, List.length_append]; rfl, by rw [one_yes rfl, List.length_append]; exact hS9⟩
                              | false =>
                                go_wp2_with fail
                                go_meet
                                case rel => exact ⟨q1, d1, by rw [one_no rfl, List.append_nil], by rw [one_no rfl, List.append_nil]; exact hS2⟩
                          case rest =>
                            as_aux_lemma =>
                              obtain ⟨q2, d2, rfl, hS3⟩ := hcut
                              clear hS2
                              have hL2l : (L1 ++ one8 z2 6 []).length ≤ 200 * kd + 2 := by have := one8_len z2 6 []; rw [List.length_append]; omega
                              obtain ⟨L2, hL2⟩ : ∃ L2, L1 ++ one8 z2 6 [] = L2 := ⟨_, rfl⟩
                              rw [hL2] at hS3 hL2l
                              have hL2' := Lib.hid hL2
                              rw [hL2]
                              clear hL2
                              generalize wc = w9 at hS3 ⊢
                              go_wp2_with fail
                              have hS30 := hS3
                              have hz0 : L2 = L2 ++ docF ls F (kd + 1) 0 := by unfold docF; simp
                              have hz0' := Lib.hid hz0
                              clear hz0
                              go_loopw [13, 3] (fun iv ov wr => ∃ (i : Nat) (fs : List FaultD) (q : Option Addr) (d : Nat), i ≤ F.length ∧ iv = .int .i64 i ∧ ov = .slice q fs.length d ∧ fs.length ≤ 200 * kd + 2 + i ∧ Hid (fs = L2 ++ docF ls F (kd + 1) i) ∧ Hid (OutS w2 wr r U (.slice q fs.length d) fs)) (fun iv _ _ => F.length - (intOf iv).toNat)
                              case atStart => exact ⟨0, L2, q2, d2, by omega, rfl, rfl, by omega, hz0', hS3⟩
                              case round =>
                                as_aux_lemma =>
                                  obtain ⟨i, fs, q3, d3, hi, rfl, rfl, hfl, hfs, hS⟩ := hrel
                                  clear hS3 hS30 hz0'
                                  by_cases hli : i < F.length
                                  · obtain ⟨f, hf⟩ : ∃ x, F[i]? = some x := ⟨_, List.getElem?_eq_getElem hli⟩
                                    obtain ⟨g, o, rfl, hc⟩ := strs_get hF0.out hf
                                    obtain ⟨X, hX⟩ : ∃ X : ByteArray, X = ⟨f.toArray⟩ := ⟨_, rfl⟩
                                    have c0 : wr.cell? ⟨g, o + i, none⟩ = some (.string X) := by rw [hX]; exact (hS.out.k.cell (p := ⟨g, o + i, none⟩) (World.block_lt_of_cell? w2 _ hc) id).trans hc
                                    have hXf : Hid (X.data.toList = f) := Lib.hid (by rw [hX])
                                    have hcast : (((kd + 1 : Nat)) : Int) = (kd : Int) + 1 := by omega
                                    have hyes : Hid (zC ls F (kd + 1) i f = true → fs ++ [⟨(kd : Int) + 1, X.data.toList⟩] = L2 ++ docF ls F (kd + 1) (i + 1)) := Lib.hid (fun h => by rw [docF_step ls F (kd + 1) i hf, one_yes h, hfs.out, List.append_assoc, hXf.out, hcast])
                                    have hno : Hid (zC ls F (kd + 1) i f = false → fs = L2 ++ docF ls F (kd + 1) (i + 1)) := Lib.hid (fun h => by rw [docF_step ls F (kd + 1) i hf, one_no h, List.append_nil]; exact hfs.out)
                                    have hvr := Lib.hid (hv2.out.keep hS.out.k)
                                    have n1 : (0 : Int) ≤ (i : Int) := by omega
                                    have n2 : (i : Int) < (F.length : Int) := by omega
                                    have n3 : (0 : Int) ≤ (kd : Int) := by omega
                                    clear hX hf hc hcast
                                    obtain ⟨zc, hzc⟩ : ∃ z, zC ls F (kd + 1) i f = z := ⟨_, rfl⟩
                                    have hzc' := Lib.hid hzc
                                    clear hzc
                                    go_upto_block 6 with fail
                                    go_cut [15] (fun tv wx => tv = .bool zc ∧ Hid (OutS w2 wx r U (.slice q3 fs.length d3) fs))
                                    case first =>
                                      by_cases k2 : kd = 1
                                      · as_aux_lemma =>
                                          have e2 : ((kd : Int) + 1 == 2) = true := by simp; omega
                                          obtain ⟨V, hV⟩ : ∃ V : ByteArray, V = ⟨((setR ls 2 X.data.toList (⟨#[97, 114, 101, 97]⟩ : ByteArray).data.toList).getD []).toArray⟩ := ⟨_, rfl⟩
                                          obtain ⟨b, hb⟩ : ∃ b, (setR ls 2 X.data.toList (⟨#[97, 114, 101, 97]⟩ : ByteArray).data.toList).isSome = b := ⟨_, rfl⟩
                                          have hV' := Lib.hid hV
                                          have hb' := Lib.hid hb
                                          have hzn : Hid (zC ls F (kd + 1) i f = !b) := Lib.hid (by
                                            rw [← hb, hXf.out]
                                            unfold zC
                                            rw [if_pos (by omega)]
                                            show (setR ls 2 f areaL).isNone = !(setR ls 2 f areaL).isSome
                                            cases setR ls 2 f areaL <;> rfl)
                                          clear hV hb k2
                                          go_wp2_with fail
                                          refine (r8Set_any _ ls 2 X ⟨#[97, 114, 101, 97]⟩ V b _ hvr (by omega) hV' hb').mono ?_
                                          rintro e wq ⟨rfl, kq⟩
                                          have hSq := Lib.hid (hS.out.keep kq)
                                          clear kq hS hvr c0
                                          go_wp2_with fail
                                          go_meet
                                          case rel => exact ⟨by rw [← hzc'.out, hzn.out], hSq⟩
                                      by_cases k3 : kd = 2
                                      · as_aux_lemma =>
                                          have e2 : ((kd : Int) + 1 == 2) = false := by simp; omega
                                          have e3 : ((kd : Int) + 1 == 3) = true := by simp; omega
                                          obtain ⟨V, hV⟩ : ∃ V : ByteArray, V = ⟨((setR ls 2 X.data.toList (⟨#[97, 100, 100, 114, 101, 115, 115]⟩ : ByteArray).data.toList).getD []).toArray⟩ := ⟨_, rfl⟩
                                          obtain ⟨b, hb⟩ : ∃ b, (setR ls 2 X.data.toList (⟨#[97, 100, 100, 114, 101, 115, 115]⟩ : ByteArray).data.toList).isSome = b := ⟨_, rfl⟩
                                          have hV' := Lib.hid hV
                                          have hb' := Lib.hid hb
                                          have hzn : Hid (zC ls F (kd + 1) i f = !b) := Lib.hid (by
                                            rw [← hb, hXf.out]
                                            unfold zC
                                            rw [if_neg (by omega), if_pos (by omega)]
                                            show (setR ls 2 f addressL).isNone = !(setR ls 2 f addressL).isSome
                                            cases setR ls 2 f addressL <;> rfl)
                                          clear hV hb k2 k3
                                          go_wp2_with fail
                                          refine (r8Set_any _ ls 2 X ⟨#[97, 100, 100, 114, 101, 115, 115]⟩ V b _ hvr (by omega) hV' hb').mono ?_
                                          rintro e wq ⟨rfl, kq⟩
                                          have hSq := Lib.hid (hS.out.keep kq)
                                          clear kq hS hvr c0
                                          go_wp2_with fail
                                          go_meet
                                          case rel => exact ⟨by rw [← hzc'.out, hzn.out], hSq⟩
                                      by_cases k4 : kd = 3
                                      · as_aux_lemma =>
                                          have e2 : ((kd : Int) + 1 == 2) = false := by simp; omega
                                          have e3 : ((kd : Int) + 1 == 3) = false := by simp; omega
                                          have e4 : ((kd : Int) + 1 == 4) = true := by simp; omega
                                          obtain ⟨V, hV⟩ : ∃ V : ByteArray, V = ⟨((setR ls 2 X.data.toList (⟨#[97, 100, 100, 114, 101, 115, 115]⟩ : ByteArray).data.toList).getD []).toArray⟩ := ⟨_, rfl⟩
                                          obtain ⟨b, hb⟩ : ∃ b, (setR ls 2 X.data.toList (⟨#[97, 100, 100, 114, 101, 115, 115]⟩ : ByteArray).data.toList).isSome = b := ⟨_, rfl⟩
                                          have hV' := Lib.hid hV
                                          have hb' := Lib.hid hb
                                          have hzo : Hid (zC ls F (kd + 1) i f = (F.take i).any (overAt ls (setR ls 2 X.data.toList addressL))) := Lib.hid (by
                                            rw [hXf.out]
                                            unfold zC
                                            rw [if_neg (by omega), if_neg (by omega), if_pos (by omega)]
                                            rfl)
                                          clear hV hb k2 k3 k4
                                          go_wp2_with fail
                                          refine (r8Set_any _ ls 2 X ⟨#[97, 100, 100, 114, 101, 115, 115]⟩ V b _ hvr (by omega) hV' hb').mono ?_
                                          rintro e wq ⟨rfl, kq⟩
                                          have hSq := Lib.hid (hS.out.keep kq)
                                          clear kq hS hvr c0
                                          obtain ⟨own, hown⟩ : ∃ o, setR ls 2 X.data.toList addressL = o := ⟨_, rfl⟩
                                          have hown' := Lib.hid hown
                                          rw [hown] at hzo
                                          have hbo : Hid (own.isSome = b) := Lib.hid (by rw [← hown]; exact hb'.out)
                                          have hVo : Hid (V = ⟨(own.getD []).toArray⟩) := Lib.hid (by rw [← hown]; exact hV'.out)
                                          clear hown hV' hb'
                                          go_wp2_with fail
                                          go_loopw [22, 15] (fun iv ov wr => ∃ (m : Nat) (z : Bool), m ≤ i ∧ iv = .int .i64 m ∧ ov = .bool z ∧ Hid (z = (F.take m).any (overAt ls own)) ∧ Hid (OutS w2 wr r U (.slice q3 fs.length d3) fs)) (fun iv _ _ => i - (intOf iv).toNat)
                                          case atStart => exact ⟨0, false, by omega, rfl, rfl, Lib.hid (by simp), hSq⟩
                                          case round =>
                                            as_aux_lemma =>
                                              obtain ⟨m, z, hm, rfl, rfl, hz, hSm⟩ := hrel
                                              clear hSq
                                              cases b with
                                              | false =>
                                                have hon : own = none := by have := hbo.out; cases own with | none => rfl | some _ => cases this
                                                have hzf : z = false := by rw [hz.out, hon, List.any_eq_false]; intro x _; simp [overAt]
                                                have hzg : Hid (zC ls F (kd + 1) i f = false) := Lib.hid (by rw [hzo.out, hon, List.any_eq_false]; intro x _; simp [overAt])
                                                subst hzf
                                                clear hon
                                                have nm : (m : Int) ≤ (i : Int) := by omega
                                                go_wp2_with fail
                                                all_goals go_meet
                                                all_goals exact ⟨by rw [← hzc'.out, hzg.out], hSm⟩
                                              | true =>
                                                by_cases hlm : m < i
                                                · obtain ⟨a, ha⟩ : ∃ a, own = some a := by have := hbo.out; cases own with | none => cases this | some a => exact ⟨a, rfl⟩
                                                  obtain ⟨x, hx⟩ : ∃ x, F[m]? = some x := ⟨_, List.getElem?_eq_getElem (by omega)⟩
                                                  obtain ⟨g', o', egg, hc⟩ := strs_get hF0.out hx
                                                  obtain ⟨rfl, rfl⟩ : g' = g ∧ o' = o := by injection egg with egg; injection egg with e1 e2; exact ⟨e1.symm, e2.symm⟩
                                                  clear egg
                                                  obtain ⟨Y, hY⟩ : ∃ X : ByteArray, X = ⟨x.toArray⟩ := ⟨_, rfl⟩
                                                  have c1 : wr.cell? ⟨g', o' + m, none⟩ = some (.string Y) := by rw [hY]; exact (hSm.out.k.cell (p := ⟨g', o' + m, none⟩) (World.block_lt_of_cell? w2 _ hc) id).trans hc
                                                  have hYx : Hid (Y.data.toList = x) := Lib.hid (by rw [hY])
                                                  obtain ⟨V2, hV2⟩ : ∃ V : ByteArray, V = ⟨((setR ls 2 Y.data.toList (⟨#[97, 100, 100, 114, 101, 115, 115]⟩ : ByteArray).data.toList).getD []).toArray⟩ := ⟨_, rfl⟩
                                                  obtain ⟨b2, hb2⟩ : ∃ b, (setR ls 2 Y.data.toList (⟨#[97, 100, 100, 114, 101, 115, 115]⟩ : ByteArray).data.toList).isSome = b := ⟨_, rfl⟩
                                                  have hV2' := Lib.hid hV2
                                                  have hb2' := Lib.hid hb2
                                                  have hst := Lib.hid (over_step ls F own hx)
                                                  have hvm := Lib.hid (hv2.out.keep hSm.out.k)
                                                  have ha' := Lib.hid ha
                                                  have nm : (m : Int) < (i : Int) := by omega
                                                  have nm0 : (0 : Int) ≤ (m : Int) := by omega
                                                  have nm1 : (m : Int) < (F.length : Int) := by omega
                                                  clear hV2 hb2 hY hx hc ha
                                                  go_wp2_with fail
                                                  refine (r8Set_any _ ls 2 Y ⟨#[97, 100, 100, 114, 101, 115, 115]⟩ V2 b2 _ hvm (by omega) hV2' hb2').mono ?_
                                                  rintro e wq2 ⟨rfl, kq⟩
                                                  have hSq := Lib.hid (hSm.out.keep kq)
                                                  clear kq hSm hvm c1
                                                  cases b2 with
                                                  | false =>
                                                    have hon : setR ls 2 x addressL = none := by
                                                      have h := hb2'.out
                                                      rw [hYx.out] at h
                                                      cases hs : setR ls 2 x addressL with
                                                      | none => rfl
                                                      | some a => rw [show setR ls 2 x (⟨#[97, 100, 100, 114, 101, 115, 115]⟩ : ByteArray).data.toList = some a from hs] at h; cases h
                                                    have hz2 : Hid (z = (F.take (m + 1)).any (overAt ls own)) := Lib.hid (by rw [hst.out, ← hz.out, ha'.out]; unfold overAt; rw [hon]; simp)
                                                    clear hon
                                                    go_wp2_with fail
                                                    exact ⟨⟨m + 1, z, by omega, by go_num, rfl, hz2, hSq⟩, by simp [intOf]; omega⟩
                                                  | true =>
                                                    obtain ⟨y, hy⟩ : ∃ y, setR ls 2 x addressL = some y := by
                                                      have h := hb2'.out
                                                      rw [hYx.out] at h
                                                      cases hs : setR ls 2 x addressL with
                                                      | none => rw [show setR ls 2 x (⟨#[97, 100, 100, 114, 101, 115, 115]⟩ : ByteArray).data.toList = none from hs] at h; cases h
                                                      | some a => exact ⟨a, rfl⟩
                                                    have hVy : V2.data.toList = y := by rw [hV2'.out, hYx.out, show setR ls 2 x (⟨#[97, 100, 100, 114, 101, 115, 115]⟩ : ByteArray).data.toList = some y from hy]; rfl
                                                    have hVa : V.data.toList = a := by rw [hVo.out, ha'.out]; rfl
                                                    obtain ⟨na, pa, hra⟩ := net_set hr.out (hown'.out.trans ha'.out)
                                                    obtain ⟨ny, py, hry⟩ := net_set hr.out hy
                                                    have hra' : Hid (netL V.data.toList = some (na, pa)) := Lib.hid (by rw [hVa]; exact hra)
                                                    have hry' : Hid (netL V2.data.toList = some (ny, py)) := Lib.hid (by rw [hVy]; exact hry)
                                                    have hsa : V.size ≤ 8796093022000 := by rw [← ba_len, hVa]; exact Nat.le_trans (set_small hr.out (hown'.out.trans ha'.out)) (by omega)
                                                    have hsy : V2.size ≤ 8796093022000 := by rw [← ba_len, hVy]; exact Nat.le_trans (set_small hr.out hy) (by omega)
                                                    obtain ⟨zm, hzm⟩ : ∃ z, meetL V.data.toList V2.data.toList = z := ⟨_, rfl⟩
                                                    have hzm' := Lib.hid hzm
                                                    have hz2 : Hid ((z || zm) = (F.take (m + 1)).any (overAt ls own)) := Lib.hid (by rw [hst.out, ← hz.out, ha'.out, ← hzm, hVa, hVy]; unfold overAt; rw [hy])
                                                    clear hy hVy hVa hra hry hzm hV2' hb2'
                                                    go_wp2_with fail
                                                    refine (r8Meet_some V V2 na pa ny py zm _ hsa hsy hra' hry' hzm').mono ?_
                                                    rintro e wq3 ⟨rfl, kq⟩
                                                    have hSt := Lib.hid (hSq.out.keep kq)
                                                    clear kq hSq hsa hsy
                                                    cases zm with
                                                    | false =>
                                                      go_wp2_with fail
                                                      exact ⟨⟨m + 1, z, by omega, by go_num, rfl, by simpa using hz2, hSt⟩, by simp [intOf]; omega⟩
                                                    | true =>
                                                      go_wp2_with fail
                                                      exact ⟨⟨m + 1, true, by omega, by go_num, rfl, by simpa using hz2, hSt⟩, by simp [intOf]; omega⟩
                                                · obtain rfl : m = i := by omega
                                                  have hzz : Hid (zC ls F (kd + 1) m f = z) := Lib.hid (hzo.out.trans hz.out.symm)
                                                  clear hlm
                                                  go_wp2_with fail
                                                  go_meet
                                                  case rel => exact ⟨by rw [← hzc'.out, hzz.out], hSm⟩
                                      by_cases k5 : kd = 4
                                      · as_aux_lemma =>
                                          have e2 : ((kd : Int) + 1 == 2) = false := by simp; omega
                                          have e3 : ((kd : Int) + 1 == 3) = false := by simp; omega
                                          have e4 : ((kd : Int) + 1 == 4) = false := by simp; omega
                                          have e5 : ((kd : Int) + 1 == 5) = true := by simp; omega
                                          obtain ⟨V, hV⟩ : ∃ V : ByteArray, V = ⟨(valueR ls 2 X.data.toList (⟨#[100, 101, 97, 100]⟩ : ByteArray).data.toList).toArray⟩ := ⟨_, rfl⟩
                                          obtain ⟨V2, hV2⟩ : ∃ V : ByteArray, V = ⟨(valueR ls 2 X.data.toList (⟨#[104, 101, 108, 108, 111]⟩ : ByteArray).data.toList).toArray⟩ := ⟨_, rfl⟩
                                          have hV' := Lib.hid hV
                                          have hV2' := Lib.hid hV2
                                          obtain ⟨dd, hdd⟩ : ∃ n, decV V.data.toList = n := ⟨_, rfl⟩
                                          obtain ⟨hh, hhh⟩ : ∃ n, decV V2.data.toList = n := ⟨_, rfl⟩
                                          have hzc0 : Hid (zC ls F (kd + 1) i f = decide (dd ≤ hh)) := Lib.hid (by
                                            unfold zC
                                            rw [if_neg (by omega), if_neg (by omega), if_neg (by omega), if_pos (by omega), ← hdd, ← hhh, hV, hV2, hXf.out]
                                            rfl)
                                          have hlt := Lib.hid (right_lt hr.out 8796093022000 (by omega))
                                          clear hV hV2 k2 k3 k4 k5
                                          go_wp2_with fail
                                          refine (rValue_c _ ls 2 X ⟨#[100, 101, 97, 100]⟩ V _ hvr hlt hlen hr hV').mono ?_
                                          rintro e wq ⟨rfl, kq⟩
                                          have hSq := Lib.hid (hS.out.keep kq)
                                          have hvq := Lib.hid (hvr.out.keep kq)
                                          clear kq hS hvr c0
                                          go_wp2_with fail
                                          refine (rdec_k V _).mono ?_
                                          rintro e wr2 ⟨⟨o1, rfl⟩, rfl⟩
                                          rw [hdd]
                                          go_wp2_with fail
                                          refine (rValue_c _ ls 2 X ⟨#[104, 101, 108, 108, 111]⟩ V2 _ hvq hlt hlen hr hV2').mono ?_
                                          rintro e wp ⟨rfl, kp⟩
                                          have hSp := Lib.hid (hSq.out.keep kp)
                                          clear kp hSq hvq
                                          go_wp2_with fail
                                          refine (rdec_k V2 _).mono ?_
                                          rintro e wr3 ⟨⟨o2, rfl⟩, rfl⟩
                                          rw [hhh]
                                          clear hdd hhh hlt hV' hV2'
                                          go_wp2_with fail
                                          go_meet
                                          case rel => exact ⟨by rw [← hzc'.out, hzc0.out], hSp⟩
                                      · as_aux_lemma =>
                                          have e2 : ((kd : Int) + 1 == 2) = false := by simp; omega
                                          have e3 : ((kd : Int) + 1 == 3) = false := by simp; omega
                                          have e4 : ((kd : Int) + 1 == 4) = false := by simp; omega
                                          have e5 : ((kd : Int) + 1 == 5) = false := by simp; omega
                                          have hzc : Hid (zC ls F (kd + 1) i f = false) := Lib.hid (by unfold zC; rw [if_neg (by omega), if_neg (by omega), if_neg (by omega), if_neg (by omega)])
                                          clear k2 k3 k4 k5
                                          go_wp2_with fail
                                          go_meet
                                          case rel => exact ⟨by rw [← hzc'.out, hzc.out], hS⟩
                                    case rest =>
                                      as_aux_lemma =>
                                        obtain ⟨rfl, hS6⟩ := hcut
                                        clear hS hvr c0
                                        generalize hgz : wc = w10 at hS6 ⊢
                                        clear hgz
                                        cases zc with
                                        | true =>
                                          go_wp2_with ((with_reducible refine at_slot 186 ?_); go_must (refine wpList_append_r rfl (.tmp 181) (.tmp 185) 87 139 rfl i0 _ 24 Tryz.underlying87 hi0 hi1 hi2 hi3 rfl (by decide) (by decide) fVals_len w2 _ fs.length fs rfl rfl ((hS6.out.keep ((Keeps.refl (fun _ => False) _).alloc _)).own) _ rfl ⟨(kd : Int) + 1, X.data.toList⟩ (cells_new rfl [.int .i64 ((kd : Int) + 1), .string X] _) (fVals_one _) (by omega) ?_); intro q8 d8 w8b hO8 hg8)
                                          have hS9 := Lib.hid ((hS6.out.keep ((Keeps.refl (fun _ => False) w10).alloc (.cells #[.int .i64 ((kd : Int) + 1), .string X] 139))).grow hO8.out hg8.out)
                                          exact ⟨⟨i + 1, fs ++ [⟨(kd : Int) + 1, X.data.toList⟩], q8, d8, by omega, by go_num, by simp, by simp; omega, Lib.hid (hyes.out hzc'.out), by simpa using hS9⟩, by simp [intOf]; omega⟩
                                        | false =>
                                          go_wp2_with fail
                                          exact ⟨⟨i + 1, fs, q3, d3, by omega, by go_num, rfl, by omega, Lib.hid (hno.out hzc'.out), hS6⟩, by simp [intOf]; omega⟩
                                  · obtain rfl : i = F.length := by omega
                                    clear hli hi
                                    as_aux_lemma =>
                                      generalize hgz : wr = w10 at hS ⊢
                                      clear hgz
                                      go_wp2_with fail
                                      go_loopw [29, 3] (fun iv ov wr => ∃ (j : Nat) (gs : List FaultD) (q : Option Addr) (d : Nat), j ≤ A.length ∧ iv = .int .i64 j ∧ ov = .slice q gs.length d ∧ gs.length ≤ 200 * kd + 2 + F.length + j ∧ Hid (gs = fs ++ docA ls U (kd + 1) (A.take j)) ∧ Hid (OutS w2 wr r U (.slice q gs.length d) gs)) (fun iv _ _ => A.length - (intOf iv).toNat)
                                      case atStart => exact ⟨0, fs, q3, d3, by omega, rfl, rfl, by omega, Lib.hid (by simp [docA]), hS⟩
                                      case round =>
                                        as_aux_lemma =>
                                          obtain ⟨j, gs, q4, d4, hj, rfl, rfl, hgl, hgs, hT⟩ := hrel
                                          clear hS
                                          by_cases hlj : j < A.length
                                          · as_aux_lemma =>
                                              obtain ⟨a, ha⟩ : ∃ x, A[j]? = some x := ⟨_, List.getElem?_eq_getElem hlj⟩
                                              obtain ⟨g5, o5, rfl, hc⟩ := strs_get hA0.out ha
                                              obtain ⟨X, hX⟩ : ∃ X : ByteArray, X = ⟨a.toArray⟩ := ⟨_, rfl⟩
                                              have c0 : wr.cell? ⟨g5, o5 + j, none⟩ = some (.string X) := by rw [hX]; exact (hT.out.k.cell (p := ⟨g5, o5 + j, none⟩) (World.block_lt_of_cell? w2 _ hc) id).trans hc
                                              have c0' : Hid (w2.cell? ⟨g5, o5 + j, none⟩ = some (.string X)) := Lib.hid (by rw [hX]; exact hc)
                                              have hXa : Hid (X.data.toList = a) := Lib.hid (by rw [hX])
                                              have hcast : (((kd + 1 : Nat)) : Int) = (kd : Int) + 1 := by omega
                                              have hyes : Hid (zD ls U (kd + 1) a = true → gs ++ [⟨(kd : Int) + 1, X.data.toList⟩] = fs ++ docA ls U (kd + 1) (A.take (j + 1))) := Lib.hid (fun h => by rw [docA_step ls U (kd + 1) ha, one_yes h, hgs.out, List.append_assoc, hXa.out, hcast])
                                              have hno : Hid (zD ls U (kd + 1) a = false → gs = fs ++ docA ls U (kd + 1) (A.take (j + 1))) := Lib.hid (fun h => by rw [docA_step ls U (kd + 1) ha, one_no h, List.append_nil]; exact hgs.out)
                                              have hvr := Lib.hid (hv2.out.keep hT.out.k)
                                              have n1 : (0 : Int) ≤ (j : Int) := by omega
                                              have n2 : (j : Int) < (A.length : Int) := by omega
                                              have n3 : (0 : Int) ≤ (kd : Int) := by omega
                                              clear hX hc hcast ha
                                              obtain ⟨V, hV⟩ : ∃ V : ByteArray, V = ⟨((setR ls 1 X.data.toList (⟨#[116, 121, 112, 101]⟩ : ByteArray).data.toList).getD []).toArray⟩ := ⟨_, rfl⟩
                                              obtain ⟨b, hb⟩ : ∃ b, (setR ls 1 X.data.toList (⟨#[116, 121, 112, 101]⟩ : ByteArray).data.toList).isSome = b := ⟨_, rfl⟩
                                              have hV' := Lib.hid hV
                                              have hb' := Lib.hid hb
                                              clear hV hb
                                              obtain ⟨zd, hzd⟩ : ∃ z, zD ls U (kd + 1) a = z := ⟨_, rfl⟩
                                              have hzd' := Lib.hid hzd
                                              clear hzd
                                              go_wp2_with fail
                                              refine (r8Set_any _ ls 1 X ⟨#[116, 121, 112, 101]⟩ V b _ hvr (by omega) hV' hb').mono ?_
                                              rintro e wq ⟨rfl, kq⟩
                                              have hSq := Lib.hid (hT.out.keep kq)
                                              have c1 : wq.cell? ⟨g5, o5 + j, none⟩ = some (.string X) := (kq.cell (p := ⟨g5, o5 + j, none⟩) (World.block_lt_of_cell? wr _ c0) id).trans c0
                                              clear kq hT hvr c0
                                              go_upto_region 48 with fail
                                              go_cut [230] (fun tv wx => tv = .bool zd ∧ Hid (OutS w2 wx r U (.slice q4 gs.length d4) gs))
                                              case first =>
                                                as_aux_lemma =>
                                                  by_cases a6 : kd = 5
                                                  · have e6 : ((kd : Int) + 1 == 6) = true := by simp; omega
                                                    have e7 : ((kd : Int) + 1 == 7) = false := by simp; omega
                                                    obtain ⟨zb, hzb⟩ : ∃ z, decide (X.data.toList = boneW) = z := ⟨_, rfl⟩
                                                    have e3 := ba_eqr X boneW
                                                    rw [hzb] at e3
                                                    have hzt : Hid (zd = (zb && (match setR ls 1 a typeW with | some t => !decide (t = normalW) | none => false))) := Lib.hid (by rw [← hzd'.out, ← hzb, hXa.out]; unfold zD; simp [a6]; rfl)
                                                    unfold boneW at e3
                                                    clear hzb a6
                                                    cases zb with
                                                    | false =>
                                                      go_wp2_with fail
                                                      go_meet
                                                      case rel => exact ⟨by rw [hzt.out]; rfl, hSq⟩
                                                    | true =>
                                                      cases b with
                                                      | false =>
                                                        have hzf : Hid (zd = false) := Lib.hid (by
                                                          rw [hzt.out]
                                                          have h := hb'.out
                                                          rw [hXa.out] at h
                                                          cases hs : setR ls 1 a typeW with
                                                          | none => rfl
                                                          | some t => rw [show setR ls 1 a (⟨#[116, 121, 112, 101]⟩ : ByteArray).data.toList = some t from hs] at h; cases h)
                                                        go_wp2_with fail
                                                        go_meet
                                                        case rel => exact ⟨by rw [hzf.out], hSq⟩
                                                      | true =>
                                                        obtain ⟨t, ht⟩ : ∃ t, setR ls 1 a typeW = some t := by
                                                          have h := hb'.out
                                                          rw [hXa.out] at h
                                                          cases hs : setR ls 1 a typeW with
                                                          | none => rw [show setR ls 1 a (⟨#[116, 121, 112, 101]⟩ : ByteArray).data.toList = none from hs] at h; cases h
                                                          | some t => exact ⟨t, rfl⟩
                                                        have hVt : V.data.toList = t := by rw [hV'.out, hXa.out, show setR ls 1 a (⟨#[116, 121, 112, 101]⟩ : ByteArray).data.toList = some t from ht]; rfl
                                                        obtain ⟨zn, hzn⟩ : ∃ z, decide (V.data.toList = normalW) = z := ⟨_, rfl⟩
                                                        have e4 := ba_eqr V normalW
                                                        rw [hzn] at e4
                                                        have hzf : Hid (zd = !zn) := Lib.hid (by rw [hzt.out, ht, ← hzn, hVt]; rfl)
                                                        unfold normalW at e4
                                                        clear hzn ht hVt
                                                        cases zn with
                                                        | false =>
                                                          go_wp2_with fail
                                                          go_meet
                                                          case rel => exact ⟨by rw [hzf.out]; rfl, hSq⟩
                                                        | true =>
                                                          go_wp2_with fail
                                                          go_meet
                                                          case rel => exact ⟨by rw [hzf.out]; rfl, hSq⟩
                                                  · have e6 : ((kd : Int) + 1 == 6) = false := by simp; omega
                                                    by_cases a7 : kd = 6
                                                    · have e7 : ((kd : Int) + 1 == 7) = true := by simp; omega
                                                      obtain ⟨zu, hzu⟩ : ∃ z, decide (a ∈ U) = z := ⟨_, rfl⟩
                                                      have hlo : (Instr.lookup 140 (.map (some r)) (.string X) false).run Tryz.prog wq = .ok (.bool zu) wq := by rw [← hzu, ← hXa.out, ← strv_of X]; exact hSq.out.s.lookup X.data.toList
                                                      have hzz : Hid (zd = !zu) := Lib.hid (by rw [← hzd'.out]; unfold zD; rw [hzu]; simp [a7])
                                                      clear hzu a6 a7
                                                      cases zu with
                                                      | false =>
                                                        go_wp2_with fail
                                                        go_meet
                                                        case rel => exact ⟨by rw [hzz.out]; rfl, hSq⟩
                                                      | true =>
                                                        go_wp2_with fail
                                                        go_meet
                                                        case rel => exact ⟨by rw [hzz.out]; rfl, hSq⟩
                                                    · have e7 : ((kd : Int) + 1 == 7) = false := by simp; omega
                                                      have hzz : Hid (zd = false) := Lib.hid (by rw [← hzd'.out]; unfold zD; simp [a6, a7])
                                                      clear a6 a7
                                                      go_wp2_with fail
                                                      go_meet
                                                      case rel => exact ⟨by rw [hzz.out], hSq⟩
                                              case rest =>
                                                as_aux_lemma =>
                                                  obtain ⟨rfl, hS6⟩ := hcut
                                                  clear hSq c1
                                                  generalize hgz : wc = w13 at hS6 ⊢
                                                  clear hgz
                                                  have c2 : w13.cell? ⟨g5, o5 + j, none⟩ = some (.string X) := (hS6.out.k.cell (p := ⟨g5, o5 + j, none⟩) (World.block_lt_of_cell? w2 _ c0'.out) id).trans c0'.out
                                                  go_upto_if 230 with fail
                                                  cases zd with
                                                  | true =>
                                                    go_wp2_with ((with_reducible refine at_slot 239 ?_); go_must (refine wpList_append_r rfl (.tmp 231) (.tmp 238) 87 139 rfl i0 _ 24 Tryz.underlying87 hi0 hi1 hi2 hi3 rfl (by decide) (by decide) fVals_len w2 _ gs.length gs rfl rfl ((hS6.out.keep ((Keeps.refl (fun _ => False) _).alloc _)).own) _ rfl ⟨(kd : Int) + 1, X.data.toList⟩ (cells_new rfl [.int .i64 ((kd : Int) + 1), .string X] _) (fVals_one _) (by omega) ?_); intro q8 d8 w8b hO8 hg8)
                                                    have hS9 := Lib.hid ((hS6.out.keep ((Keeps.refl (fun _ => False) w13).alloc (.cells #[.int .i64 ((kd : Int) + 1), .string X] 139))).grow hO8.out hg8.out)
                                                    exact ⟨⟨j + 1, gs ++ [⟨(kd : Int) + 1, X.data.toList⟩], q8, d8, by omega, by go_num, by simp, by simp; omega, Lib.hid (hyes.out hzd'.out), by simpa using hS9⟩, by simp [intOf]; omega⟩
                                                  | false =>
                                                    go_wp2_with fail
                                                    exact ⟨⟨j + 1, gs, q4, d4, by omega, by go_num, rfl, by omega, Lib.hid (hno.out hzd'.out), hS6⟩, by simp [intOf]; omega⟩
                                          · obtain rfl : j = A.length := by omega
                                            rw [List.take_length] at hgs
                                            clear hlj hj
                                            obtain ⟨z5, hz5⟩ : ∃ z, zE F (kd + 1) = z := ⟨_, rfl⟩
                                            have hz5' := Lib.hid hz5
                                            clear hz5
                                            generalize hgz : wr = w11 at hT ⊢
                                            clear hgz
                                            go_upto_region 50 with fail
                                            go_cut [246] (fun tv wx => tv = .bool z5 ∧ Hid (OutS w2 wx r U (.slice q4 gs.length d4) gs))
                                            case first =>
                                              as_aux_lemma =>
                                                by_cases a1 : kd = 7
                                                · have e1 : ((kd : Int) + 1 == 8) = true := by simp; omega
                                                  by_cases a2 : 8 < F.length
                                                  · have e2 : (8 : Int) < (F.length : Int) := by omega
                                                    have hzf : Hid (z5 = true) := Lib.hid (by rw [← hz5'.out]; unfold zE; simp [a1, a2])
                                                    clear a1 a2
                                                    go_wp2_with fail
                                                    go_meet
                                                    case rel => exact ⟨by rw [hzf.out], hT⟩
                                                  · have e2 : ¬ (8 : Int) < (F.length : Int) := by omega
                                                    have hzf : Hid (z5 = false) := Lib.hid (by rw [← hz5'.out]; unfold zE; simp [a2])
                                                    clear a1 a2
                                                    go_wp2_with fail
                                                    go_meet
                                                    case rel => exact ⟨by rw [hzf.out], hT⟩
                                                · have e1 : ((kd : Int) + 1 == 8) = false := by simp; omega
                                                  have hzf : Hid (z5 = false) := Lib.hid (by rw [← hz5'.out]; unfold zE; simp [a1])
                                                  clear a1
                                                  go_wp2_with fail
                                                  go_meet
                                                  case rel => exact ⟨by rw [hzf.out], hT⟩
                                            case rest =>
                                              as_aux_lemma =>
                                                obtain ⟨rfl, hT2⟩ := hcut
                                                clear hT
                                                have hend : Hid (gs ++ one8 z5 8 [] = docTo ls F A (kd + 1)) := Lib.hid (by
                                                  rw [docTo_step, ← hL.out, hgs.out, hfs.out, ← hL2'.out, ← hL1'.out]
                                                  unfold docK
                                                  rw [hz1'.out, hU'.out, hz2'.out, hz5'.out]
                                                  simp only [List.append_assoc])
                                                generalize hgz : wc = w12 at hT2 ⊢
                                                clear hgz
                                                go_upto_if 246 with fail
                                                cases z5 with
                                                | true =>
                                                  rw [one_yes rfl] at hend
                                                  go_wp2_with ((with_reducible refine at_slot 250 ?_); go_must (refine wpList_append_r rfl (.tmp 247) (.tmp 249) 87 139 rfl i0 _ 24 Tryz.underlying87 hi0 hi1 hi2 hi3 rfl (by decide) (by decide) fVals_len w2 _ gs.length gs rfl rfl ((hT2.out.keep ((Keeps.refl (fun _ => False) _).alloc _)).own) _ rfl ⟨8, []⟩ (cells_new rfl [.int .i64 8, .string ⟨#[]⟩] _) (fVals_one _) (by omega) ?_); intro q8 d8 w8b hO8 hg8)
                                                  have hS9 := Lib.hid ((hT2.out.keep ((Keeps.refl (fun _ => False) w12).alloc (.cells #[.int .i64 8, .string ⟨#[]⟩] 139))).grow hO8.out hg8.out)
                                                  exact ⟨⟨kd + 1, gs ++ [⟨8, []⟩], q8, d8, by omega, by go_num, by simp, by simp; omega, hend, by simpa using Lib.hid hS9.out.own, Lib.hid hS9.out.k⟩, by simp [intOf]; omega⟩
                                                | false =>
                                                  rw [one_no rfl, List.append_nil] at hend
                                                  go_wp2_with fail
                                                  exact ⟨⟨kd + 1, gs, q4, d4, by omega, by go_num, rfl, by omega, hend, Lib.hid hT2.out.own, Lib.hid hT2.out.k⟩, by simp [intOf]; omega⟩
      · obtain rfl : kd = 8 := by omega
        clear hlk hk8
        go_wp2_with fail
        go_ret
        rw [← hres.out, ← hL.out]
        exact ⟨q, d, rfl, hO.out.older k2'.out.size, k2'.out.trans hK.out⟩
end Go.Proofs.YtialookpnoaogaaGreat
