/- The document's Make of layer 17, walked (asm_rvp.py out of wip/pmp). -/
import Derived.Test.YtmclnamgihphcaaGreatMM28
import Derived.Deep.DeepCutAuto
import Derived.Deep.CutBlock
import Derived.BigQuiet
set_option linter.unusedVariables false
set_option linter.unusedSimpArgs false
set_option linter.unusedVariables false
set_option linter.unusedSimpArgs false
namespace Go.Proofs.YtmclnamgihphcaaGreat
open Go.RowKit Go.Sort Go.Shelf

theorem own_newA17 (w : World) (f : ActD) : OwnR 43 2 aVals w (w.alloc (.cells (aVals f).toArray 43)) (.slice (some ⟨w.heap.size, 0, none⟩) 1 1) [f] := by
  refine ⟨⟨by simp [rowCells, aVals], .inr ⟨w.heap.size, 1, (aVals f).toArray, rfl, Nat.zero_le _, heap_alloc_last w _, by simp, by unfold maxLen; simp, by simp [aVals], by simp [rowCells, aVals]⟩⟩, fun k e => by simp [Value.ownBlock] at e; omega, ((Keeps.refl (fun _ => False) w).alloc _).size⟩
theorem right_small {ls : List LineD} (h : rightC ls = true) : LinesLt ls 8796093022000 := fun l hl => by
  have := line_small (right_line h l hl)
  omega
def clsOf (f : Option RowD) : Int := match f with
  | some r => r.cl
  | none => 0
theorem wf_small {k : Int} (h1 : 0 ≤ k) (h2 : k ≤ 10) : (Lit.int .i64 k).wf = true := by
  show (decide (IntKind.i64.min ≤ k) && decide (k ≤ IntKind.i64.max)) = true
  rw [decide_eq_true (show IntKind.i64.min ≤ k by have : IntKind.i64.min = -9223372036854775808 := by decide
                                                  omega), decide_eq_true (show k ≤ IntKind.i64.max by have : IntKind.i64.max = 9223372036854775807 := by decide
                                                                                                      omega)]; rfl
def MkRes17 (L : List ActD) (w : World) (e : Ending) (w' : World) : Prop :=
  ∃ p c, e = .returned (.slice p L.length c) ∧ RowsAt 2 aVals w' (.slice p L.length c) L ∧ Keeps (fun _ => False) w w'
set_option maxRecDepth 100000 in
set_option maxHeartbeats 64000000 in
theorem r17Make_any (v u : Value) (a b : List LineD) (w : World) (hv : Hid (RowsAt 4 lineVals w v a)) (hra : Hid (rightC a = true)) (hu : Hid (RowsAt 4 lineVals w u b)) (hrb : Hid (rightC b = true)) :
    Calls Tryz.prog 7 #[v, u] w (MkRes17 (makeG a b) w) := by
  have hla := right_len hra.out
  have hlb := right_len hrb.out
  obtain ⟨p, c, rfl⟩ := hv.out.slice
  obtain ⟨q, d, rfl⟩ := hu.out.slice
  obtain ⟨i0, hi0, hi1, hi2, hi3⟩ := actAll17
  obtain ⟨is, his0, his1, his2, his3⟩ := strAll
  have hmm := @run_makeMap Tryz.prog
  go_enter Tryz.func7, Tryz.ntmps7
  go_wp2_with fail
  refine (r7Lines_any _ _ a b _ hv hu hla hlb).mono ?_
  rintro e w1 ⟨p1, c1, rfl, hC1, k1⟩
  have hC1' := Lib.hid hC1
  have hv1 := Lib.hid (hv.out.keep k1)
  have hu1 := Lib.hid (hu.out.keep k1)
  have k1' := Lib.hid k1
  clear hC1 k1 hv hu
  go_wp2_with fail
  refine (rNames_all _ a 2 _ hv1 hra).mono ?_
  rintro e w2 ⟨p2, c2, rfl, hX2, k2⟩
  have hC2 := Lib.hid (hC1'.out.keep k2)
  have hv2 := Lib.hid (hv1.out.keep k2)
  have hu2 := Lib.hid (hu1.out.keep k2)
  have hX2' := Lib.hid hX2
  have k2' := Lib.hid (k1'.out.trans k2)
  clear hX2 k2 hv1 hu1 k1' hC1'
  go_wp2_with fail
  refine (rNames_all _ b 2 _ hu2 hrb).mono ?_
  rintro e w3 ⟨p3, c3, rfl, hY3, k3⟩
  have hC := Lib.hid (hC2.out.keep k3)
  have hva := Lib.hid (hv2.out.keep k3)
  have hub := Lib.hid (hu2.out.keep k3)
  have hXs := Lib.hid (strs_keep hX2'.out k3)
  have hYs := Lib.hid hY3
  have k03 := Lib.hid (k2'.out.trans k3)
  clear hY3 k3 hv2 hu2 k2' hC2 hX2'
  have hXl := namesA_len 2 a
  have hYl := namesA_len 2 b
  have hX64 : (namesA 2 a).length ≤ 64 := by omega
  have hY64 : (namesA 2 b).length ≤ 64 := by omega
  clear hXl hYl
  obtain ⟨hcl, hcn⟩ := docCh_facts hra.out hrb.out
  have hcn' := Lib.hid hcn
  clear hcn
  obtain ⟨cs, hcs⟩ : ∃ cs, docCh a b = cs := ⟨_, rfl⟩
  rw [hcs] at hcl hcn' hC
  have hcs' := Lib.hid hcs
  rw [hcs]
  obtain ⟨X, hX⟩ : ∃ X, namesA 2 a = X := ⟨_, rfl⟩
  rw [hX] at hXs hX64
  have hX' := Lib.hid hX
  rw [hX]
  obtain ⟨Y, hY⟩ : ∃ Y, namesA 2 b = Y := ⟨_, rfl⟩
  rw [hY] at hYs hY64
  have hY' := Lib.hid hY
  rw [hY]
  clear hcs hX hY
  have hS0 := Lib.hid (MapsS.new w3)
  have hsz : (w3.alloc (.map #[] 0)).heap.size = w3.heap.size + 1 := alloc_size _ _
  go_wp2_with fail
  rw [hsz] at hS0
  generalize hr2 : w3.heap.size + 1 = r2 at hS0 ⊢
  generalize hr1 : w3.heap.size = r1 at hS0 ⊢
  generalize hw4 : (w3.alloc (.map #[] 0)).alloc (.map #[] 0) = w4 at hS0 ⊢
  clear hr1 hr2 hw4 hsz hmm
  go_loopw [10] (fun iv wr => ∃ (k : Nat), k ≤ cs.length ∧ iv = .int .i64 k ∧ Hid (MapsS w3 wr r1 r2 k k (kOf ((cs.take k).flatMap (ins1 X Y))) ((cs.take k).flatMap areaI)) ∧ Hid (¬ (¬ X = [] ∧ ∃ c ∈ cs.take k, c.line.head = 0))) (fun iv _ => cs.length - (intOf iv).toNat)
  case atStart => exact ⟨0, by omega, rfl, hS0, Lib.hid (fun h => by obtain ⟨-, c, hc, -⟩ := h; simp at hc)⟩
  case round =>
    obtain ⟨k, hk, rfl, hS, hno⟩ := hrel
    by_cases hlk : k < cs.length
    · obtain ⟨ch, hch⟩ : ∃ x, cs[k]? = some x := ⟨_, List.getElem?_eq_getElem hlk⟩
      have hmem := List.mem_of_getElem? hch
      have hnl := hcn'.out ch hmem
      have hstK := ins1_step (X := X) (Y := Y) hch
      have hstR : (cs.take (k + 1)).flatMap areaI = (cs.take k).flatMap areaI ++ areaI ch := flat_take _ hch
      obtain ⟨g, o, rfl, hrr⟩ := hC.out.open (by omega)
      obtain ⟨H, hH⟩ : ∃ H, H = ch.line.head := ⟨_, rfl⟩
      obtain ⟨N, hN⟩ : ∃ N : ByteArray, N = ⟨ch.line.name.toArray⟩ := ⟨_, rfl⟩
      obtain ⟨F, hF⟩ : ∃ N : ByteArray, N = ⟨ch.line.leaf.toArray⟩ := ⟨_, rfl⟩
      obtain ⟨V, hV⟩ : ∃ N : ByteArray, N = ⟨ch.line.value.toArray⟩ := ⟨_, rfl⟩
      have hrow : Hid (wr.rangeAt g (o + k * 6) [.int .i64 H, .string N, .string F, .string V]) := Lib.hid (by
        have h := hS.out.k.rangeAt (hrr k ch hch) id
        rw [hH, hN, hF, hV]
        exact range_pre (b := [strv ch.old, strv ch.new]) h)
      have hNn : Hid (N.data.toList = ch.line.name) := Lib.hid (by rw [hN])
      have hFl : Hid (F.data.toList = ch.line.leaf) := Lib.hid (by rw [hF])
      have hNs : Hid (N.size ≤ maxLen) := Lib.hid (by rw [hN]; show ch.line.name.toArray.size ≤ _; rw [List.size_toArray]; unfold maxLen; omega)
      have hHh := Lib.hid hH
      have hstK' := Lib.hid hstK
      have hstR' := Lib.hid hstR
      have hch' := Lib.hid hch
      have hmem' := Lib.hid hmem
      have m2 : (0 : Int) ≤ (k : Int) := by omega
      have m1 : (k : Int) < (cs.length : Int) := by omega
      have hS1 := Lib.hid (hS.out.keep ((Keeps.refl (fun _ => False) _).alloc (.cells #[.int .i64 H, .string N, .string F, .string V] 48)))
      have hB1 : Hid (BlkAt (wr.alloc (.cells #[.int .i64 H, .string N, .string F, .string V] 48)) wr.heap.size 48 [.int .i64 H, .string N, .string F, .string V]) := Lib.hid (BlkAt.new _ _ _)
      clear hrr hH hN hF hV hstK hstR hch hmem hnl
      go_upto_region 9 with ((with_reducible refine at_slot 49 ?_); refine wpList_load_mid rfl 48 (.tmp 48) rfl g (o + k * 6) rfl [.int .i64 H, .string N, .string F, .string V] _ hrow.out Tryz.underlying48 rfl lineInfo5 ?_)
      have hbl := Lib.hid (show r1 < wr.heap.size ∧ r2 < wr.heap.size from ⟨hS.out.kat.lt, hS.out.aat.lt⟩)
      generalize hgw : wr.alloc (.cells #[.int .i64 H, .string N, .string F, .string V] 48) = W at hS1 hB1 ⊢
      generalize hgb : wr.heap.size = bl at hB1 hbl ⊢
      clear hgw hgb hrow
      have c0 : W.cell? ⟨bl, 0, none⟩ = some (.int .i64 H) := hB1.out.range 0 _ rfl
      have c1 : W.cell? ⟨bl, 1, none⟩ = some (.string N) := hB1.out.range 1 _ rfl
      have c2 : W.cell? ⟨bl, 2, none⟩ = some (.string F) := hB1.out.range 2 _ rfl
      by_cases hw : H = 0 ∧ ¬ X = []
      · obtain ⟨h0, hX0⟩ := hw
        have e1 : (H == 0) = true := by simp [h0]
        have hXp : 0 < X.length := List.length_pos_iff.2 hX0
        have e2 : (0 : Int) < (X.length : Int) := by omega
        have hend : [⟨1, []⟩] = makeG a b := whole_make hra.out hrb.out ⟨by rw [hX'.out]; exact hX0, ch, by rw [hcs'.out]; exact hmem'.out, by rw [← hHh.out]; exact h0⟩
        have hend' := Lib.hid hend
        have hkw := Lib.hid (k03.out.trans hS1.out.k)
        clear h0 hX0 hXp hend hno hstK' hstR' hch' hmem'
        go_wp2_with fail
        go_ret
        rw [← hend'.out]
        exact ⟨some ⟨W.heap.size, 0, none⟩, 1, rfl, (own_newA17 W ⟨1, []⟩).at aVals_len, hkw.out.alloc _⟩
      · have hno2 : Hid (¬ (¬ X = [] ∧ ∃ c ∈ cs.take (k + 1), c.line.head = 0)) := Lib.hid (fun h => by
          obtain ⟨h1, c', hc', h2⟩ := h
          rw [List.take_succ_eq_append_getElem hlk] at hc'
          rcases List.mem_append.1 hc' with hc' | hc'
          · exact hno.out ⟨h1, c', hc', h2⟩
          · have e := List.mem_singleton.1 hc'
            have h3 := hch'.out
            rw [List.getElem?_eq_getElem hlk] at h3
            injection h3 with h3
            rw [h3] at e
            rw [e] at h2
            exact hw ⟨hHh.out.trans h2, h1⟩)
        obtain ⟨z9, hz9⟩ : ∃ z, (decide (H = 0) && decide (0 < X.length)) = z := ⟨_, rfl⟩
        go_cut [57] (fun tv wx => tv = .bool false ∧ W = wx)
        case first =>
          by_cases h0 : H = 0
          · have hX0 : X = [] := Classical.byContradiction fun h => hw ⟨h0, h⟩
            have e1 : (H == 0) = true := by simp [h0]
            have e2 : ¬ (0 : Int) < (X.length : Int) := by rw [hX0]; simp
            have e3 : decide (0 < X.length) = false := by rw [hX0]; rfl
            clear hw hX0 h0
            go_wp2_with fail
            go_meet
            case rel => exact ⟨rfl, rfl⟩
          · have e1 : (H == 0) = false := by simpa using h0
            clear hw h0
            go_wp2_with fail
            go_meet
            case rel => exact ⟨rfl, rfl⟩
        case rest =>
          obtain ⟨rfl, rfl⟩ := hcut
          clear hw hz9
          go_upto_region 11 with fail
          obtain ⟨zc, hzc⟩ : ∃ z, (decide (H = 1) && decide (F.data.toList = costW)) = z := ⟨_, rfl⟩
          have hzc' := Lib.hid hzc
          have hco : Hid (isCost ch = zc) := Lib.hid (by rw [← hzc, hHh.out, hFl.out]; rfl)
          go_cut [67] (fun tv wx => tv = .bool zc ∧ W = wx)
          case first =>
            have e4 := ba_eqr F costW
            unfold costW at e4
            by_cases h1 : H = 1
            · have e1 : (H == 1) = true := by simp [h1]
              have e5 : decide (F.data.toList = [99, 111, 115, 116]) = zc := by rw [← hzc, h1]; rfl
              rw [e5] at e4
              clear h1 hzc e5
              go_wp2_with fail
              go_meet
              case rel => exact ⟨rfl, rfl⟩
            · have e1 : (H == 1) = false := by simpa using h1
              have e5 : zc = false := by rw [← hzc, decide_eq_false h1]; rfl
              clear h1 hzc e4
              go_wp2_with fail
              go_meet
              case rel => exact ⟨by rw [e5], rfl⟩
          case rest =>
            obtain ⟨rfl, rfl⟩ := hcut
            clear hzc
            cases zc with
            | true =>
              have h1 : H = 1 := by
                have h := hzc'.out
                simp only [Bool.and_eq_true, decide_eq_true_eq] at h
                exact h.1
              have e1 : (H == 2) = false := by simp [h1]
              obtain ⟨w5, hmu, hS5⟩ := hS1.out.area (by omega) N hNs.out
              have hK1 : Hid (MapsS w3 w5 r1 r2 (k + 1) (k + 1) (kOf ((cs.take (k + 1)).flatMap (ins1 X Y))) ((cs.take (k + 1)).flatMap areaI)) := Lib.hid (by
                rw [hstK'.out, if_neg (by rw [← hHh.out, h1]; decide), hstR'.out]
                unfold areaI at hS5 ⊢
                rw [hco.out, if_pos rfl, ← hNn.out]
                exact hS5.mono (by omega) (by omega))
              have hk5 : Keeps (fun i => i = r2) W w5 := by
                obtain ⟨w6, e6, -, k6⟩ := hS1.out.aat.put (by omega) N hNs.out
                rw [hmu] at e6
                injection e6 with e6 e7
                rw [e7]; exact k6
              have c0' : w5.cell? ⟨bl, 0, none⟩ = some (.int .i64 H) := by
                rw [hk5.cell (p := ⟨bl, 0, none⟩) (World.block_lt_of_cell? W _ c0) (fun e => by have := hbl.out; have e : bl = r2 := e; omega)]; exact c0
              clear hS5 hk5 hS1 h1
              go_wp2_with fail
              exact ⟨⟨k + 1, by omega, by go_num, hK1, hno2⟩, by simp [intOf]; omega⟩
            | false =>
              have hR1 : Hid ((cs.take (k + 1)).flatMap areaI = (cs.take k).flatMap areaI) := Lib.hid (by
                rw [hstR'.out]; unfold areaI; rw [hco.out, if_neg (by decide), List.append_nil])
              by_cases h2 : H = 2
              · obtain rfl : H = 2 := h2
                obtain ⟨f, hf⟩ : ∃ f, findD 2 F.data.toList = f := ⟨_, rfl⟩
                have hf' := Lib.hid hf
                obtain ⟨cl, hcl⟩ : ∃ cl : Int, cl = clsOf f := ⟨_, rfl⟩
                obtain ⟨lk, hlk2⟩ : ∃ lk, leafK F.data.toList = lk := ⟨_, rfl⟩
                have hclk : Hid (0 ≤ cl ∧ cl ≤ 5 ∧ lk = (if cl = 5 then 3 else if cl = 4 then 4 else if cl = 3 then 5 else if cl = 2 then 7 else if cl = 1 then 8 else 9)) := Lib.hid (by
                  unfold leafK at hlk2
                  rw [hf] at hlk2
                  cases f with
                  | none => have e : cl = 0 := hcl; have e2 : 9 = lk := hlk2; rw [e, ← e2]; decide
                  | some r =>
                    have e : cl = r.cl := hcl
                    obtain ⟨g1, g2, g3⟩ := findD_mem hf
                    obtain ⟨g4, g5, -⟩ := class_kind r g1 g2
                    rw [e]; exact ⟨g4, g5, hlk2.symm⟩)
                have hcl' := Lib.hid hcl
                have hlk3 : Hid (leafK ch.line.leaf = lk) := Lib.hid (by rw [← hFl.out]; exact hlk2)
                clear hcl hlk2 hf
                go_upto_region 14 with fail
                go_cut [12, 13] (fun tv dv wx => ∃ br, tv = .pointer (some ⟨br, 0, none⟩) ∧ Hid (wx.cell? ⟨br, 7, none⟩ = some (.int .i64 cl)) ∧ Hid (Keeps (fun _ => False) W wx))
                case first =>
                  cases f with
                  | none =>
                    have hce : cl = 0 := hcl'.out
                    go_wp2_with fail
                    refine (rFind_no 2 F _ hf').mono ?_
                    rintro e w5 ⟨rfl, k5⟩
                    have k5' := Lib.hid k5
                    clear k5
                    go_wp2_with ((with_reducible refine at_store 12 ?_); refine wpList_store_new rfl 71 (.tmp 12) (.tmp 78) rfl _ #[.int .i64 0, .string ⟨#[]⟩, .int .i64 0, .int .i64 0, .int .i64 0, .slice none 0 0, .string ⟨#[]⟩, .int .i64 0] rfl rfl rowInfo4 rfl (row_one _ _ _ _ _ _ _ _ _ _) ?_)
                    go_meet
                    case rel => exact ⟨_, rfl, Lib.hid (by rw [hce]; simp [go_sem]), Lib.hid (k5'.out.alloc _)⟩
                  | some r =>
                    obtain ⟨Nm, hNm⟩ : ∃ Nm : ByteArray, Nm = ⟨r.name.toArray⟩ := ⟨_, rfl⟩
                    obtain ⟨Df, hDf⟩ : ∃ Nm : ByteArray, Nm = ⟨r.df.toArray⟩ := ⟨_, rfl⟩
                    have hNm' := Lib.hid hNm
                    have hDf' := Lib.hid hDf
                    have hce : cl = r.cl := hcl'.out
                    have hce' := Lib.hid hce
                    clear hNm hDf hce
                    go_wp2_with fail
                    refine (rFind_yes 2 F r Nm Df _ hf' hNm' hDf').mono ?_
                    rintro e w5 ⟨p5, cc, rfl, s5, k5⟩
                    have k5' := Lib.hid k5
                    clear s5 k5
                    go_wp2_with ((with_reducible refine at_store 12 ?_); refine wpList_store_new rfl 71 (.tmp 12) (.tmp 78) rfl _ #[.int .i64 r.head, .string Nm, .int .i64 r.kind, .int .i64 r.lo, .int .i64 r.hi, .slice p5 r.cs.length cc, .string Df, .int .i64 r.cl] rfl rfl rowInfo4 rfl (row_one _ _ _ _ _ _ _ _ _ _) ?_)
                    go_meet
                    case rel => exact ⟨_, rfl, Lib.hid (by rw [hce'.out]; simp [go_sem]), Lib.hid (k5'.out.alloc _)⟩
                case rest =>
                  obtain ⟨br, rfl, hc7, hk1⟩ := hcut
                  have hS2 := Lib.hid (hS1.out.keep hk1.out)
                  have hB2 := Lib.hid (hB1.out.keep hk1.out id)
                  generalize hgz : wc = w2 at hc7 hS2 hB2 ⊢
                  clear hgz hk1 hS1 hB1 hcl' hf' c0 c1 c2
                  go_upto_region 15 with fail
                  go_cut [14] (fun kv wx => kv = .int .i64 lk ∧ Hid (Keeps (fun _ => False) w2 wx))
                  case first =>
                    have c7 := hc7.out
                    have hkn : Hid (Keeps (fun _ => False) w2 (w2.alloc (.cells #[.int .i64 9, .int .i64 8, .int .i64 7, .int .i64 5, .int .i64 4, .int .i64 3, .int .i64 1] 3))) := Lib.hid ((Keeps.refl _ _).alloc _)
                    have c7' := hkn.out.cell (p := ⟨br, 7, none⟩) (World.block_lt_of_cell? w2 _ c7) id
                    rw [c7] at c7'
                    obtain ⟨g1, g2, g3⟩ := hclk.out
                    have g3' := Lib.hid g3
                    clear c7 g3 hclk hc7
                    have hcs6 : cl = 0 ∨ cl = 1 ∨ cl = 2 ∨ cl = 3 ∨ cl = 4 ∨ cl = 5 := by omega
                    clear g1 g2
                    rcases hcs6 with rfl | rfl | rfl | rfl | rfl | rfl
                    all_goals
                      have g4 := g3'.out
                      go_wp2_with fail
                      go_meet
                      case rel => exact ⟨by rw [g4]; rfl, Lib.hid (hkn.out)⟩
                  case rest =>
                    obtain ⟨rfl, hk2⟩ := hcut
                    have hS3 := Lib.hid (hS2.out.keep hk2.out)
                    have hB3 := Lib.hid (hB2.out.keep hk2.out id)
                    generalize hgz : wc = w3' at hS3 hB3 ⊢
                    clear hgz hk2 hS2 hB2 hc7 hclk
                    have d1 : w3'.cell? ⟨bl, 1, none⟩ = some (.string N) := hB3.out.range 1 _ rfl
                    obtain ⟨zx, hzx⟩ : ∃ z, X.contains N.data.toList = z := ⟨_, rfl⟩
                    obtain ⟨zy, hzy⟩ : ∃ z, Y.contains N.data.toList = z := ⟨_, rfl⟩
                    have hzx' := Lib.hid hzx
                    have hzy' := Lib.hid hzy
                    have hXs3 := Lib.hid (strs_keep hXs.out hS3.out.k)
                    have hkd : Hid (kindD X Y ch = if zy = true then (if zx = true then lk else 6) else 2) := Lib.hid (by
                      unfold kindD; rw [← hNn.out, hzx, hzy, hlk3.out])
                    clear hzx hzy
                    go_upto_region 16 with fail
                    go_cut [89] (fun tv wx => tv = .bool (!zx) ∧ Hid (Keeps (fun _ => False) w3' wx))
                    case first =>
                      go_wp2_with fail
                      refine (r17Has_any _ X N zx _ hXs3 (by omega) hzx').mono ?_
                      rintro e w5 ⟨rfl, k5⟩
                      have k5' := Lib.hid k5
                      clear k5
                      go_wp2_with fail
                      go_meet
                      case rel => exact ⟨rfl, k5'⟩
                    case rest =>
                      obtain ⟨rfl, hk4⟩ := hcut
                      have hS4 := Lib.hid (hS3.out.keep hk4.out)
                      have hB4 := Lib.hid (hB3.out.keep hk4.out id)
                      generalize hgz : wc = w4' at hS4 hB4 ⊢
                      clear hgz hk4 hS3 hB3 d1 hXs3 hzx'
                      go_upto_if 89 with fail
                      go_cut [14] (fun kv wx => kv = .int .i64 (if zx = true then lk else 6) ∧ w4' = wx)
                      case first =>
                        cases zx with
                        | true =>
                          go_wp2_with fail
                          go_meet
                          case rel => exact ⟨rfl, rfl⟩
                        | false =>
                          go_wp2_with fail
                          go_meet
                          case rel => exact ⟨rfl, rfl⟩
                      case rest =>
                        obtain ⟨rfl, rfl⟩ := hcut
                        obtain ⟨kd1, hkd1⟩ : ∃ k, (if zx = true then lk else 6) = k := ⟨_, rfl⟩
                        rw [hkd1]
                        rw [hkd1] at hkd
                        clear hkd1
                        have d1 : w4'.cell? ⟨bl, 1, none⟩ = some (.string N) := hB4.out.range 1 _ rfl
                        have hYs4 := Lib.hid (strs_keep hYs.out hS4.out.k)
                        go_upto_region 18 with fail
                        go_cut [94] (fun tv wx => tv = .bool (!zy) ∧ Hid (Keeps (fun _ => False) w4' wx))
                        case first =>
                          go_wp2_with fail
                          refine (r17Has_any _ Y N zy _ hYs4 (by omega) hzy').mono ?_
                          rintro e w5 ⟨rfl, k5⟩
                          have k5' := Lib.hid k5
                          clear k5
                          go_wp2_with fail
                          go_meet
                          case rel => exact ⟨rfl, k5'⟩
                        case rest =>
                          obtain ⟨rfl, hk5⟩ := hcut
                          have hS5 := Lib.hid (hS4.out.keep hk5.out)
                          have hB5 := Lib.hid (hB4.out.keep hk5.out id)
                          generalize hgz : wc = w5' at hS5 hB5 ⊢
                          clear hgz hk5 hS4 hB4 d1 hYs4 hzy'
                          go_upto_if 94 with fail
                          go_cut [14] (fun kv wx => kv = .int .i64 (if zy = true then kd1 else 2) ∧ w5' = wx)
                          case first =>
                            cases zy with
                            | true =>
                              go_wp2_with fail
                              go_meet
                              case rel => exact ⟨rfl, rfl⟩
                            | false =>
                              go_wp2_with fail
                              go_meet
                              case rel => exact ⟨rfl, rfl⟩
                          case rest =>
                            obtain ⟨rfl, rfl⟩ := hcut
                            obtain ⟨kd, hkd2⟩ : ∃ k, (if zy = true then kd1 else 2) = k := ⟨_, rfl⟩
                            rw [hkd2]
                            rw [hkd2] at hkd
                            clear hkd2
                            have hkr : Hid (0 ≤ kd ∧ kd ≤ 10) := Lib.hid (by
                              have h := hkd.out
                              unfold kindD at h
                              have := leafK_range ch.line.leaf
                              split at h
                              · split at h <;> omega
                              · omega)
                            have d1 : w5'.cell? ⟨bl, 1, none⟩ = some (.string N) := hB5.out.range 1 _ rfl
                            obtain ⟨K, hK⟩ : ∃ K, kOf ((cs.take k).flatMap (ins1 X Y)) = K := ⟨_, rfl⟩
                            rw [hK] at hS5 hstK'
                            have hlo := hS5.out.kat.look N hNs.out
                            obtain ⟨v0, hv0⟩ : ∃ v, (K N.data.toList).getD 0 = v := ⟨_, rfl⟩
                            obtain ⟨z0, hz0⟩ : ∃ v, (K N.data.toList).isSome = v := ⟨_, rfl⟩
                            rw [hv0, hz0] at hlo
                            have hv0' := Lib.hid hv0
                            have hz0' := Lib.hid hz0
                            have hmin : Hid (minO (K N.data.toList) kd = if z0 = true then (if kd < v0 then kd else v0) else kd) := Lib.hid (by
                              cases hk : K N.data.toList with
                              | none => rw [hk] at hz0; rw [← hz0]; rfl
                              | some j => rw [hk] at hz0 hv0; rw [← hz0, ← hv0]; rfl)
                            have hKn : Hid (z0 = true → K N.data.toList = some v0) := Lib.hid (fun e => by
                              cases hk : K N.data.toList with
                              | none => rw [hk] at hz0; rw [← hz0] at e; cases e
                              | some j => rw [hk] at hv0; rw [← hv0]; rfl)
                            have hstK2 : Hid (kOf ((cs.take (k + 1)).flatMap (ins1 X Y)) = updK K N.data.toList (if z0 = true then (if kd < v0 then kd else v0) else kd)) := Lib.hid (by
                              rw [hstK'.out, if_pos hHh.out.symm, ← hNn.out, hkd.out, hmin.out])
                            have hfin : Hid (∀ wx, MapsS w3 wx r1 r2 (k + 1) k (updK K N.data.toList (if z0 = true then (if kd < v0 then kd else v0) else kd)) ((cs.take k).flatMap areaI) → MapsS w3 wx r1 r2 (k + 1) (k + 1) (kOf ((cs.take (k + 1)).flatMap (ins1 X Y))) ((cs.take (k + 1)).flatMap areaI)) := Lib.hid (fun wx h => by
                              rw [hstK2.out, hR1.out]; exact h.mono (Nat.le_refl _) (by omega))
                            obtain ⟨w6, hmu, hS6⟩ := hS5.out.put (by omega) N hNs.out kd (wf_small hkr.out.1 hkr.out.2)
                            have hS6' := Lib.hid hS6
                            have hmu' := Lib.hid hmu
                            clear hv0 hz0 hv0' hz0' hK hmin hstK2 hkr hmu hS6
                            go_upto_region 21 with fail
                            have hput : Hid (z0 = false ∨ kd < v0 → MapsS w3 w6 r1 r2 (k + 1) (k + 1) (kOf ((cs.take (k + 1)).flatMap (ins1 X Y))) ((cs.take (k + 1)).flatMap areaI)) := Lib.hid (fun e => hfin.out _ (by
                              rcases e with e | e
                              · rw [e, if_neg (by decide)]; exact hS6'.out
                              · rw [if_pos e]
                                have h : (if z0 = true then kd else kd) = kd := by split <;> rfl
                                rw [h]; exact hS6'.out))
                            clear hS6'
                            cases z0 with
                            | false =>
                              have hK1 := Lib.hid (hput.out (.inl rfl))
                              have hmu := hmu'.out
                              clear hput hfin hKn
                              go_wp2_with fail
                              exact ⟨⟨k + 1, by omega, by go_num, hK1, hno2⟩, by simp [intOf]; omega⟩
                            | true =>
                              by_cases hlt : kd < v0
                              · have hK1 := Lib.hid (hput.out (.inr hlt))
                                have hmu := hmu'.out
                                clear hput hfin hKn
                                go_wp2_with fail
                                exact ⟨⟨k + 1, by omega, by go_num, hK1, hno2⟩, by simp [intOf]; omega⟩
                              · have hK1 : Hid (MapsS w3 w5' r1 r2 (k + 1) (k + 1) (kOf ((cs.take (k + 1)).flatMap (ins1 X Y))) ((cs.take (k + 1)).flatMap areaI)) := Lib.hid (hfin.out _ (by
                                  rw [if_pos rfl, if_neg hlt]
                                  have h : updK K N.data.toList v0 = K := by
                                    funext m
                                    unfold updK
                                    by_cases e : m = N.data.toList
                                    · rw [if_pos e, e, hKn.out rfl]
                                    · rw [if_neg e]
                                  rw [h]; exact hS5.out.mono (by omega) (Nat.le_refl _)))
                                clear hput hfin hKn hmu'
                                go_wp2_with fail
                                exact ⟨⟨k + 1, by omega, by go_num, hK1, hno2⟩, by simp [intOf]; omega⟩
              · have e1 : (H == 2) = false := by simpa using h2
                have hK1 : Hid (MapsS w3 W r1 r2 (k + 1) (k + 1) (kOf ((cs.take (k + 1)).flatMap (ins1 X Y))) ((cs.take (k + 1)).flatMap areaI)) := Lib.hid (by
                  rw [hstK'.out, if_neg (by rw [← hHh.out]; exact h2), hR1.out]
                  exact hS1.out.mono (by omega) (by omega))
                clear h2 hS1
                go_wp2_with fail
                exact ⟨⟨k + 1, by omega, by go_num, hK1, hno2⟩, by simp [intOf]; omega⟩
    · have q3 : ¬ (k : Int) < (cs.length : Int) := by omega
      have hke : k = cs.length := by omega
      have hP1 : Hid (MapsS w3 wr r1 r2 cs.length cs.length (kOf (cs.flatMap (ins1 X Y))) (cs.flatMap areaI)) := Lib.hid (by
        have h := hS.out
        rw [hke, List.take_length] at h; exact h)
      have hno1 : Hid (¬ (¬ X = [] ∧ ∃ c ∈ cs, c.line.head = 0)) := Lib.hid (by
        have h := hno.out
        rw [hke, List.take_length] at h; exact h)
      clear hke hlk hk hS hno
      obtain ⟨w5, rfl⟩ : ∃ x, x = wr := ⟨_, rfl⟩
      go_wp2_with fail
      go_loopw [17] (fun iv wr => ∃ (m : Nat), m ≤ cs.length ∧ iv = .int .i64 m ∧ Hid (MapsS w3 wr r1 r2 (cs.length + 64 * m) cs.length (kOf (cs.flatMap (ins1 X Y) ++ (cs.take m).flatMap (ins2 a b X Y))) (cs.flatMap areaI))) (fun iv _ => cs.length - (intOf iv).toNat)
      case atStart => exact ⟨0, by omega, rfl, Lib.hid (by simpa using hP1.out)⟩
      case round =>
        obtain ⟨m, hm, rfl, hS⟩ := hrel
        by_cases hlm : m < cs.length
        · as_aux_lemma =>
            obtain ⟨ch, hch⟩ : ∃ x, cs[m]? = some x := ⟨_, List.getElem?_eq_getElem hlm⟩
            have hstP : Hid (cs.flatMap (ins1 X Y) ++ (cs.take (m + 1)).flatMap (ins2 a b X Y) = (cs.flatMap (ins1 X Y) ++ (cs.take m).flatMap (ins2 a b X Y)) ++ ins2 a b X Y ch) := Lib.hid (by
              rw [flat_take _ hch, List.append_assoc])
            obtain ⟨P, hP⟩ : ∃ P, cs.flatMap (ins1 X Y) ++ (cs.take m).flatMap (ins2 a b X Y) = P := ⟨_, rfl⟩
            rw [hP] at hstP hS
            obtain ⟨g, o, rfl, hrr⟩ := hC.out.open (by omega)
            obtain ⟨H, hH⟩ : ∃ H, H = ch.line.head := ⟨_, rfl⟩
            obtain ⟨N, hN⟩ : ∃ N : ByteArray, N = ⟨ch.line.name.toArray⟩ := ⟨_, rfl⟩
            obtain ⟨F, hF⟩ : ∃ N : ByteArray, N = ⟨ch.line.leaf.toArray⟩ := ⟨_, rfl⟩
            obtain ⟨V, hV⟩ : ∃ N : ByteArray, N = ⟨ch.line.value.toArray⟩ := ⟨_, rfl⟩
            have hrow : Hid (wr.rangeAt g (o + m * 6) [.int .i64 H, .string N, .string F, .string V]) := Lib.hid (by
              have h := hS.out.k.rangeAt (hrr m ch hch) id
              rw [hH, hN, hF, hV]
              exact range_pre (b := [strv ch.old, strv ch.new]) h)
            have hNn : Hid (N.data.toList = ch.line.name) := Lib.hid (by rw [hN])
            have hty : Hid (typeB ch = (decide (H = 1) && decide (F.data.toList = typW))) := Lib.hid (by rw [hH, hF]; rfl)
            have m2 : (0 : Int) ≤ (m : Int) := by omega
            have m1 : (m : Int) < (cs.length : Int) := by omega
            have hS1 := Lib.hid (hS.out.keep ((Keeps.refl (fun _ => False) _).alloc (.cells #[.int .i64 H, .string N, .string F, .string V] 48)))
            have hB1 : Hid (BlkAt (wr.alloc (.cells #[.int .i64 H, .string N, .string F, .string V] 48)) wr.heap.size 48 [.int .i64 H, .string N, .string F, .string V]) := Lib.hid (BlkAt.new _ _ _)
            have hbl := Lib.hid (show r1 < wr.heap.size ∧ r2 < wr.heap.size from ⟨hS.out.kat.lt, hS.out.aat.lt⟩)
            clear hrr hH hN hF hV hch hP hS
            go_upto_region 27 with ((with_reducible refine at_slot 123 ?_); refine wpList_load_mid rfl 48 (.tmp 122) rfl g (o + m * 6) rfl [.int .i64 H, .string N, .string F, .string V] _ hrow.out Tryz.underlying48 rfl lineInfo5 ?_)
            generalize hgw : wr.alloc (.cells #[.int .i64 H, .string N, .string F, .string V] 48) = W at hS1 hB1 ⊢
            generalize hgb : wr.heap.size = bl at hB1 hbl ⊢
            clear hgw hgb hrow
            have c0 : W.cell? ⟨bl, 0, none⟩ = some (.int .i64 H) := hB1.out.range 0 _ rfl
            have c1 : W.cell? ⟨bl, 1, none⟩ = some (.string N) := hB1.out.range 1 _ rfl
            have c2 : W.cell? ⟨bl, 2, none⟩ = some (.string F) := hB1.out.range 2 _ rfl
            obtain ⟨zt, hzt⟩ : ∃ z, (decide (H = 1) && decide (F.data.toList = typW)) = z := ⟨_, rfl⟩
            rw [hzt] at hty
            go_cut [131] (fun tv wx => tv = .bool (!zt) ∧ W = wx)
            case first =>
              have e4 := ba_eqr F typW
              unfold typW at e4
              by_cases h1 : H = 1
              · obtain rfl := h1
                have e5 : decide (F.data.toList = [116, 121, 112, 101]) = zt := by rw [← hzt]; rfl
                rw [e5] at e4
                clear hzt e5
                go_wp2_with fail
                go_meet
                case rel => exact ⟨rfl, rfl⟩
              · have e1 : (H == 1) = false := by simpa using h1
                have e1b : (H != 1) = true := by simpa using h1
                have e5 : zt = false := by rw [← hzt, decide_eq_false h1]; rfl
                clear hzt e4
                go_wp2_with fail
                go_meet
                case rel => exact ⟨by rw [e5]; rfl, rfl⟩
            case rest =>
              obtain ⟨rfl, rfl⟩ := hcut
              clear hzt c0 c2
              cases zt with
              | false =>
                have hK1 : Hid (MapsS w3 W r1 r2 (cs.length + 64 * (m + 1)) cs.length (kOf (cs.flatMap (ins1 X Y) ++ (cs.take (m + 1)).flatMap (ins2 a b X Y))) (cs.flatMap areaI)) := Lib.hid (by
                  rw [hstP.out]
                  unfold ins2
                  rw [hty.out, if_neg (by decide), List.append_nil]
                  exact hS1.out.mono (by omega) (Nat.le_refl _))
                clear hS1
                go_wp2_with fail
                exact ⟨⟨m + 1, by omega, by go_num, hK1⟩, by simp [intOf]; omega⟩
              | true =>
                have hstX : Hid (kOf (cs.flatMap (ins1 X Y) ++ (cs.take (m + 1)).flatMap (ins2 a b X Y)) = kOf (P ++ X.flatMap (ins2x a b Y ch))) := Lib.hid (by
                  rw [hstP.out]
                  unfold ins2
                  rw [hty.out, if_pos rfl])
                clear hstP hty
                have hS1' : Hid (MapsS w3 W r1 r2 (cs.length + 64 * m) cs.length (kOf (P ++ (X.take 0).flatMap (ins2x a b Y ch))) (cs.flatMap areaI)) := Lib.hid (by simpa using hS1.out)
                clear hS1 c1
                go_wp2_with fail
                go_loopw [19] (fun jv wr => ∃ (j : Nat), j ≤ X.length ∧ jv = .int .i64 j ∧ Hid (MapsS w3 wr r1 r2 (cs.length + 64 * m + j) cs.length (kOf (P ++ (X.take j).flatMap (ins2x a b Y ch))) (cs.flatMap areaI)) ∧ Hid (BlkAt wr bl 48 [.int .i64 H, .string N, .string F, .string V])) (fun jv _ => X.length - (intOf jv).toNat)
                case atStart => exact ⟨0, by omega, rfl, hS1', hB1⟩
                case round =>
                  obtain ⟨j, hj, rfl, hSj, hBj⟩ := hrel
                  by_cases hlj : j < X.length
                  · obtain ⟨x, hx⟩ : ∃ x, X[j]? = some x := ⟨_, List.getElem?_eq_getElem hlj⟩
                    obtain ⟨gx, ox, rfl, hcx⟩ := strs_get hXs.out hx
                    obtain ⟨Nm, hNm⟩ : ∃ Nm : ByteArray, Nm = ⟨x.toArray⟩ := ⟨_, rfl⟩
                    have hxm := List.mem_of_getElem? hx
                    have hNmx : Hid (Nm.data.toList = x) := Lib.hid (by rw [hNm])
                    have hxs : x.length ≤ 100 := by
                      rw [← hX'.out] at hxm
                      obtain ⟨l, hl, -, e⟩ := names_mem.1 hxm
                      have := (line_small (right_line hra.out l hl)).1
                      rw [e] at this; exact this
                    have hNs : Hid (Nm.size ≤ maxLen) := Lib.hid (by rw [hNm]; show x.toArray.size ≤ _; rw [List.size_toArray]; unfold maxLen; omega)
                    have cx : Hid (wr.cell? ⟨gx, ox + j, none⟩ = some (.string Nm)) := Lib.hid (by
                      rw [hNm]
                      exact (hSj.out.k.cell (p := ⟨gx, ox + j, none⟩) (World.block_lt_of_cell? w3 _ hcx) id).trans hcx)
                    have cn : Hid (wr.cell? ⟨bl, 1, none⟩ = some (.string N)) := Lib.hid (hBj.out.range 1 _ rfl)
                    have hbb : Hid (gx < wr.heap.size ∧ bl < wr.heap.size) := Lib.hid ⟨World.block_lt_of_cell? wr _ cx.out, World.block_lt_of_cell? wr _ cn.out⟩
                    have hst : Hid (P ++ (X.take (j + 1)).flatMap (ins2x a b Y ch) = (P ++ (X.take j).flatMap (ins2x a b Y ch)) ++ ins2x a b Y ch x) := Lib.hid (by
                      rw [flat_take _ hx, List.append_assoc])
                    obtain ⟨zy, hzy⟩ : ∃ z, Y.contains Nm.data.toList = z := ⟨_, rfl⟩
                    obtain ⟨VA, hVA⟩ : ∃ V : ByteArray, V = ⟨(valueR a 2 Nm.data.toList (⟨#[97, 114, 101, 97]⟩ : ByteArray).data.toList).toArray⟩ := ⟨_, rfl⟩
                    obtain ⟨VB, hVB⟩ : ∃ V : ByteArray, V = ⟨(valueR b 2 Nm.data.toList (⟨#[97, 114, 101, 97]⟩ : ByteArray).data.toList).toArray⟩ := ⟨_, rfl⟩
                    have hzy' := Lib.hid hzy
                    have hVA' := Lib.hid hVA
                    have hVB' := Lib.hid hVB
                    obtain ⟨za, hza⟩ : ∃ z, decide (VA.data.toList = N.data.toList) = z := ⟨_, rfl⟩
                    obtain ⟨zb, hzb⟩ : ∃ z, decide (VB.data.toList = N.data.toList) = z := ⟨_, rfl⟩
                    have ea := eq_list VA N
                    have eb := eq_list VB N
                    rw [hza] at ea
                    rw [hzb] at eb
                    have hhit : Hid (hitX a b Y ch x = (zy && (za && zb))) := Lib.hid (by
                      unfold hitX
                      rw [← hNmx.out, hzy, ← hza, ← hzb, hVA, hVB, ← hNn.out]; rfl)
                    have q1 : (0 : Int) ≤ (j : Int) := by omega
                    have q2 : (j : Int) < (X.length : Int) := by omega
                    have hvj : Hid (RowsAt 4 lineVals wr (.slice p a.length c) a) := Lib.hid (hva.out.keep hSj.out.k)
                    have huj : Hid (RowsAt 4 lineVals wr (.slice q b.length d) b) := Lib.hid (hub.out.keep hSj.out.k)
                    have hYj : Hid (StrsAt wr (.slice p3 Y.length c3) Y) := Lib.hid (strs_keep hYs.out hSj.out.k)
                    have hlta : LinesLt a 8796093022000 := right_small hra.out
                    have hltb : LinesLt b 8796093022000 := right_small hrb.out
                    have hlta' := Lib.hid hlta
                    have hltb' := Lib.hid hltb
                    clear hx hcx hNm hxm hxs hzy hVA hVB hza hzb hlta hltb
                    go_upto_region 31 with fail
                    go_cut [166] (fun tv wx => tv = .bool (!(zy && (za && zb))) ∧ Hid (Keeps (fun _ => False) wr wx))
                    case first =>
                      refine wp_region_noPanic ?_
                      refine wp_region_held_drew (S := (fun W => Keeps (fun _ => False) wr W)) (by kernel_rfl) (((Keeps.refl _ _).drew)) (fun hHeld => ?_)
                      refine tk 0 rfl ?_
                      refine tk 1 rfl ?_
                      refine tk 2 rfl ?_
                      refine tk 3 rfl ?_
                      refine tkL 4 rfl (yieldsIf_load_cell (by rfl) 9 (.tmp 141) rfl gx (ox + j) rfl _ (fun _ s => (s.cell (p := ⟨gx, ox + j, none⟩) hbb.out.1 id).trans cx.out) (fun w s => load_str w _ _ _ s)) ?_
                      refine stepL 5 rfl (by kernel_rfl) (fun K hK => ?_)
                      go_simp
                      (refine (r17Has_any _ Y Nm zy _ (Lib.hid (strs_keep hYj.out hHeld)) (by omega) hzy').mono ?_; rintro e w6 ⟨rfl, hk6⟩)
                      go_wp2_with fail
                      refine hK.out _ _ (hHeld.trans hk6) (fun hHeld => ?_)
                      clear hK K
                      try simp only [Act.put, sA, sZ, sS]
                      refine tk 6 rfl ?_
                      refine tk 7 rfl ?_
                      cases zy with
                      | false =>
                        refine tkS 8 rfl ?_
                        refine tkS 9 rfl ?_
                        refine tkS 10 rfl ?_
                        refine tkS 11 rfl ?_
                        refine tkS 12 rfl ?_
                        refine tkS 13 rfl ?_
                        refine tkS 14 rfl ?_
                        refine tkS 15 rfl ?_
                        refine tkS 16 rfl ?_
                        refine tk 17 rfl ?_
                        refine tk 18 rfl ?_
                        refine tkS 19 rfl ?_
                        refine tkS 20 rfl ?_
                        refine tkS 21 rfl ?_
                        refine tkS 22 rfl ?_
                        refine tkS 23 rfl ?_
                        refine tkS 24 rfl ?_
                        refine tkS 25 rfl ?_
                        refine tkS 26 rfl ?_
                        refine tkS 27 rfl ?_
                        refine tk 28 rfl ?_
                        refine wpAnyH_done (by kernel_rfl) (NoPanic.normal ?_) _
                        have hK := Lib.hid hHeld
                        clear hHeld
                        go_wp2_with fail
                        go_meet
                        case rel => exact ⟨rfl, hK⟩
                      | true =>
                        refine tk 8 rfl ?_
                        refine tk 9 rfl ?_
                        refine tk 10 rfl ?_
                        refine tk 11 rfl ?_
                        refine tkL 12 rfl (yieldsIf_load_cell (by rfl) 9 (.tmp 149) rfl gx (ox + j) rfl _ (fun _ s => (s.cell (p := ⟨gx, ox + j, none⟩) hbb.out.1 id).trans cx.out) (fun w s => load_str w _ _ _ s)) ?_
                        refine tk 14 rfl ?_
                        refine tkL 15 rfl (yieldsIf_load_cell (by rfl) 9 (.tmp 152) rfl bl 1 rfl _ (fun _ s => (s.cell (p := ⟨bl, 1, none⟩) hbb.out.2 id).trans cn.out) (fun w s => load_str w _ _ _ s)) ?_
                        refine stepL 13 rfl (by kernel_rfl) (fun K hK => ?_)
                        go_simp
                        (refine (rValue_c _ a 2 Nm ⟨#[97, 114, 101, 97]⟩ VA _ (Lib.hid (hvj.out.keep hHeld)) hlta' hla hra hVA').mono ?_; rintro e we ⟨rfl, ke⟩; have ke' := Lib.hid ke; clear ke)
                        go_wp2_with fail
                        refine hK.out _ _ ((hHeld.trans ke'.out)) (fun hHeld => ?_)
                        clear hK K
                        try simp only [Act.put, sA, sZ, sS]
                        refine tk 16 rfl ?_
                        cases za with
                        | false =>
                          refine tk 17 rfl ?_
                          refine tk 18 rfl ?_
                          refine tkS 19 rfl ?_
                          refine tkS 20 rfl ?_
                          refine tkS 21 rfl ?_
                          refine tkS 22 rfl ?_
                          refine tkS 23 rfl ?_
                          refine tkS 24 rfl ?_
                          refine tkS 25 rfl ?_
                          refine tkS 26 rfl ?_
                          refine tkS 27 rfl ?_
                          refine tk 28 rfl ?_
                          refine wpAnyH_done (by kernel_rfl) (NoPanic.normal ?_) _
                          have hK := Lib.hid hHeld
                          clear hHeld
                          go_wp2_with fail
                          go_meet
                          case rel => exact ⟨rfl, hK⟩
                        | true =>
                          refine tk 17 rfl ?_
                          refine tk 18 rfl ?_
                          refine tk 19 rfl ?_
                          refine tk 20 rfl ?_
                          refine tk 21 rfl ?_
                          refine tk 22 rfl ?_
                          refine tkL 23 rfl (yieldsIf_load_cell (by rfl) 9 (.tmp 160) rfl gx (ox + j) rfl _ (fun _ s => (s.cell (p := ⟨gx, ox + j, none⟩) hbb.out.1 id).trans cx.out) (fun w s => load_str w _ _ _ s)) ?_
                          refine tk 25 rfl ?_
                          refine tkL 26 rfl (yieldsIf_load_cell (by rfl) 9 (.tmp 163) rfl bl 1 rfl _ (fun _ s => (s.cell (p := ⟨bl, 1, none⟩) hbb.out.2 id).trans cn.out) (fun w s => load_str w _ _ _ s)) ?_
                          refine stepL 24 rfl (by kernel_rfl) (fun K hK => ?_)
                          go_simp
                          (refine (rValue_c _ b 2 Nm ⟨#[97, 114, 101, 97]⟩ VB _ (Lib.hid (huj.out.keep hHeld)) hltb' hlb hrb hVB').mono ?_; rintro e we ⟨rfl, ke⟩; have ke' := Lib.hid ke; clear ke)
                          go_wp2_with fail
                          refine hK.out _ _ ((hHeld.trans ke'.out)) (fun hHeld => ?_)
                          clear hK K
                          try simp only [Act.put, sA, sZ, sS]
                          refine tk 27 rfl ?_
                          refine tk 28 rfl ?_
                          refine wpAnyH_done (by kernel_rfl) (NoPanic.normal ?_) _
                          have hK := Lib.hid hHeld
                          clear hHeld
                          cases zb with
                          | false =>
                            go_wp2_with fail
                            go_meet
                            case rel => exact ⟨rfl, hK⟩
                          | true =>
                            go_wp2_with fail
                            go_meet
                            case rel => exact ⟨rfl, hK⟩
                    case rest =>
                      obtain ⟨rfl, hk1⟩ := hcut
                      have hS2 := Lib.hid (hSj.out.keep hk1.out)
                      have hB2 := Lib.hid (hBj.out.keep hk1.out id)
                      have c5 : wc.cell? ⟨gx, ox + j, none⟩ = some (.string Nm) := (hk1.out.cell (p := ⟨gx, ox + j, none⟩) hbb.out.1 id).trans cx.out
                      generalize hgz : wc = w2 at hS2 hB2 c5 ⊢
                      clear hgz hk1 hSj hBj hvj huj hYj cx cn ea eb hzy' hVA' hVB'
                      obtain ⟨zz, hzz⟩ : ∃ z, (zy && (za && zb)) = z := ⟨_, rfl⟩
                      rw [hzz]
                      rw [hzz] at hhit
                      clear hzz
                      cases zz with
                      | false =>
                        have hK1 : Hid (MapsS w3 w2 r1 r2 (cs.length + 64 * m + (j + 1)) cs.length (kOf (P ++ (X.take (j + 1)).flatMap (ins2x a b Y ch))) (cs.flatMap areaI)) := Lib.hid (by
                          rw [hst.out]
                          unfold ins2x
                          rw [hhit.out, if_neg (by decide), List.append_nil]
                          exact hS2.out.mono (by omega) (Nat.le_refl _))
                        clear hS2 hst hhit
                        go_wp2_with fail
                        exact ⟨⟨j + 1, by omega, by go_num, hK1, hB2⟩, by simp [intOf]; omega⟩
                      | true =>
                        have hKe : Hid (kOf (P ++ (X.take (j + 1)).flatMap (ins2x a b Y ch)) = updK (kOf (P ++ (X.take j).flatMap (ins2x a b Y ch))) x (minO (kOf (P ++ (X.take j).flatMap (ins2x a b Y ch)) x) 5)) := Lib.hid (by
                          rw [hst.out]
                          unfold ins2x
                          rw [hhit.out, if_pos rfl]
                          exact kOf_snoc _ _ _)
                        rw [← hNmx.out] at hKe
                        obtain ⟨K, hK⟩ : ∃ K, kOf (P ++ (X.take j).flatMap (ins2x a b Y ch)) = K := ⟨_, rfl⟩
                        rw [hK] at hS2 hKe
                        have hlo := hS2.out.kat.look Nm hNs.out
                        obtain ⟨v0, hv0⟩ : ∃ v, (K Nm.data.toList).getD 0 = v := ⟨_, rfl⟩
                        obtain ⟨z0, hz0⟩ : ∃ v, (K Nm.data.toList).isSome = v := ⟨_, rfl⟩
                        rw [hv0, hz0] at hlo
                        have hmin : Hid (minO (K Nm.data.toList) 5 = if z0 = true then (if 5 < v0 then 5 else v0) else 5) := Lib.hid (by
                          cases hk : K Nm.data.toList with
                          | none => rw [hk] at hz0; rw [← hz0]; rfl
                          | some j => rw [hk] at hz0 hv0; rw [← hz0, ← hv0]; rfl)
                        have hKn : Hid (z0 = true → K Nm.data.toList = some v0) := Lib.hid (fun e => by
                          cases hk : K Nm.data.toList with
                          | none => rw [hk] at hz0; rw [← hz0] at e; cases e
                          | some j => rw [hk] at hv0; rw [← hv0]; rfl)
                        have hfin : Hid (∀ wx N1, N1 ≤ cs.length + 64 * m + (j + 1) → MapsS w3 wx r1 r2 N1 cs.length (updK K Nm.data.toList (if z0 = true then (if 5 < v0 then 5 else v0) else 5)) (cs.flatMap areaI) → MapsS w3 wx r1 r2 (cs.length + 64 * m + (j + 1)) cs.length (kOf (P ++ (X.take (j + 1)).flatMap (ins2x a b Y ch))) (cs.flatMap areaI)) := Lib.hid (fun wx N1 hN h => by
                          rw [hKe.out, hmin.out]; exact h.mono hN (Nat.le_refl _))
                        obtain ⟨w6, hmu, hS6⟩ := hS2.out.put (by omega) Nm hNs.out 5 (wf_small (by omega) (by omega))
                        have hS6' := Lib.hid hS6
                        have hmu' := Lib.hid hmu
                        have hk6 : Hid (Keeps (fun i => i = r1) w2 w6) := Lib.hid (by
                          obtain ⟨w7, e6, -, k6⟩ := hS2.out.kat.put (by omega) Nm hNs.out 5 (wf_small (by omega) (by omega))
                          rw [hmu] at e6
                          injection e6 with e6 e7
                          rw [e7]; exact k6)
                        have hB6 : Hid (BlkAt w6 bl 48 [.int .i64 H, .string N, .string F, .string V]) := Lib.hid (hB2.out.keep hk6.out (fun e => by have := hbl.out; omega))
                        clear hv0 hz0 hK hmin hmu hS6 hk6 hst hhit hKe
                        go_upto_region 33 with fail
                        have hput : Hid (z0 = false ∨ 5 < v0 → MapsS w3 w6 r1 r2 (cs.length + 64 * m + (j + 1)) cs.length (kOf (P ++ (X.take (j + 1)).flatMap (ins2x a b Y ch))) (cs.flatMap areaI)) := Lib.hid (fun e => hfin.out _ _ (Nat.le_refl _) (by
                          rcases e with e | e
                          · rw [e, if_neg (by decide)]; exact hS6'.out
                          · rw [if_pos e]
                            have h : (if z0 = true then (5 : Int) else 5) = 5 := by split <;> rfl
                            rw [h]; exact hS6'.out))
                        clear hS6'
                        cases z0 with
                        | false =>
                          have hK1 := Lib.hid (hput.out (.inl rfl))
                          have hmu := hmu'.out
                          clear hput hfin hKn hS2
                          go_wp2_with fail
                          exact ⟨⟨j + 1, by omega, by go_num, hK1, hB6⟩, by simp [intOf]; omega⟩
                        | true =>
                          by_cases hlt : 5 < v0
                          · have hK1 := Lib.hid (hput.out (.inr hlt))
                            have hmu := hmu'.out
                            clear hput hfin hKn hS2
                            go_wp2_with fail
                            exact ⟨⟨j + 1, by omega, by go_num, hK1, hB6⟩, by simp [intOf]; omega⟩
                          · have hK1 : Hid (MapsS w3 w2 r1 r2 (cs.length + 64 * m + (j + 1)) cs.length (kOf (P ++ (X.take (j + 1)).flatMap (ins2x a b Y ch))) (cs.flatMap areaI)) := Lib.hid (hfin.out _ _ (Nat.le_succ _) (by
                              rw [if_pos rfl, if_neg hlt]
                              have h : updK K Nm.data.toList v0 = K := by
                                funext m
                                unfold updK
                                by_cases e : m = Nm.data.toList
                                · rw [if_pos e, e, hKn.out rfl]
                                · rw [if_neg e]
                              rw [h]; exact hS2.out))
                            clear hput hfin hKn hmu' hB6
                            go_wp2_with fail
                            exact ⟨⟨j + 1, by omega, by go_num, hK1, hB2⟩, by simp [intOf]; omega⟩
                  · have q4 : ¬ (j : Int) < (X.length : Int) := by omega
                    have hK1 : Hid (MapsS w3 wr r1 r2 (cs.length + 64 * (m + 1)) cs.length (kOf (cs.flatMap (ins1 X Y) ++ (cs.take (m + 1)).flatMap (ins2 a b X Y))) (cs.flatMap areaI)) := Lib.hid (by
                      rw [hstX.out]
                      have h := hSj.out
                      rw [List.take_of_length_le (by omega)] at h
                      exact h.mono (by omega) (Nat.le_refl _))
                    clear hSj hS1' hBj
                    go_wp2_with fail
                    exact ⟨⟨m + 1, by omega, by go_num, hK1⟩, by simp [intOf]; omega⟩
        · have q5 : ¬ (m : Int) < (cs.length : Int) := by omega
          obtain ⟨KK, hKK⟩ : ∃ K, kOf (allP a b cs) = K := ⟨_, rfl⟩
          obtain ⟨RR, hRR⟩ : ∃ R, cs.flatMap areaI = R := ⟨_, rfl⟩
          have hP2 : Hid (MapsS w3 wr r1 r2 100000 1000 KK RR) := Lib.hid (by
            have h := hS.out
            rw [List.take_of_length_le (show cs.length ≤ m by omega)] at h
            rw [← hKK, ← hRR]
            unfold allP
            rw [hX'.out, hY'.out]
            exact h.mono (by omega) (by omega))
          have hKK' := Lib.hid hKK
          have hRR' := Lib.hid hRR
          clear hS hlm hm hP1 hKK hRR
          obtain ⟨w6, rfl⟩ : ∃ x, x = wr := ⟨_, rfl⟩
          go_wp2_with fail
          go_loopw [23, 22] (fun qv ov wr => ∃ (qq : Nat) (O : List ActD) (po : Option Addr) (co : Nat), 1 ≤ qq ∧ qq ≤ 10 ∧ qv = .int .i64 qq ∧ ov = .slice po O.length co ∧ O.length ≤ 200000 * qq ∧ Hid (StrictA O ∧ ∀ x, x ∈ O ↔ (1 ≤ x.kind ∧ x.kind < (qq : Int) ∧ (KK x.name = some x.kind ∨ (x.kind = 7 ∧ x.name ∈ RR)))) ∧ Hid (OwnR 43 2 aVals w3 wr ov O) ∧ Hid (MapsS w3 wr r1 r2 100000 1000 KK RR)) (fun qv _ _ => 10 - (intOf qv).toNat)
          case atStart => exact ⟨1, [], none, 0, by omega, by omega, rfl, rfl, by simp, Lib.hid ⟨List.Pairwise.nil, fun x => ⟨fun h => by simp at h, fun h => by omega⟩⟩, Lib.hid (OwnR.nil _ _ hP2.out.k.size), hP2⟩
          case round =>
            obtain ⟨qq, O, po, co, hq1, hq2, rfl, rfl, hOl, hOm, hO, hM⟩ := hrel
            by_cases hlq : qq < 10
            · as_aux_lemma =>
                have q6 : (qq : Int) < 10 := by omega
                obtain ⟨w7, cnt, hrun, hR, hcnt, k7, hs7⟩ := hM.out.kat.range
                have hOM : Hid (OutM w3 w7 r1 r2 KK RR (.slice po O.length co) (.slice none 0 0) O []) := Lib.hid ⟨hM.out.keep k7, hO.out.keep k7 (fun _ _ f => f), OwnR.nil _ _ (hM.out.keep k7).k.size⟩
                have hR' := Lib.hid hR
                have hir : Hid (w3.heap.size ≤ wr.heap.size) := Lib.hid hM.out.k.size
                clear hR k7 hs7 hO hM
                generalize hgi : wr.heap.size = ir at hrun hR' hir ⊢
                go_wp2_with fail
                clear hrun hgi
                have hCa : Hid (Came KK (fun x => (KK x).isSome) (qq : Int) []) := Lib.hid (Came.start _ _)
                go_loopw [24] (fun nv wr => ∃ (ns : List (List UInt8)) (pn : Option Addr) (cn : Nat) (L : List UInt8 → Bool) (cnt : Nat), nv = .slice pn ns.length cn ∧ ns.length + cnt ≤ 100000 ∧ Hid (Came KK L (qq : Int) ns) ∧ Hid (OutM w3 wr r1 r2 KK RR (.slice po O.length co) nv O ns) ∧ Hid (KRng wr r1 ir 100000 KK L cnt)) (fun _ wr => wr.rangeLeft r1 ir)
                case atStart => exact ⟨[], none, 0, _, cnt, rfl, by simpa using hcnt, hCa, hOM, hR'⟩
                case round =>
                  obtain ⟨ns, pn, cn, L, cnt1, rfl, hnl, hCm, hOn, hRg⟩ := hrel
                  rcases hRg.out.next 0 with ⟨h0, hL, hnx⟩ | ⟨Xn, kx, w8, cnt2, hxs, hLx, hKx, hnx, hRg2, hlt, hk8, hs8, hen⟩
                  · have hns : Hid (∀ x, x ∈ ns ↔ KK x = some (qq : Int)) := Lib.hid (hCm.out.stop hL)
                    have hnl2 : ns.length ≤ 100000 := by omega
                    clear h0 hL hCm hRg hnl hCa hOM hR' hcnt
                    obtain ⟨w9, rfl⟩ : ∃ x, x = wr := ⟨_, rfl⟩
                    obtain ⟨w10, cnta, hrun, hRa, hcnta, k10, hs10⟩ := hOn.out.m.aat.range
                    have hOa : Hid (OutM w3 w10 r1 r2 KK RR (.slice po O.length co) (.slice pn ns.length cn) O ns) := Lib.hid (hOn.out.keep k10)
                    have hRa' := Lib.hid hRa
                    have hir2 : Hid (w3.heap.size ≤ w9.heap.size) := Lib.hid hOn.out.m.k.size
                    clear hRa k10 hs10 hOn
                    generalize hgi : w9.heap.size = ir2 at hrun hRa' hir2 ⊢
                    go_wp2_with fail
                    clear hrun hgi hnx
                    have hCa : Hid (Came2 ns RR (fun x => decide (x ∈ RR)) (qq : Int) ns) := Lib.hid (Came2.start _ _ _)
                    go_loopw [24] (fun nv wr => ∃ (nt : List (List UInt8)) (pn : Option Addr) (cn : Nat) (L : List UInt8 → Bool) (cnt : Nat), nv = .slice pn nt.length cn ∧ nt.length + cnt ≤ 101000 ∧ Hid (Came2 ns RR L (qq : Int) nt) ∧ Hid (OutM w3 wr r1 r2 KK RR (.slice po O.length co) nv O nt) ∧ Hid (ARng wr r2 ir2 1000 RR L cnt)) (fun _ wr => wr.rangeLeft r2 ir2)
                    case atStart => exact ⟨ns, pn, cn, _, cnta, rfl, by omega, hCa, hOa, hRa'⟩
                    case round =>
                      obtain ⟨nt, pt, ct, L, cnt1, rfl, htl, hCm, hOn, hRg⟩ := hrel
                      rcases hRg.out.next 0 with ⟨h0, hL, hnx⟩ | ⟨Xn, bx, w8, cnt2, hxs, hLx, hKx, hnx, hRg2, hlt, hk8, hs8, hen⟩
                      · have hnt : Hid (∀ x, x ∈ nt ↔ (KK x = some (qq : Int) ∨ ((qq : Int) = 7 ∧ x ∈ RR))) := Lib.hid (fun x => by rw [hCm.out.stop hL x, hns.out x])
                        have htl2 : nt.length ≤ 101000 := by omega
                        clear h0 hL hCm hRg htl hCa hOa hRa' hcnta hns hnl2
                        obtain ⟨w11, rfl⟩ : ∃ x, x = wr := ⟨_, rfl⟩
                        have hPk : Hid (Pick (qq : Int) (fun x => KK x.name = some x.kind ∨ (x.kind = 7 ∧ x.name ∈ RR)) O nt) := Lib.hid (Pick.start hOm.out.1 hOm.out.2 (by omega) (fun n => by rw [hnt.out n]))
                        clear hnt hOm
                        go_wp2_with fail
                        clear hnx
                        go_loopw [24, 22] (fun nv ov wr => ∃ (ns : List (List UInt8)) (pn : Option Addr) (cn : Nat) (O : List ActD) (po : Option Addr) (co : Nat), nv = .slice pn ns.length cn ∧ ov = .slice po O.length co ∧ ns.length ≤ 101000 ∧ O.length + ns.length ≤ 200000 * qq + 101000 ∧ Hid (Pick (qq : Int) (fun x => KK x.name = some x.kind ∨ (x.kind = 7 ∧ x.name ∈ RR)) O ns) ∧ Hid (OutM w3 wr r1 r2 KK RR ov nv O ns)) (fun nv _ _ => lenV nv)
                        case atStart => exact ⟨nt, pt, ct, O, po, co, rfl, rfl, htl2, by omega, hPk, hOn⟩
                        case round =>
                          obtain ⟨ns2, pn, cn, O2, po2, co2, rfl, rfl, hnl3, hol3, hP2, hO2⟩ := hrel
                          by_cases hn0 : 0 < ns2.length
                          · have hnn := hO2.out.n.at nv1_len
                            have hOo := Lib.hid (hO2.out.o.at aVals_len)
                            obtain ⟨gn, on, rfl, hrn⟩ := hnn.open hn0
                            obtain ⟨w12, rfl⟩ : ∃ x, x = wr := ⟨_, rfl⟩
                            have hcell : Hid (∀ i x, ns2[i]? = some x → w12.cell? ⟨gn, on + i, none⟩ = some (strv x)) := Lib.hid (fun i x hx => by
                              have h := hrn i x hx 0 _ rfl
                              rw [Nat.mul_one, Nat.add_zero] at h; exact h)
                            have hgb : Hid (gn < w12.heap.size) := Lib.hid (by
                              obtain ⟨x, hx⟩ : ∃ x, ns2[0]? = some x := ⟨_, List.getElem?_eq_getElem hn0⟩
                              exact World.block_lt_of_cell? w12 _ (hcell.out 0 x hx))
                            have n1 : (0 : Int) < (ns2.length : Int) := by omega
                            clear hnn hrn
                            go_wp2_with fail
                            go_loopw [29, 28] (fun iv av wr => ∃ (i at_ : Nat), i ≤ ns2.length ∧ at_ < ns2.length ∧ iv = .int .i64 i ∧ av = .int .i64 at_ ∧ Hid (∀ j x m, j < i → ns2[j]? = some x → ns2[at_]? = some m → Op.bytesLess x m = false) ∧ Hid (Keeps (fun _ => False) w12 wr)) (fun iv _ _ => ns2.length - (intOf iv).toNat)
                            case atStart => exact ⟨0, 0, by omega, hn0, rfl, rfl, Lib.hid (fun j x m h => by omega), Lib.hid (Keeps.refl _ _)⟩
                            case round =>
                              obtain ⟨i, at_, hi, hat, rfl, rfl, hmn, hki⟩ := hrel
                              obtain ⟨mm, hmm⟩ : ∃ x, ns2[at_]? = some x := ⟨_, List.getElem?_eq_getElem hat⟩
                              obtain ⟨Mb, hMb⟩ : ∃ N : ByteArray, N = ⟨mm.toArray⟩ := ⟨_, rfl⟩
                              have hMl : Hid (Mb.data.toList = mm) := Lib.hid (by rw [hMb])
                              have cm : Hid (w12.cell? ⟨gn, on + at_, none⟩ = some (.string Mb)) := Lib.hid (by rw [hMb]; exact hcell.out at_ mm hmm)
                              have hmm' := Lib.hid hmm
                              have a1 : (0 : Int) ≤ (at_ : Int) := by omega
                              have a2 : (at_ : Int) < (ns2.length : Int) := by omega
                              clear hMb hmm
                              by_cases hli : i < ns2.length
                              · obtain ⟨x, hx⟩ : ∃ x, ns2[i]? = some x := ⟨_, List.getElem?_eq_getElem hli⟩
                                obtain ⟨Xb, hXb⟩ : ∃ N : ByteArray, N = ⟨x.toArray⟩ := ⟨_, rfl⟩
                                have hXbl : Hid (Xb.data.toList = x) := Lib.hid (by rw [hXb])
                                have cx : Hid (w12.cell? ⟨gn, on + i, none⟩ = some (.string Xb)) := Lib.hid (by rw [hXb]; exact hcell.out i x hx)
                                have hx' := Lib.hid hx
                                obtain ⟨zl, hzl⟩ : ∃ z, Op.bytesLess x mm = z := ⟨_, rfl⟩
                                have e1 : Op.bytesLess Xb.toList Mb.toList = zl := by rw [Lib.toList_data, Lib.toList_data, hXbl.out, hMl.out]; exact hzl
                                have hzl' := Lib.hid hzl
                                have i1 : (0 : Int) ≤ (i : Int) := by omega
                                have i2 : (i : Int) < (ns2.length : Int) := by omega
                                clear hXb hx hzl
                                go_upto_region 55 with fail
                                refine wp_region_noPanic ?_
                                refine wp_region_held_drew (S := (fun W => Keeps (fun _ => False) wr W)) (by kernel_rfl) (((Keeps.refl _ _).drew)) (fun hHeld => ?_)
                                refine tk 0 rfl ?_
                                refine tk 1 rfl ?_
                                refine tk 2 rfl ?_
                                refine tkL 3 rfl (yieldsIf_load_cell (by rfl) 9 (.tmp 228) rfl gn (on + i) rfl _ (fun _ s => ((hki.out.trans s).cell (p := ⟨gn, on + i, none⟩) hgb.out id).trans cx.out) (fun w s => load_str w _ _ _ s)) ?_
                                refine tk 4 rfl ?_
                                refine tk 5 rfl ?_
                                refine tk 6 rfl ?_
                                refine tkL 7 rfl (yieldsIf_load_cell (by rfl) 9 (.tmp 232) rfl gn (on + at_) rfl _ (fun _ s => ((hki.out.trans s).cell (p := ⟨gn, on + at_, none⟩) hgb.out id).trans cm.out) (fun w s => load_str w _ _ _ s)) ?_
                                refine tk 8 rfl ?_
                                refine wpAnyH_done (by kernel_rfl) (NoPanic.normal ?_) _
                                have hk2 := Lib.hid (hki.out.trans hHeld)
                                clear hHeld hki cx cm e1
                                cases zl with
                                | true =>
                                  have hm2 : Hid (∀ j y z, j < i + 1 → ns2[j]? = some y → ns2[i]? = some z → Op.bytesLess y z = false) := Lib.hid (fun j y z hj hy hz => by
                                    have ez : z = x := by have h := hx'.out; rw [hz] at h; injection h
                                    subst ez
                                    by_cases e : j = i
                                    · subst e
                                      rw [hz] at hy; injection hy with hy; subst hy; exact bl_irr _
                                    · have h := hmn.out j y mm (by omega) hy hmm'.out
                                      cases h3 : Op.bytesLess y z with
                                      | false => rfl
                                      | true => rw [bl_trans h3 hzl'.out] at h; cases h)
                                  clear hmn hzl'
                                  go_wp2_with fail
                                  exact ⟨⟨i + 1, i, by omega, hli, by go_num, rfl, hm2, hk2⟩, by simp [intOf]; omega⟩
                                | false =>
                                  have hm2 : Hid (∀ j y z, j < i + 1 → ns2[j]? = some y → ns2[at_]? = some z → Op.bytesLess y z = false) := Lib.hid (fun j y z hj hy hz => by
                                    by_cases e : j = i
                                    · subst e
                                      have e1 : y = x := by have h := hx'.out; rw [hy] at h; injection h
                                      have e2 : z = mm := by have h := hmm'.out; rw [hz] at h; injection h
                                      rw [e1, e2]; exact hzl'.out
                                    · exact hmn.out j y z (by omega) hy hz)
                                  clear hmn hzl'
                                  go_wp2_with fail
                                  exact ⟨⟨i + 1, at_, by omega, hat, by go_num, rfl, hm2, hk2⟩, by simp [intOf]; omega⟩
                              · have hmin : Hid (∀ n ∈ ns2, Op.bytesLess n mm = false) := Lib.hid (fun n hn => by
                                  obtain ⟨j, hj⟩ := List.getElem?_of_mem hn
                                  have hjl := (List.getElem?_eq_some_iff.1 hj).1
                                  exact hmn.out j n mm (by omega) hj hmm'.out)
                                have i2 : ¬ (i : Int) < (ns2.length : Int) := by omega
                                have hO3 := Lib.hid (hO2.out.keep hki.out)
                                have cm3 : Hid (wr.cell? ⟨gn, on + at_, none⟩ = some (.string Mb)) := Lib.hid ((hki.out.cell (p := ⟨gn, on + at_, none⟩) hgb.out id).trans cm.out)
                                have hgb3 : Hid (gn < wr.heap.size) := Lib.hid (Nat.lt_of_lt_of_le hgb.out hki.out.size)
                                have hOo3 := Lib.hid (hOo.out.keep hki.out)
                                clear hli hi hmn hO2 hki cm hcell hgb hOo
                                obtain ⟨w13, rfl⟩ : ∃ x, x = wr := ⟨_, rfl⟩
                                go_upto_region 57 with fail
                                obtain ⟨zn, hzn⟩ : ∃ z : Bool, z = true ↔ ¬ (O2.getLast? = some ⟨(qq : Int), mm⟩) := by
                                  by_cases h : O2.getLast? = some ⟨(qq : Int), mm⟩
                                  · exact ⟨false, by simp [h]⟩
                                  · exact ⟨true, by simp [h]⟩
                                have hzn' := Lib.hid hzn
                                clear hzn
                                go_cut [253] (fun tv wx => tv = .bool zn ∧ Hid (Keeps (fun _ => False) w13 wx))
                                case first =>
                                  by_cases ho0 : O2 = []
                                  · obtain rfl := ho0
                                    have hz1 : zn = true := hzn'.out.2 (fun h => by cases h)
                                    refine wp_region_noPanic ?_
                                    refine wp_region_held_drew (S := (fun W => Keeps (fun _ => False) w13 W)) (by kernel_rfl) (((Keeps.refl _ _).drew)) (fun hHeld => ?_)
                                    refine tk 0 rfl ?_
                                    refine tk 1 rfl ?_
                                    refine tk 2 rfl ?_
                                    refine tk 3 rfl ?_
                                    refine tkS 4 rfl ?_
                                    refine tkS 5 rfl ?_
                                    refine tkS 6 rfl ?_
                                    refine tkS 7 rfl ?_
                                    refine tkS 8 rfl ?_
                                    refine tkS 9 rfl ?_
                                    refine tkS 10 rfl ?_
                                    refine tkS 11 rfl ?_
                                    refine tkS 12 rfl ?_
                                    refine tkS 13 rfl ?_
                                    refine tkS 14 rfl ?_
                                    refine tkS 15 rfl ?_
                                    refine tkS 16 rfl ?_
                                    refine tk 17 rfl ?_
                                    refine wpAnyH_done (by kernel_rfl) (NoPanic.normal ?_) _
                                    have hK := Lib.hid hHeld
                                    clear hHeld
                                    go_wp2_with fail
                                    go_meet
                                    case rel => exact ⟨by rw [hz1], hK⟩
                                  · have hol : 0 < O2.length := List.length_pos_iff.2 ho0
                                    obtain ⟨go, oo, rfl, hro⟩ := hOo3.out.open hol
                                    obtain ⟨y, hy⟩ : ∃ y, O2[O2.length - 1]? = some y := ⟨_, List.getElem?_eq_getElem (by omega)⟩
                                    obtain ⟨Yb, hYb⟩ : ∃ N : ByteArray, N = ⟨y.name.toArray⟩ := ⟨_, rfl⟩
                                    have hrow : Hid (w13.rangeAt go (oo + (O2.length - 1) * 2) [.int .i64 y.kind, .string Yb]) := Lib.hid (by rw [hYb]; exact hro _ y hy)
                                    have hlast : O2.getLast? = some y := by rw [List.getLast?_eq_getElem?]; exact hy
                                    have hzz : Hid ((zn = false) ↔ (y.kind = (qq : Int) ∧ Yb.toList = Mb.toList)) := Lib.hid (by
                                      rw [Lib.toList_data, Lib.toList_data, hMl.out, hYb]
                                      have h := hzn'.out
                                      rw [hlast] at h
                                      constructor
                                      · intro e
                                        have h2 : some y = some ⟨(qq : Int), mm⟩ := Classical.byContradiction fun hn => by have := h.2 hn; rw [e] at this; cases this
                                        injection h2 with h2
                                        rw [h2]; exact ⟨rfl, rfl⟩
                                      · rintro ⟨e1, e2⟩
                                        cases hz : zn with
                                        | false => rfl
                                        | true =>
                                          exfalso
                                          refine h.1 hz ?_
                                          obtain ⟨yk, yn⟩ := y
                                          have e1 : yk = (qq : Int) := e1
                                          have e2 : yn = mm := e2
                                          rw [e1, e2])
                                    have hzz' : Hid (∀ wS : World, (binOp .neq 43 (.agg #[.int .i64 y.kind, .string Yb]) (.agg #[.int .i64 (qq : Int), .string Mb])).run Tryz.prog wS = .ok (.bool zn) wS) := Lib.hid (fun wS => act_neqb17 wS y.kind (qq : Int) Yb Mb zn hzz.out)
                                    have o1 : ((O2.length : Int) == 0) = false := by simp; omega
                                    have o2 : (0 : Int) ≤ (O2.length : Int) - 1 := by omega
                                    have o3 : (O2.length : Int) - 1 < (O2.length : Int) := by omega
                                    have o5 : IntKind.i64.wrap ((O2.length : Int) - 1) = (O2.length : Int) - 1 := IntWalk.i64_in _ (by omega)
                                    have o6 : (1 : Int) ≤ (O2.length : Int) := by omega
                                    have o4 : ((O2.length : Int) - 1).toNat = O2.length - 1 := by omega
                                    clear hro hy hYb hlast hzz hol ho0
                                    refine wp_region_noPanic ?_
                                    refine wp_region_held_drew (S := (fun W => Keeps (fun _ => False) w13 W)) (by kernel_rfl) (((Keeps.refl _ _).drew)) (fun hHeld => ?_)
                                    refine tk 0 rfl ?_
                                    refine tk 1 rfl ?_
                                    refine tk 2 rfl ?_
                                    refine tk 3 rfl ?_
                                    refine tk 4 rfl ?_
                                    refine tk 5 rfl ?_
                                    refine tk 6 rfl ?_
                                    refine tk 7 rfl ?_
                                    refine tk 8 rfl ?_
                                    refine tkL 9 rfl (yieldsIf_load_mid (by rfl) 43 (.tmp 244) rfl go (oo + (O2.length - 1) * 2) rfl [.int .i64 y.kind, .string Yb] _ (fun _ s => s.rangeAt hrow.out id) Tryz.underlying43 rfl actInfo17) ?_
                                    refine tk 10 rfl ?_
                                    refine tk 11 rfl ?_
                                    refine tk 12 rfl ?_
                                    refine tk 13 rfl ?_
                                    refine tkL 14 rfl (yieldsIf_load_cell (by rfl) 9 (.tmp 249) rfl gn (on + at_) rfl _ (fun _ s => (s.cell (p := ⟨gn, on + at_, none⟩) hgb3.out id).trans cm3.out) (fun w s => load_str w _ _ _ s)) ?_
                                    refine tk 15 rfl ?_
                                    refine tk 16 (v := .bool zn) (hy := fun wS hSw => by
                                      have hl := hzz'.out wS
                                      unfold execOp
                                      simp only [Act.eval, Array.getD_eq_getD_getElem?, List.getElem?_toArray, List.getElem?_cons_zero, List.getElem?_cons_succ, Option.getD_some, Sem.run_bind, Sem.run_pure, Result.andThen_ok, guardAct17, hl]) rfl ?_
                                    refine tk 17 rfl ?_
                                    refine wpAnyH_done (by kernel_rfl) (NoPanic.normal ?_) _
                                    have hK := Lib.hid hHeld
                                    clear hHeld
                                    go_wp2_with fail
                                    go_meet
                                    case rel => exact ⟨rfl, hK⟩
                                case rest =>
                                  obtain ⟨rfl, hk1⟩ := hcut
                                  have hO4 := Lib.hid (hO3.out.keep hk1.out)
                                  have cm4 : Hid (wc.cell? ⟨gn, on + at_, none⟩ = some (.string Mb)) := Lib.hid ((hk1.out.cell (p := ⟨gn, on + at_, none⟩) hgb3.out id).trans cm3.out)
                                  generalize hgz : wc = w14 at hO4 cm4 ⊢
                                  clear hgz hk1 hO3 cm3 hgb3 hOo3
                                  have hPs := Lib.hid (hP2.out.step hmm'.out hmin.out zn hzn'.out)
                                  clear hP2 hmin hzn'
                                  go_upto_if 253 with fail
                                  go_cut [22] (fun ov wx => ∃ (O3 : List ActD) (p3 : Option Addr) (c3 : Nat), ov = .slice p3 O3.length c3 ∧ O3.length ≤ O2.length + 1 ∧ Hid (Pick (qq : Int) (fun x => KK x.name = some x.kind ∨ (x.kind = 7 ∧ x.name ∈ RR)) O3 (ns2.take at_ ++ ns2.drop (at_ + 1))) ∧ Hid (OutM w3 wx r1 r2 KK RR ov (.slice (some ⟨gn, on, none⟩) ns2.length cn) O3 ns2))
                                  case first =>
                                    cases zn with
                                    | false =>
                                      have hO5 := hO4
                                      go_wp2_with fail
                                      go_meet
                                      case rel => exact ⟨O2, po2, co2, rfl, by omega, Lib.hid (by have h := hPs.out; rw [if_neg (by decide), List.append_nil] at h; exact h), hO5⟩
                                    | true =>
                                      have cm5 := cm4.out
                                      have ho9 := Lib.hid (hO4.out.o.keep ((Keeps.refl (fun _ => False) _).alloc (.cells #[.int .i64 (qq : Int), .string Mb] 43)) (fun _ _ f => f))
                                      have hol5 : O2.length ≤ 1000000000 := by omega
                                      clear hol3
                                      go_wp2_with ((with_reducible refine at_slot 262 ?_); go_must (refine wpList_append_r rfl (.tmp 254) (.tmp 261) 31 43 rfl i0 _ 24 Tryz.underlying31 hi0 hi1 hi2 hi3 rfl (by decide) (by decide) aVals_len w3 _ O2.length O2 rfl rfl ho9.out _ rfl ⟨(qq : Int), Mb.data.toList⟩ (cells_new rfl [.int .i64 (qq : Int), .string Mb] _) (aVals_one _) (by omega) ?_); intro q8 d8 w9 hO9 hg9)
                                      have hOk := hO4.out.keep ((Keeps.refl (fun _ => False) _).alloc (.cells #[.int .i64 (qq : Int), .string Mb] 43))
                                      have hOm9 := hOk.more_o hg9.out hO9.out
                                      go_meet
                                      case rel => exact ⟨O2 ++ [⟨(qq : Int), Mb.data.toList⟩], q8, d8, by simp, by simp, Lib.hid (by have h := hPs.out; rw [hMl.out]; simpa using h), Lib.hid hOm9⟩
                                  case rest =>
                                    obtain ⟨O3, p4, c4, rfl, ho3, hP3, hO5⟩ := hcut
                                    generalize hgz : wc = w15 at hO5 ⊢
                                    clear hgz hPs hO4 cm4
                                    have hRo := Lib.hid (hO5.out.n.at nv1_len)
                                    have hTk := Lib.hid (hRo.out.take at_ (by omega))
                                    obtain ⟨pp, hpp⟩ : ∃ pp, (if cn = at_ + 1 then some (⟨gn, on, none⟩ : Addr) else some (⟨gn, on + (at_ + 1), none⟩ : Addr)) = pp := ⟨_, rfl⟩
                                    have hFr : Hid (RowsAt 1 nv1 w15 (.slice pp (ns2.length - (at_ + 1)) (cn - (at_ + 1))) (ns2.drop (at_ + 1))) := Lib.hid (by
                                      have h := hRo.out.from (at_ + 1) (by omega)
                                      rw [← hpp]
                                      have e : (if cn = at_ + 1 then some (⟨gn, on, none⟩ : Addr) else Option.map (fun x => x.add ((at_ + 1) * 1)) (some (⟨gn, on, none⟩ : Addr))) = (if cn = at_ + 1 then some (⟨gn, on, none⟩ : Addr) else some (⟨gn, on + (at_ + 1), none⟩ : Addr)) := by
                                        split
                                        · rfl
                                        · simp [Addr.add]
                                      rw [e] at h; exact h)
                                    have hpp' := Lib.hid hpp
                                    clear hpp
                                    have hE1 : Hid (OwnR 9 1 nv1 w15 ((w15.alloc (.cells #[] 9)).drew) (.slice (some ⟨w15.heap.size, 0, none⟩) 0 0) []) := Lib.hid ((own_newS0 w15 w15 (Nat.le_refl _)).keep ((Keeps.refl (fun _ => False) _).drew) (fun _ _ f => f))
                                    have k67 : Hid (Keeps (fun _ => False) w15 ((w15.alloc (.cells #[] 9)).drew)) := Lib.hid (((Keeps.refl (fun _ => False) w15).alloc _).drew)
                                    have h35 : Hid (w3.heap.size ≤ w15.heap.size) := Lib.hid hO5.out.m.k.size
                                    have hOa : Hid (OutM w3 ((w15.alloc (.cells #[] 9)).drew) r1 r2 KK RR (.slice p4 O3.length c4) (.slice (some ⟨w15.heap.size, 0, none⟩) 0 0) O3 []) := Lib.hid ⟨hO5.out.m.keep k67.out, hO5.out.o.keep k67.out (fun _ _ f => f), hE1.out.older h35.out⟩
                                    have hl1 : Hid ((ns2.take at_).length = at_) := Lib.hid (by rw [List.length_take]; omega)
                                    have hl2 : Hid ((ns2.drop (at_ + 1)).length = ns2.length - (at_ + 1)) := Lib.hid List.length_drop
                                    have b1 : (0 : Int) ≤ (at_ : Int) + 1 := by omega
                                    have b2 : (at_ : Int) + 1 ≤ (ns2.length : Int) := by omega
                                    have b3 : ((at_ : Int) + 1).toNat = at_ + 1 := by omega
                                    have b4 : IntKind.i64.wrap ((at_ : Int) + 1) = (at_ : Int) + 1 := IntWalk.i64_in _ (by omega)
                                    have b5 : (at_ : Int) ≤ (cn : Int) := by
                                      obtain ⟨p9, c9, e9, -, h9, -⟩ := hRo.out
                                      injection e9 with e1 e2 e3
                                      omega
                                    have hsz1 : Hid (([] : List (List UInt8)).length + (ns2.take at_).length ≤ 1000000000) := Lib.hid (by rw [hl1.out]; simp; omega)
                                    have hsz2 : Hid (([] ++ ns2.take at_ : List (List UInt8)).length + (ns2.drop (at_ + 1)).length ≤ 1000000000) := Lib.hid (by rw [List.length_append, hl1.out, hl2.out]; simp; omega)
                                    clear hO5 hRo
                                    go_upto_region 59 with fail
                                    refine wp_region_noPanic ?_
                                    refine wp_region_held_drew (S := (fun W => Keeps (fun _ => False) w15 W)) (by kernel_rfl) (((Keeps.refl _ _).drew)) (fun hHeld => ?_)
                                    refine tk 1 rfl ?_
                                    refine tk 2 rfl ?_
                                    refine tk 3 rfl ?_
                                    refine tk 5 rfl ?_
                                    refine tk 6 rfl ?_
                                    refine tk 7 rfl ?_
                                    refine tk 8 rfl ?_
                                    rw [hpp'.out]
                                    refine stepL 0 rfl (by kernel_rfl) (fun K hK => ?_)
                                    go_simp
                                    refine hK.out _ _ ((hHeld.alloc _)) (fun hHeld => ?_)
                                    clear hK K
                                    try simp only [Act.put, sA, sZ, sS]
                                    refine stepL 4 rfl (by kernel_rfl) (fun K hK => ?_)
                                    rw [if_pos (by rfl)]
                                    (refine wp_append_rows (.tmp 263) (.tmp 266) 38 9 rfl is _ 16 Tryz.underlying38 his0 his1 his2 his3 rfl (by decide) (by decide) nv1_len nv1_one w15 _ [] rfl hE1.out _ rfl (ns2.take at_) (hTk.out.keep k67.out) hsz1.out ?_; intro q8 d8 w8 hO8 hg8; have hO8' := Lib.hid hO8; have hK8 := Lib.hid (OwnR.keeps hE1.out k67.out hg8); have hOb := Lib.hid (hOa.out.more_n hg8 (hO8.older h35.out)); clear hO8 hg8)
                                    refine hK.out _ _ (hK8.out) (fun hHeld => ?_)
                                    clear hK K
                                    try simp only [Act.put, sA, sZ, sS]
                                    refine stepL 9 rfl (by kernel_rfl) (fun K hK => ?_)
                                    rw [if_pos (by rfl)]
                                    (refine wp_append_rows (.tmp 267) (.tmp 271) 38 9 rfl is _ 16 Tryz.underlying38 his0 his1 his2 his3 rfl (by decide) (by decide) nv1_len nv1_one w15 _ ([] ++ ns2.take at_) rfl hO8'.out _ rfl (ns2.drop (at_ + 1)) (hFr.out.keep hK8.out) hsz2.out ?_; intro q9 d9 w9 hO9 hg9; have hK9 := Lib.hid (OwnR.keeps hO8'.out hK8.out hg9); have hOc := Lib.hid (hOb.out.more_n hg9 (hO9.older h35.out)); clear hO9 hg9)
                                    refine hK.out _ _ (hK9.out) (fun hHeld => ?_)
                                    clear hK K
                                    try simp only [Act.put, sA, sZ, sS]
                                    have hns : Hid (([] ++ ns2.take at_) ++ ns2.drop (at_ + 1) = ns2.take at_ ++ ns2.drop (at_ + 1)) := Lib.hid (by rw [List.nil_append])
                                    obtain ⟨L, hL⟩ : ∃ L, ([] ++ ns2.take at_ : List (List UInt8)).length + (ns2.drop (at_ + 1)).length = L := ⟨_, rfl⟩
                                    have hL1 : L + 1 = ns2.length := by rw [← hL, List.length_append, hl1.out, hl2.out]; simp; omega
                                    have hL2 : Hid (L = (ns2.take at_ ++ ns2.drop (at_ + 1)).length) := Lib.hid (by rw [← hL, ← List.length_append, hns.out])
                                    rw [hL] at hOc ⊢
                                    rw [hns.out] at hOc
                                    clear hL
                                    refine tk 10 rfl ?_
                                    refine wpAnyH_done (by kernel_rfl) (NoPanic.normal ?_) _
                                    clear hHeld hK8 hK9 hO8' hOb hOa hE1 hTk hFr hsz1 hsz2 hns hl1 hl2
                                    go_wp2_with fail
                                    exact ⟨⟨ns2.take at_ ++ ns2.drop (at_ + 1), q9, d9, O3, p4, c4, by rw [hL2.out], rfl, by rw [← hL2.out]; omega, by rw [← hL2.out]; omega, hP3, hOc⟩, by simp [lenV]; omega⟩
                          · obtain rfl : ns2 = [] := List.eq_nil_of_length_eq_zero (by omega)
                            have hfin : Hid (StrictA O2 ∧ ∀ x, x ∈ O2 ↔ (1 ≤ x.kind ∧ x.kind < ((qq + 1 : Nat) : Int) ∧ (KK x.name = some x.kind ∨ (x.kind = 7 ∧ x.name ∈ RR)))) := Lib.hid ⟨hP2.out.s, fun x => by rw [hP2.out.stop x]; simp⟩
                            have hO3 := Lib.hid hO2.out.o
                            have hM3 := Lib.hid hO2.out.m
                            have hol4 : O2.length ≤ 200000 * (qq + 1) := by simp at hol3; omega
                            clear hP2 hO2 hPk hOn hn0 hol3
                            go_wp2_with fail
                            exact ⟨⟨qq + 1, O2, po2, co2, by omega, by omega, by go_num, rfl, hol4, hfin, hO3, hM3⟩, by simp [intOf]; omega⟩
                      · have hO8 := Lib.hid (hOn.out.iter hk8 hRg.out.iter_at hir2.out)
                        have hC8 := Lib.hid (hCm.out.step hKx)
                        have hRg8 := Lib.hid hRg2
                        have hle := hRg.out.left_eq
                        have hle' := Lib.hid hle
                        clear hLx hKx hRg2 hk8 hs8 hle hCm hOn
                        by_cases hkq : (qq : Int) = 7
                        · rw [if_pos hkq] at hC8
                          have e1 : ((qq : Int) == 7) = true := by simp [hkq]
                          have hn9 := Lib.hid (hO8.out.n.keep ((Keeps.refl (fun _ => False) _).alloc (.cells #[.string Xn] 9)) (fun _ _ f => f))
                          clear hkq
                          go_wp2_with ((with_reducible refine at_slot 216 ?_); go_must (refine wpList_append_r rfl (.tmp 213) (.tmp 215) 38 9 rfl is _ 16 Tryz.underlying38 his0 his1 his2 his3 rfl (by decide) (by decide) nv1_len w3 _ nt.length nt rfl rfl hn9.out _ rfl Xn.data.toList (cells_newS Xn rfl _) (nv1_one _) (by omega) ?_); intro q8 d8 w9 hO9 hg9)
                          have hOk := hO8.out.keep ((Keeps.refl (fun _ => False) _).alloc (.cells #[.string Xn] 9))
                          have hOm9 := hOk.more_n hg9.out hO9.out
                          have hRk := (hRg8.out.keep ((Keeps.refl (fun _ => False) _).alloc (.cells #[.string Xn] 9)) id id).grown hn9.out hg9.out
                          exact ⟨⟨nt ++ [Xn.data.toList], q8, d8, _, cnt2, by simp, by simp; omega, hC8, Lib.hid hOm9, Lib.hid hRk⟩, by rw [hRk.left_eq, hle'.out]; exact hlt⟩
                        · rw [if_neg hkq] at hC8
                          have e1 : ((qq : Int) == 7) = false := by simpa using hkq
                          clear hkq
                          go_wp2_with fail
                          exact ⟨⟨nt, pt, ct, _, cnt2, rfl, by omega, hC8, hO8, hRg8⟩, by rw [hRg8.out.left_eq, hle'.out]; exact hlt⟩
                  · have hO8 := Lib.hid (hOn.out.iter hk8 hRg.out.iter_at hir.out)
                    have hC8 := Lib.hid (hCm.out.step hLx hKx)
                    have hRg8 := Lib.hid hRg2
                    have hle := hRg.out.left_eq
                    have hle' := Lib.hid hle
                    clear hLx hKx hRg2 hk8 hs8 hle hCm hOn
                    by_cases hkq : kx = (qq : Int)
                    · rw [if_pos hkq] at hC8
                      have e1 : (kx == (qq : Int)) = true := by simp [hkq]
                      have hn9 := Lib.hid (hO8.out.n.keep ((Keeps.refl (fun _ => False) _).alloc (.cells #[.string Xn] 9)) (fun _ _ f => f))
                      clear hkq
                      go_wp2_with ((with_reducible refine at_slot 204 ?_); go_must (refine wpList_append_r rfl (.tmp 201) (.tmp 203) 38 9 rfl is _ 16 Tryz.underlying38 his0 his1 his2 his3 rfl (by decide) (by decide) nv1_len w3 _ ns.length ns rfl rfl hn9.out _ rfl Xn.data.toList (cells_newS Xn rfl _) (nv1_one _) (by omega) ?_); intro q8 d8 w9 hO9 hg9)
                      have hOk := hO8.out.keep ((Keeps.refl (fun _ => False) _).alloc (.cells #[.string Xn] 9))
                      have hOm9 := hOk.more_n hg9.out hO9.out
                      have hRk := (hRg8.out.keep ((Keeps.refl (fun _ => False) _).alloc (.cells #[.string Xn] 9)) id id).grown hn9.out hg9.out
                      exact ⟨⟨ns ++ [Xn.data.toList], q8, d8, _, cnt2, by simp, by simp; omega, hC8, Lib.hid hOm9, Lib.hid hRk⟩, by rw [hRk.left_eq, hle'.out]; exact hlt⟩
                    · rw [if_neg hkq] at hC8
                      have e1 : (kx == (qq : Int)) = false := by simpa using hkq
                      clear hkq
                      go_wp2_with fail
                      exact ⟨⟨ns, pn, cn, _, cnt2, rfl, by omega, hC8, hO8, hRg8⟩, by rw [hRg8.out.left_eq, hle'.out]; exact hlt⟩
            · have hO4 : Hid (OwnR 43 2 aVals w3 wr (.slice po O.length co) O) := hO
              have hqe : qq = 10 := by omega
              have q6 : ¬ (qq : Int) < 10 := by omega
              have hfin : Hid (O = makeG a b) := Lib.hid (out_make hra.out hrb.out hOm.out.1 (fun x => by
                rw [hOm.out.2 x, hqe]
                unfold outD
                rw [hcs'.out, hKK'.out, hRR'.out]
                rfl) (by rw [hX'.out, hcs'.out]; exact hno1.out))
              have hkw := Lib.hid (k03.out.trans hM.out.k)
              clear hqe hOm hM hO
              go_wp2_with fail
              go_ret
              exact ⟨po, co, by rw [← hfin.out]; rfl, by rw [← hfin.out]; exact hO4.out.at aVals_len, hkw.out⟩
end Go.Proofs.YtmclnamgihphcaaGreat
