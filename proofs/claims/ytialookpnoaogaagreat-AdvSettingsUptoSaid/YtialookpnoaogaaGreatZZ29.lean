/- Of adv: the document's Settings. -/
import Derived.Test.YtialookpnoaogaaGreatZZ25
import Derived.Test.YtialookpnoaogaaGreatZZ27
import Derived.Test.YtialookpnoaogaaGreatZZ28
import Derived.Test.YtialookpnoaogaaGreatZZ09
import Derived.Test.YtialookpnoaogaaGreatZZ20
set_option linter.unusedVariables false
set_option linter.unusedSimpArgs false
set_option linter.unusedVariables false
set_option linter.unusedSimpArgs false
namespace Go.Proofs.YtialookpnoaogaaGreat
open Go.RowKit

set_option maxRecDepth 100000 in
set_option maxHeartbeats 8000000 in
theorem ref15Number_c (v : Value) (ls : List LineD) (N L : ByteArray) (m : Nat) (w : World) (hv : Hid (RowsAt 4 lineVals w v ls)) (hr : Hid (rightC ls = true)) (hm : Hid (numR ls N.data.toList L.data.toList = m)) :
    Calls Tryz.prog 42 #[v, .string N, .string L] w (NewRes (.int .i64 m) w) := by
  obtain ⟨p, c, rfl⟩ := hv.out.slice
  have hl := right_len hr.out
  obtain ⟨V, hV⟩ : ∃ V : ByteArray, V = ⟨(valueR ls 2 N.data.toList L.data.toList).toArray⟩ := ⟨_, rfl⟩
  have hva := Lib.hid (rValue_c _ ls 2 N L V w hv (Lib.hid (right_lt hr.out 8796093022000 (by omega))) (by omega) hr (Lib.hid hV))
  have hd : Hid (∀ W, Calls Tryz.prog 69 #[.string V] W fun e w' => (∃ b, e = .returned (.tuple #[.int .i64 m, .bool b])) ∧ W = w') := Lib.hid (fun W => by
    have h := rDec_r V (decL V.data.toList) W (Lib.hid rfl)
    refine h.mono ?_
    rintro e w' ⟨rfl, rfl⟩
    refine ⟨?_, rfl⟩
    have e2 : (decL V.data.toList).getD 0 = m := by rw [← hm.out, hV]; rfl
    cases e3 : decL V.data.toList with
    | none => rw [e3] at e2; exact ⟨false, by rw [← e2]; rfl⟩
    | some k => rw [e3] at e2; exact ⟨true, by rw [← e2]; rfl⟩)
  clear hV hm hl
  go_enter Tryz.func42, Tryz.ntmps42
  go_wp2_with fail
  refine hva.out.mono ?_
  rintro e w1 ⟨rfl, hk1⟩
  have hk1' := Lib.hid hk1
  clear hva hk1
  go_wp2_with fail
  refine (hd.out _).mono ?_
  rintro e w2 ⟨⟨b, rfl⟩, rfl⟩
  clear hd
  go_wp2_with fail
  go_ret
  exact ⟨rfl, hk1'.out⟩

theorem valueR_hundred {ls : List LineD} (hr : rightC ls = true) (h : Int) (n l : List UInt8) : (valueR ls h n l).length ≤ 100 := by
  unfold valueR
  split
  · rename_i q hq
    have := line_small (right_line hr q (List.mem_of_find?_eq_some hq))
    omega
  · split
    · rename_i r hr2
      have hall : ∀ q ∈ tableD, q.df.length ≤ 30 := by decide
      have := hall r (List.mem_of_find?_eq_some hr2)
      omega
    · simp
theorem ref15Info : (Tryz.prog.info? 48).map (·.size) = some 10 := by kernel_rfl
theorem mask_step : ∀ k : Fin 32, bits BinOp.or IntKind.u32 ((maskD k.val : Nat) : Int) (2 ^ (31 - k.val) % 4294967296) = ((maskD (k.val + 1) : Nat) : Int) := by decide +kernel
set_option maxRecDepth 100000 in
set_option maxHeartbeats 8000000 in
theorem ref15Settings_c (v : Value) (ls : List LineD) (n : List UInt8) (w : World) (hv : Hid (RowsAt 4 lineVals w v ls)) (hr : Hid (rightC ls = true)) :
    Calls Tryz.prog 16 #[v, strv n] w (NewRes (.tuple #[.agg (setVals (setRes ls n).1).toArray, .int .i64 (setRes ls n).2]) w) := by
  obtain ⟨p, c, rfl⟩ := hv.out.slice
  obtain ⟨R, hR⟩ : ∃ R, setRes ls n = R := ⟨_, rfl⟩
  have hR' := Lib.hid hR
  rw [hR]
  clear hR
  obtain ⟨N, hN⟩ : ∃ N : ByteArray, (⟨n.toArray⟩ : ByteArray) = N := ⟨_, rfl⟩
  have hN' := Lib.hid hN
  have hNl : Hid (N.data.toList = n) := Lib.hid (by rw [← hN])
  unfold strv
  rw [hN]
  clear hN
  have hlen := right_len hr.out
  have hlt := Lib.hid (right_lt hr.out 8796093022000 (by omega))
  have hri := Lib.hid (fun W (k : Keeps (fun _ => False) w W) => rRight_c _ ls true W (Lib.hid (hv.out.keep k).lines) (by omega) hlt hr)
  go_enter Tryz.func16, Tryz.ntmps16
  go_wp2_with fail
  refine (hri.out _ ((Keeps.refl _ _).alloc _)).mono ?_
  rintro e w1 ⟨rfl, hk1⟩
  have hB1 := Lib.hid ((BlkAt.new w 48 (setVals noSet)).keep hk1 id)
  have hk1' : Hid (Keeps (fun _ => False) w w1) := Lib.hid (((Keeps.refl _ _).alloc _).trans hk1)
  obtain ⟨b4, hb4⟩ : ∃ b, w.heap.size = b := ⟨_, rfl⟩
  rw [hb4] at hB1 ⊢
  have hb4' := Lib.hid hb4
  clear hri hk1 hb4
  have hch := Lib.hid (r8Check_c _ ls w1 (Lib.hid (hv.out.keep hk1'.out)) hr)
  rw [doc_same hr.out] at hch
  obtain ⟨F, hF⟩ : ∃ F, checkC ls = F := ⟨_, rfl⟩
  rw [hF] at hch
  have hF' := Lib.hid hF
  clear hF
  go_wp2_with fail
  refine hch.out.mono ?_
  rintro e w2 ⟨p2, c2, rfl, hO, hk2⟩
  have hk2' := Lib.hid (hk1'.out.trans hk2)
  have hB2 := Lib.hid (hB1.out.keep hk2 id)
  clear hch hO hk2 hk1' hB1
  have hn := Lib.hid (rNames_all _ ls 2 w2 (Lib.hid (hv.out.keep hk2'.out)) hr)
  obtain ⟨y, hy⟩ : ∃ y, (namesA 2 ls).contains n = y := ⟨_, rfl⟩
  have hy' := Lib.hid hy
  clear hy
  cases F with
  | cons f F =>
    obtain ⟨m, hm⟩ : ∃ m, (f :: F).length = m + 1 := ⟨F.length, rfl⟩
    have l1 : (0 : Int) < ((m + 1 : Nat) : Int) := by omega
    simp only [hm]
    have hRR : R = (noSet, 7) := by rw [← hR'.out]; unfold setRes; rw [hF'.out]; rfl
    subst hRR
    have hth := Lib.hid (hB2.out.there 0 10 (Nat.le_refl _))
    clear hm hn
    go_wp2_with ((with_reducible refine at_store 4 ?_); refine wpList_store_blk rfl 48 (.tmp 4) (.tmp 22) rfl b4 (setVals noSet).toArray rfl rfl hth.out ref15Info (setVals_one _) ?_; intro w4 hr4 hk4)
    refine bodyPost_ret (ret_cell_tmp rfl _ w4 b4 _ _ rfl hr4.out Tryz.underlying48 rfl ref15Info) rfl ⟨rfl, hk2'.out.trans' hk4.out (fun i e => .inr (by rw [e, hb4'.out]; exact Nat.le_refl _))⟩
  | nil =>
    have hz0 : Hid ((checkC ls).isEmpty = true) := Lib.hid (by rw [hF'.out]; rfl)
    have l1 : ¬ (0 : Int) < ((([] : List FaultD).length : Nat) : Int) := by simp
    go_wp2_with fail
    refine hn.out.mono ?_
    rintro e w3 ⟨pn, cn, rfl, hS3, hk3⟩
    have hk3' := Lib.hid (hk2'.out.trans hk3)
    have hB3 := Lib.hid (hB2.out.keep hk3 id)
    have hct := Lib.hid (has15_any _ (namesA 2 ls) n y w3 (Lib.hid hS3) (by have h1 := namesA_len 2 ls; omega) hy')
    have hNn : Hid ((⟨n.toArray⟩ : ByteArray) = N) := hN'
    rw [hNn.out] at hct
    clear hn hS3 hk3 hk2' hB2
    go_wp2_with fail
    refine hct.out.mono ?_
    rintro e w4 ⟨rfl, rfl⟩
    clear hct
    cases y with
    | false =>
      have hRR : R = (noSet, 6) := by rw [← hR'.out]; unfold setRes; rw [hz0.out, if_neg (by decide), hy'.out, if_pos rfl]
      subst hRR
      have hth := Lib.hid (hB3.out.there 0 10 (Nat.le_refl _))
      go_wp2_with ((with_reducible refine at_store 4 ?_); refine wpList_store_blk rfl 48 (.tmp 4) (.tmp 28) rfl b4 (setVals noSet).toArray rfl rfl hth.out ref15Info (setVals_one _) ?_; intro w4 hr4 hk4)
      refine bodyPost_ret (ret_cell_tmp rfl _ w4 b4 _ _ rfl hr4.out Tryz.underlying48 rfl ref15Info) rfl ⟨rfl, hk3'.out.trans' hk4.out (fun i e => .inr (by rw [e, hb4'.out]; exact Nat.le_refl _))⟩
    | true =>
      have hRR : R = (setD ls n, 0) := by rw [← hR'.out]; unfold setRes; rw [hz0.out, if_neg (by decide), hy'.out, if_neg (by decide)]
      subst hRR
      have hsz : ∀ F, (⟨(valueR ls 2 n F).toArray⟩ : ByteArray).size ≤ 8796093022000 := fun F => by
        have h := valueR_hundred hr.out 2 n F
        show (valueR ls 2 n F).toArray.size ≤ _
        simp; omega
      have hA : Hid (∀ (F : List UInt8) (V : ByteArray), V = ⟨(valueR ls 2 n F).toArray⟩ → ∀ W, Keeps (fun k => k = b4) w3 W → Calls Tryz.prog 39 #[.slice p ls.length c, .int .i64 2, .string N, .string ⟨F.toArray⟩] W (NewRes (.string V) W)) := Lib.hid (fun F V hV W k => by
        have hkk : Keeps (fun _ => False) w W := hk3'.out.trans' k (fun i e => .inr (by rw [e, hb4'.out]; exact Nat.le_refl _))
        exact rValue_c _ ls 2 N ⟨F.toArray⟩ V W (Lib.hid (hv.out.keep hkk)) hlt (by omega) hr (Lib.hid (by rw [hNl.out]; exact hV)))
      have hNm : Hid (∀ (F : List UInt8) (m : Nat), numR ls n F = m → ∀ W, Keeps (fun k => k = b4) w3 W → Calls Tryz.prog 42 #[.slice p ls.length c, .string N, .string ⟨F.toArray⟩] W (NewRes (.int .i64 m) W)) := Lib.hid (fun F m hm W k => by
        have hkk : Keeps (fun _ => False) w W := hk3'.out.trans' k (fun i e => .inr (by rw [e, hb4'.out]; exact Nat.le_refl _))
        exact ref15Number_c _ ls N ⟨F.toArray⟩ m W (Lib.hid (hv.out.keep hkk)) hr (Lib.hid (by rw [hNl.out]; exact hm)))
      obtain ⟨V1, hV1⟩ : ∃ V : ByteArray, V = ⟨(valueR ls 2 n aAreaW).toArray⟩ := ⟨_, rfl⟩
      obtain ⟨V2, hV2⟩ : ∃ V : ByteArray, V = ⟨(valueR ls 2 n aAddrW).toArray⟩ := ⟨_, rfl⟩
      obtain ⟨r1, hr1⟩ : ∃ r, addrL (valueR ls 2 n aAreaW) = r := ⟨_, rfl⟩
      obtain ⟨r2, hr2⟩ : ∃ r, netL (valueR ls 2 n aAddrW) = r := ⟨_, rfl⟩
      have hAd : Hid (∀ W, Calls Tryz.prog 38 #[.string V1] W (NewRes (.tuple #[.int .u32 (r1.getD 0 : Nat), .bool r1.isSome]) W)) := Lib.hid (fun W => by
        have h := rAddr_r V1 r1 W (by rw [hV1]; exact hsz _) (Lib.hid (by rw [hV1]; exact hr1))
        cases r1 <;> exact h)
      have hNt : Hid (∀ W, Calls Tryz.prog 41 #[.string V2] W (NewRes (.tuple #[.int .u32 ((r2.getD (0, 0)).1 : Nat), .int .i64 ((r2.getD (0, 0)).2 : Nat), .bool r2.isSome]) W)) := Lib.hid (fun W => by
        have h := rNet_r V2 r2 W (by rw [hV2]; exact hsz _) (Lib.hid (by rw [hV2]; exact hr2))
        cases r2 <;> exact h)
      have h1 := Lib.hid (hA.out aAreaW V1 hV1 w3 (Keeps.refl _ _))
      have hV1' := Lib.hid hV1
      have hV2' := Lib.hid hV2
      have hr1' := Lib.hid hr1
      have hr2' := Lib.hid hr2
      clear hV1 hV2 hr1 hr2 hsz
      go_wp2_with fail
      refine h1.out.mono ?_
      rintro e w5 ⟨rfl, hk5⟩
      have hk5' := Lib.hid hk5
      clear h1 hk5
      go_wp2_with fail
      refine (hAd.out _).mono ?_
      rintro e w6 ⟨rfl, hk6⟩
      have hk6' := Lib.hid (hk5'.out.trans hk6)
      have h1 := Lib.hid (hA.out aAddrW V2 hV2'.out w6 (hk6'.out.mono (fun _ f => f.elim)))
      clear hAd hk6 hk5'
      go_wp2_with fail
      refine h1.out.mono ?_
      rintro e w7 ⟨rfl, hk7⟩
      have hk7' := Lib.hid (hk6'.out.trans hk7)
      clear h1 hk7 hk6'
      go_wp2_with fail
      refine (hNt.out _).mono ?_
      rintro e w8 ⟨rfl, hk8⟩
      have hk8' := Lib.hid (hk7'.out.trans hk8)
      clear hNt hk8 hk7'
      have hB8 := Lib.hid (hB3.out.keep hk8'.out id)
      obtain ⟨A1, hA1⟩ : ∃ a, r1.getD 0 = a := ⟨_, rfl⟩
      obtain ⟨X2, hX2⟩ : ∃ a, (r2.getD (0, 0)).1 = a := ⟨_, rfl⟩
      obtain ⟨K2, hK2⟩ : ∃ a, (r2.getD (0, 0)).2 = a := ⟨_, rfl⟩
      have hK32 : K2 ≤ 32 := by
        cases e : r2 with
        | none => rw [← hK2, e]; exact Nat.zero_le _
        | some q =>
          obtain ⟨a, m⟩ := q
          have h := (netL_in (hr2'.out.trans e)).2.2
          rw [← hK2, e]; exact h
      have hA1' := Lib.hid hA1
      have hX2' := Lib.hid hX2
      have hK2' := Lib.hid hK2
      rw [hA1, hX2, hK2]
      clear hA1 hX2 hK2
      go_wp2_with fail
      go_loopw [12, 11] (fun iv mv wr => ∃ (k : Nat), k ≤ K2 ∧ iv = .int .i64 k ∧ mv = .int .u32 (maskD k : Nat) ∧ w8 = wr) (fun iv _ _ => K2 - (intOf iv).toNat)
      case atStart => exact ⟨0, by omega, rfl, rfl, rfl⟩
      case round =>
        obtain ⟨k, hk, rfl, rfl, rfl⟩ := hrel
        by_cases hlk : k < K2
        · have m2 : (k : Int) < (K2 : Int) := by omega
          go_wp2_with fail
          have hms := mask_step ⟨k, by omega⟩
          exact ⟨⟨k + 1, by omega, by go_num, by rw [← hms], by first | rfl | trivial⟩, by simp [intOf]; omega⟩
        · obtain rfl : k = K2 := by omega
          obtain ⟨m1, hm1⟩ : ∃ m, numR ls n aCostW = m := ⟨_, rfl⟩
          obtain ⟨m2, hm2⟩ : ∃ m, numR ls n aHelloW = m := ⟨_, rfl⟩
          obtain ⟨m3, hm3⟩ : ∃ m, numR ls n aDeadW = m := ⟨_, rfl⟩
          obtain ⟨m4, hm4⟩ : ∃ m, numR ls n aAgainW = m := ⟨_, rfl⟩
          obtain ⟨m5, hm5⟩ : ∃ m, numR ls n aPrioW = m := ⟨_, rfl⟩
          replace hm1 := Lib.hid hm1
          replace hm2 := Lib.hid hm2
          replace hm3 := Lib.hid hm3
          replace hm4 := Lib.hid hm4
          replace hm5 := Lib.hid hm5
          obtain ⟨V6, hV6⟩ : ∃ V : ByteArray, V = ⟨(valueR ls 2 n aNetW).toArray⟩ := ⟨_, rfl⟩
          obtain ⟨V7, hV7⟩ : ∃ V : ByteArray, V = ⟨(valueR ls 2 n aAuthW).toArray⟩ := ⟨_, rfl⟩
          replace hV6 := Lib.hid hV6
          replace hV7 := Lib.hid hV7
          obtain ⟨mk, hmk⟩ : ∃ m, maskD k = m := ⟨_, rfl⟩
          replace hmk := Lib.hid hmk
          rw [hmk.out]
          have hkz : Hid (Keeps (fun k => k = b4) w3 w8) := Lib.hid (hk8'.out.mono (fun _ f => f.elim))
          have hk48 := Lib.hid (hk3'.out.trans hk8'.out)
          have hBz0 := hB8
          clear hk8' hB3 hk3' hB8
          have h1 := Lib.hid (hNm.out aCostW m1 hm1.out w8 hkz.out)
          go_wp2_with fail
          refine h1.out.mono ?_
          rintro e y1 ⟨rfl, k9⟩
          have hkz1 := Lib.hid (hkz.out.trans (k9.mono (fun _ f => f.elim)))
          have hBz1 := Lib.hid (hBz0.out.keep k9 id)
          have hks1 := Lib.hid (hk48.out.trans k9)
          clear h1 k9 hBz0 hkz hk48
          have h1 := Lib.hid (hNm.out aHelloW m2 hm2.out y1 hkz1.out)
          go_wp2_with fail
          refine h1.out.mono ?_
          rintro e y2 ⟨rfl, k9⟩
          have hkz2 := Lib.hid (hkz1.out.trans (k9.mono (fun _ f => f.elim)))
          have hBz2 := Lib.hid (hBz1.out.keep k9 id)
          have hks2 := Lib.hid (hks1.out.trans k9)
          clear h1 k9 hBz1 hkz1 hks1
          have h1 := Lib.hid (hNm.out aDeadW m3 hm3.out y2 hkz2.out)
          go_wp2_with fail
          refine h1.out.mono ?_
          rintro e y3 ⟨rfl, k9⟩
          have hkz3 := Lib.hid (hkz2.out.trans (k9.mono (fun _ f => f.elim)))
          have hBz3 := Lib.hid (hBz2.out.keep k9 id)
          have hks3 := Lib.hid (hks2.out.trans k9)
          clear h1 k9 hBz2 hkz2 hks2
          have h1 := Lib.hid (hNm.out aAgainW m4 hm4.out y3 hkz3.out)
          go_wp2_with fail
          refine h1.out.mono ?_
          rintro e y4 ⟨rfl, k9⟩
          have hkz4 := Lib.hid (hkz3.out.trans (k9.mono (fun _ f => f.elim)))
          have hBz4 := Lib.hid (hBz3.out.keep k9 id)
          have hks4 := Lib.hid (hks3.out.trans k9)
          clear h1 k9 hBz3 hkz3 hks3
          have h1 := Lib.hid (hNm.out aPrioW m5 hm5.out y4 hkz4.out)
          go_wp2_with fail
          refine h1.out.mono ?_
          rintro e y5 ⟨rfl, k9⟩
          have hkz5 := Lib.hid (hkz4.out.trans (k9.mono (fun _ f => f.elim)))
          have hBz5 := Lib.hid (hBz4.out.keep k9 id)
          have hks5 := Lib.hid (hks4.out.trans k9)
          clear h1 k9 hBz4 hkz4 hks4
          have h1 := Lib.hid (hA.out aNetW V6 hV6.out y5 hkz5.out)
          go_wp2_with fail
          refine h1.out.mono ?_
          rintro e y6 ⟨rfl, k9⟩
          have hkz6 := Lib.hid (hkz5.out.trans (k9.mono (fun _ f => f.elim)))
          have hBz6 := Lib.hid (hBz5.out.keep k9 id)
          have hks6 := Lib.hid (hks5.out.trans k9)
          clear h1 k9 hBz5 hkz5 hks5
          have h1 := Lib.hid (hA.out aAuthW V7 hV7.out y6 hkz6.out)
          go_wp2_with fail
          refine h1.out.mono ?_
          rintro e y7 ⟨rfl, k9⟩
          have hkz7 := Lib.hid (hkz6.out.trans (k9.mono (fun _ f => f.elim)))
          have hBz7 := Lib.hid (hBz6.out.keep k9 id)
          have hks7 := Lib.hid (hks6.out.trans k9)
          clear h1 k9 hBz6 hkz6 hks6
          have hth := Lib.hid (hBz7.out.there 0 10 (Nat.le_refl _))
          go_wp2_with ((with_reducible refine at_store 4 ?_); refine wpList_store_blk rfl 48 (.tmp 4) (.tmp 79) rfl b4 _ rfl rfl hth.out ref15Info (by simp; exact ⟨rfl, rfl, rfl, rfl, rfl, rfl, rfl, rfl, rfl, rfl⟩) ?_; intro w4 hr4 hk4)
          refine bodyPost_ret (ret_cell_tmp rfl _ w4 b4 _ _ rfl hr4.out Tryz.underlying48 rfl ref15Info) rfl ⟨?_, hks7.out.trans' hk4.out (fun i e => .inr (by rw [e, hb4'.out]; exact Nat.le_refl _))⟩
          have q1 : (setD ls n).area = A1 := by show (addrL (valueR ls 2 n aAreaW)).getD 0 = _; rw [hr1'.out, hA1'.out]
          have q2 : (setD ls n).addr = X2 := by show ((netL (valueR ls 2 n aAddrW)).getD (0, 0)).1 = _; rw [hr2'.out, hX2'.out]
          have q3 : (setD ls n).mask = mk := by
            show maskD ((netL (valueR ls 2 n aAddrW)).getD (0, 0)).2 = _
            rw [hr2'.out, hK2'.out, hmk.out]
          have q4 : (setD ls n).two = (V6.toList == [112, 111, 105, 110, 116, 45, 116, 111, 45, 112, 111, 105, 110, 116]) := by
            show (valueR ls 2 n aNetW == aTwoW) = _
            rw [hV6.out, ba_toList]; rfl
          have q5 : strv (setD ls n).auth = .string V7 := by rw [hV7.out]; rfl
          have hS : setVals (setD ls n) = [.int .u32 A1, .int .u32 X2, .int .u32 mk, .int .i64 m1, .int .i64 m2, .int .i64 m3, .int .i64 m4, .int .i64 m5, .bool (V6.toList == [112, 111, 105, 110, 116, 45, 116, 111, 45, 112, 111, 105, 110, 116]), .string V7] := by
            unfold setVals
            rw [q1, q2, q3, q4, q5, show (setD ls n).cost = m1 from hm1.out, show (setD ls n).hello = m2 from hm2.out, show (setD ls n).dead = m3 from hm3.out, show (setD ls n).again = m4 from hm4.out, show (setD ls n).prio = m5 from hm5.out]
          rw [hS]
          rfl
end Go.Proofs.YtialookpnoaogaaGreat
/- Of adv: faceOf, areOf where there are no faces; networks where nobody speaks; Id. -/
set_option linter.unusedVariables false
set_option linter.unusedSimpArgs false
namespace Go.Proofs.YtialookpnoaogaaGreat
open Go.RowKit

theorem faceInfo : (Tryz.prog.info? 64).map (·.size) = some 3 := by kernel_rfl
set_option maxRecDepth 100000 in
set_option maxHeartbeats 8000000 in
theorem faceOf_nil (N : ByteArray) (w : World) : Calls Tryz.prog 22 #[.string N, .slice none 0 0] w (NewRes (.agg #[.string N, .int .u32 0, .slice none 0 0]) w) := by
  have hB0 := BlkAt.new w 64 [.string ⟨#[]⟩, .int .u32 0, .slice none 0 0]
  have hth := Lib.hid (hB0.there 0 3 (Nat.le_refl _))
  have hk0 : Hid (Keeps (fun _ => False) w (w.alloc (.cells #[.string ⟨#[]⟩, .int .u32 0, .slice none 0 0] 64))) := Lib.hid ((Keeps.refl _ _).alloc _)
  clear hB0
  go_enter Tryz.func22, Tryz.ntmps22
  go_wp2_with fail
  generalize hW0 : w.alloc (.cells #[.string ⟨#[]⟩, .int .u32 0, .slice none 0 0] 64) = W0 at hth hk0 ⊢
  clear hW0
  go_loopw [9] (fun iv wr => iv = .int .i64 0 ∧ W0 = wr) (fun _ _ => 0)
  case atStart => exact ⟨rfl, rfl⟩
  obtain ⟨rfl, rfl⟩ := hrel
  go_wp2_with ((with_reducible refine at_store 4 ?_); refine wpList_store_blk rfl 64 (.tmp 4) (.tmp 20) rfl w.heap.size _ rfl rfl hth.out faceInfo (by simp; exact ⟨rfl, rfl, rfl⟩) ?_; intro w4 hr4 hk4)
  refine bodyPost_ret (ret_cellN rfl _ w4 w.heap.size _ _ rfl hr4.out Tryz.underlying64 rfl faceInfo) rfl ⟨rfl, hk0.out.trans' hk4.out (fun i e => .inr (by rw [e]; exact Nat.le_refl _))⟩
set_option maxRecDepth 100000 in
set_option maxHeartbeats 8000000 in
theorem areOf_nil (v : Value) (w : World) : Calls Tryz.prog 20 #[v, .slice none 0 0] w (NewRes (.bool true) w) := by
  go_enter Tryz.func20, Tryz.ntmps20
  go_wp2_with fail
  go_loopw [10] (fun iv wr => iv = .int .i64 0 ∧ w = wr) (fun _ _ => 0)
  case atStart => exact ⟨rfl, rfl⟩
  obtain ⟨rfl, rfl⟩ := hrel
  go_wp2_with fail
  go_ret
  exact ⟨rfl, Keeps.refl _ _⟩
set_option maxRecDepth 100000 in
set_option maxHeartbeats 8000000 in
theorem advId_c (v : Value) (ls : List LineD) (w : World) (hv : Hid (RowsAt 4 lineVals w v ls)) (hr : Hid (rightC ls = true)) (m : Nat) (hm : Hid ((addrL (valueR ls 0 [] [114, 111, 117, 116, 101, 114, 45, 105, 100])).getD 0 = m)) :
    Calls Tryz.prog 13 #[v] w (NewRes (.int .u32 m) w) := by
  obtain ⟨p, c, rfl⟩ := hv.out.slice
  obtain ⟨V, hV⟩ : ∃ V : ByteArray, V = ⟨(valueR ls 0 [] [114, 111, 117, 116, 101, 114, 45, 105, 100]).toArray⟩ := ⟨_, rfl⟩
  have hva := Lib.hid (value_any _ ls 0 ⟨#[]⟩ ⟨#[114, 111, 117, 116, 101, 114, 45, 105, 100]⟩ V w hv hr (Lib.hid hV))
  have hd : Hid (∀ W, Calls Tryz.prog 36 #[.string V] W fun e w' => (∃ b, e = .returned (.tuple #[.int .u32 m, .bool b])) ∧ Keeps (fun _ => False) W w') := Lib.hid (fun W => by
    obtain ⟨r1, hr1⟩ : ∃ r, addrL (valueR ls 0 [] [114, 111, 117, 116, 101, 114, 45, 105, 100]) = r := ⟨_, rfl⟩
    have hs := valueR_hundred hr.out 0 [] [114, 111, 117, 116, 101, 114, 45, 105, 100]
    have h := addr_r V r1 W (by rw [hV]; simp [ByteArray.size]; omega) (Lib.hid (by rw [hV]; exact hr1))
    have e1 := hm.out
    rw [hr1] at e1
    refine h.mono ?_
    rintro e w' ⟨he, n, hn⟩
    refine ⟨⟨r1.isSome, by rw [he, ← e1]; cases r1 <;> rfl⟩, by rw [hn]; exact (Keeps.refl _ _).drewN n⟩)
  clear hV hm
  go_enter Tryz.func13, Tryz.ntmps13
  go_wp2_with fail
  refine hva.out.mono ?_
  rintro e w1 ⟨rfl, hk1⟩
  have hk1' := Lib.hid hk1
  clear hva hk1
  go_wp2_with fail
  refine (hd.out _).mono ?_
  rintro e w2 ⟨⟨b, rfl⟩, hk2⟩
  have hk2' := Lib.hid (hk1'.out.trans hk2)
  clear hd hk2 hk1'
  go_wp2_with fail
  go_ret
  exact ⟨rfl, hk2'.out⟩
set_option maxRecDepth 100000 in
set_option maxHeartbeats 8000000 in
theorem networks_none (me : Nat) (v : Value) (xs : List StandR) (w : World) (hv : Hid (RowsAt 13 StandR.vals w v xs)) (hl : xs.length ≤ 64) (hs : Hid (∀ x ∈ xs, speaksB x.s x.dr x.n = false)) :
    Calls Tryz.prog 24 #[.int .u32 me, v] w (NewRes (.slice none 0 0) w) := by
  obtain ⟨p, c, rfl⟩ := hv.out.slice
  go_enter Tryz.func24, Tryz.ntmps24
  go_wp2_with fail
  go_loopw [13, 5] (fun iv tv wr => ∃ (k : Nat), k ≤ xs.length ∧ iv = .int .i64 k ∧ tv = .slice none 0 0 ∧ Hid (Keeps (fun _ => False) w wr)) (fun iv _ _ => xs.length - (intOf iv).toNat)
  case atStart => exact ⟨0, by omega, rfl, rfl, Lib.hid (Keeps.refl _ _)⟩
  case round =>
    obtain ⟨k, hk, rfl, rfl, hkr⟩ := hrel
    by_cases hlx : k < xs.length
    · obtain ⟨x, hx⟩ : ∃ x, xs[k]? = some x := ⟨_, List.getElem?_eq_getElem hlx⟩
      have hm := List.mem_of_getElem? hx
      obtain ⟨g, o, rfl, hrow0⟩ := hv.out.open (by omega)
      have hrow := Lib.hid (hkr.out.rangeAt (hrow0 k x hx) id)
      have hsx := Lib.hid (fun W => standSpeaks_any x.s x.nm x.dr x.n x.c x.p false W (Lib.hid (hs.out x hm)))
      obtain ⟨L, hL⟩ : ∃ L, x.vals = L := ⟨_, rfl⟩
      have hL2 : standVals x.s x.nm x.dr (.slice x.p x.n x.c) = L := hL
      rw [hL] at hrow
      rw [hL2] at hsx
      have hLl : L.length = 13 := by rw [← hL]; rfl
      have hi : Hid ((Tryz.prog.info? 67).map (·.size) = some L.length) := Lib.hid (by rw [hLl]; exact standInfo)
      have hL1 : Hid (L.toArray.all (·.oneCell') = true) := Lib.hid (by
        rw [← hL]
        obtain ⟨⟨area, addr, mask, cost, hello, dead, again, prio, two, auth⟩, nm, dr, p, n, c⟩ := x
        unfold StandR.vals standVals setVals strv
        simp
        exact ⟨rfl, rfl, rfl, rfl, rfl, rfl, rfl, rfl, rfl, rfl, rfl, rfl, rfl⟩)
      have hLs : Hid ((#[.int .u32 0, .int .u32 0, .int .u32 0, .int .i64 0, .int .i64 0, .int .i64 0, .int .i64 0, .int .i64 0, .bool false, .string ⟨#[]⟩, .string ⟨#[]⟩, .int .u32 0, .slice none 0 0] : Array Value).size = L.toArray.size) := Lib.hid (by simp [hLl])
      have hLz : L.toArray.size = L.length := by simp
      have hBx := Lib.hid (BlkAt.new wr 67 L)
      have hkx := Lib.hid (hkr.out.alloc (.cells L.toArray 67))
      have m1 : (0 : Int) ≤ (k : Int) := by omega
      have m2 : (k : Int) < (xs.length : Int) := by omega
      clear hL hL2 hrow0 hm hx hkr
      go_upto_region 5 with (first | ((with_reducible refine at_slot 16 ?_); refine wpList_load_mid rfl 67 (.tmp 15) rfl g (o + k * 13) rfl L _ hrow.out Tryz.underlying67 rfl hi.out ?_) | ((with_reducible refine at_store 7 ?_); refine wpList_store_new rfl 67 (.tmp 7) (.tmp 16) rfl _ L.toArray rfl rfl (by rw [hLz]; exact hi.out) hLs.out hL1.out ?_))
      obtain ⟨b, hb⟩ : ∃ b, wr.heap.size = b := ⟨_, rfl⟩
      rw [hb] at hBx ⊢
      generalize wr.alloc (.cells L.toArray 67) = W1 at hBx hkx ⊢
      clear hb hrow
      go_wp2_with ((with_reducible refine at_slot 17 ?_); refine wpList_load_mid rfl 67 (.tmp 7) rfl b 0 rfl L _ hBx.out.range Tryz.underlying67 rfl hi.out ?_)
      refine (hsx.out _).mono ?_
      rintro e W2 ⟨rfl, k2⟩
      have hk2 := Lib.hid (hkx.out.trans k2)
      clear hsx hBx hkx k2
      go_wp2_with fail
      exact ⟨⟨k + 1, by omega, by go_num, rfl, hk2⟩, by simp [intOf]; omega⟩
    · go_wp2_with fail
      go_ret
      exact ⟨rfl, hkr.out⟩
end Go.Proofs.YtialookpnoaogaaGreat
