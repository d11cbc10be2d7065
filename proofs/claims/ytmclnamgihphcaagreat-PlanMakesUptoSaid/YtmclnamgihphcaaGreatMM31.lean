/- The document's Text of actions, walked (gen_plt.py, out of RVC). -/
import Derived.Test.YtmclnamgihphcaaGreatMM30
import Derived.Test.YtmclnamgihphcaaGreatMM09
import Derived.Deep.DeepCutAuto
set_option linter.unusedVariables false
set_option linter.unusedSimpArgs false
set_option linter.unusedVariables false
set_option linter.unusedSimpArgs false
namespace Go.Proofs.YtmclnamgihphcaaGreat
open Go.RowKit

def ten17 : List Value := [.string ⟨#[63]⟩, .string ⟨#[119, 104, 111, 108, 101]⟩, .string ⟨#[115, 116, 111, 112]⟩, .string ⟨#[109, 111, 118, 101]⟩, .string ⟨#[114, 101, 115, 116, 97, 114, 116]⟩, .string ⟨#[114, 101, 115, 101, 116]⟩, .string ⟨#[115, 116, 97, 114, 116]⟩, .string ⟨#[97, 110, 101, 119]⟩, .string ⟨#[104, 101, 108, 108, 111, 115]⟩, .string ⟨#[116, 105, 109, 101, 114, 115]⟩]
theorem ten17_get : ∀ kk : Nat, kk < 10 → ten17[kk]? = some (.string ⟨(wordF (kk : Int)).toArray⟩) := by
  intro kk h
  match kk, h with
  | 0, _ => rfl
  | 1, _ => rfl
  | 2, _ => rfl
  | 3, _ => rfl
  | 4, _ => rfl
  | 5, _ => rfl
  | 6, _ => rfl
  | 7, _ => rfl
  | 8, _ => rfl
  | 9, _ => rfl
theorem wordF_out {k : Int} (h : k < 0 ∨ 9 < k) : wordF k = wordF 0 := by
  unfold wordF
  rw [if_neg (by omega), if_neg (by omega), if_neg (by omega), if_neg (by omega), if_neg (by omega), if_neg (by omega), if_neg (by omega), if_neg (by omega), if_neg (by omega)]
  rfl
set_option maxRecDepth 100000 in
theorem run_b9 (W : World) : (Instr.buildSlice 38 10 #[(0, .string ⟨#[63]⟩), (1, .string ⟨#[119, 104, 111, 108, 101]⟩), (2, .string ⟨#[115, 116, 111, 112]⟩), (3, .string ⟨#[109, 111, 118, 101]⟩), (4, .string ⟨#[114, 101, 115, 116, 97, 114, 116]⟩), (5, .string ⟨#[114, 101, 115, 101, 116]⟩), (6, .string ⟨#[115, 116, 97, 114, 116]⟩), (7, .string ⟨#[97, 110, 101, 119]⟩), (8, .string ⟨#[104, 101, 108, 108, 111, 115]⟩), (9, .string ⟨#[116, 105, 109, 101, 114, 115]⟩)]).run Tryz.prog W = .ok (.slice (some ⟨W.heap.size, 0, none⟩) 10 10) (W.alloc (.cells ten17.toArray 9)) := by unfold ten17; go_simp
theorem wpList_b9 {ops : Array Oper} {rest : List Oper} {op : Oper} {a : Act} {w : World} {Q : Exit → Act → World → Prop} (hgd : op.guard = none) (ho : op.op = .buildSlice 38 10 #[(0, .const (.string ⟨#[63]⟩)), (1, .const (.string ⟨#[119, 104, 111, 108, 101]⟩)), (2, .const (.string ⟨#[115, 116, 111, 112]⟩)), (3, .const (.string ⟨#[109, 111, 118, 101]⟩)), (4, .const (.string ⟨#[114, 101, 115, 116, 97, 114, 116]⟩)), (5, .const (.string ⟨#[114, 101, 115, 101, 116]⟩)), (6, .const (.string ⟨#[115, 116, 97, 114, 116]⟩)), (7, .const (.string ⟨#[97, 110, 101, 119]⟩)), (8, .const (.string ⟨#[104, 101, 108, 108, 111, 115]⟩)), (9, .const (.string ⟨#[116, 105, 109, 101, 114, 115]⟩))])
    (h : ∀ W3, Hid (W3 = w.alloc (.cells ten17.toArray 9)) → wpList Tryz.prog ops Q rest (a.put op.dst (.slice (some ⟨w.heap.size, 0, none⟩) 10 10)) W3) : wpList Tryz.prog ops Q (op :: rest) a w :=
  wpList_plain hgd fun _ hK => by
    unfold Oper.wp execOp
    simp only [ho, Sem.run_bind, List.map_toArray, List.map_cons, List.map_nil]
    have := run_b9 w
    simp only [show ∀ v : Value, a.eval (.const v) = v from fun _ => rfl, this, Result.andThen_ok]
    exact hK _ _ (h _ (Lib.hid rfl))
theorem wpList_load_cell8 {P : Program} {ops : Array Oper} {rest : List Oper} {op : Oper} {a : Act} {w : World} {Q : Exit → Act → World → Prop} (hgd : op.guard = none) (ty : TypeId) (x : Operand) (ho : op.op = .load ty x)
    (b o : Nat) (hx : a.eval x = .pointer (some ⟨b, o, none⟩)) (v : Value) (hl : (loadVar ty ⟨b, o, none⟩).run P w = .ok v w)
    (h : wpList P ops Q rest (a.put op.dst v) w) : wpList P ops Q (op :: rest) a w :=
  wpList_plain hgd fun _ hK => by
    unfold Oper.wp execOp
    simp only [ho, hx, Instr.loadAt, Instr.sureAddr, Sem.run_bind, Sem.run_pure, Result.andThen_ok, hl]
    exact hK _ _ h

set_option maxRecDepth 100000 in
set_option maxHeartbeats 8000000 in
theorem r17Text_any (v : Value) (fs : List ActD) (T : ByteArray) (w : World) (hv : Hid (RowsAt 2 aVals w v fs)) (hl : fs.length ≤ 1000000000) (hz : (textF fs).length ≤ 1000000000) (hT : Hid (T = ⟨(textF fs).toArray⟩)) :
    Calls Tryz.prog 12 #[v] w (NewRes (.string T) w) := by
  obtain ⟨p, c, rfl⟩ := hv.out.slice
  have hz' := Lib.hid hz
  clear hz
  go_enter Tryz.func12, Tryz.ntmps12
  go_upto_region 2 with ((with_reducible refine at_slot 7 ?_); refine wpList_b9 rfl rfl ?_; intro W0 hW0)
  have hK0 : Hid (Keeps (fun _ => False) w W0) := Lib.hid (by rw [hW0.out]; exact (Keeps.refl _ _).alloc _)
  have hN0 : Hid (BlkAt W0 w.heap.size 9 ten17) := Lib.hid (by rw [hW0.out]; exact BlkAt.new _ _ _)
  clear hW0
  go_wp2_with fail
  go_loopw [5, 4] (fun iv ov wr => ∃ (k : Nat) (S : ByteArray), k ≤ fs.length ∧ iv = .int .i64 k ∧ ov = .string S ∧ Hid (S.data.toList = textF (fs.take k)) ∧ Hid (Keeps (fun _ => False) w wr) ∧ Hid (BlkAt wr w.heap.size 9 ten17)) (fun iv _ _ => fs.length - (intOf iv).toNat)
  case atStart => exact ⟨0, ⟨#[]⟩, by omega, rfl, rfl, Lib.hid rfl, hK0, hN0⟩
  case round =>
    obtain ⟨k, S, hk, rfl, rfl, hS, hKr, hNr⟩ := hrel
    by_cases hlk : k < fs.length
    · obtain ⟨g, o, rfl, hrows⟩ := hv.out.open (by omega)
      obtain ⟨f, hq⟩ : ∃ q, fs[k]? = some q := ⟨_, List.getElem?_eq_getElem hlk⟩
      obtain ⟨N, hN⟩ : ∃ N : ByteArray, N = ⟨f.name.toArray⟩ := ⟨_, rfl⟩
      have hstep := Lib.hid (textF_step hq)
      have hb1 := textF_pre fs (k + 1)
      rw [hstep.out, List.length_append, ← hS.out] at hb1
      have hwl := wordF_len f.kind
      have hNl : Hid (N.data.toList = f.name) := Lib.hid (by rw [hN])
      have eN : N.size = f.name.length := by rw [← hNl.out]; simp
      have eS : S.data.toList.length = S.size := by simp
      have hpl : (pieceF f).length = (wordF f.kind).length + (if f.name = [] then [] else 32 :: f.name).length + 1 := by unfold pieceF; rw [List.length_append, List.length_append]; rfl
      have sN : N.size ≤ 1000000000 := by
        have := hz'.out
        rw [eN]
        split at hpl
        · rename_i h; rw [h]; simp
        · rw [List.length_cons] at hpl; omega
      have hUl : S.size + (pieceF f).length ≤ 1000000000 := by have := hz'.out; omega
      rw [← hS.out] at hstep
      have hrw : Hid (wr.rangeAt g (o + k * 2) [.int .i64 f.kind, .string N]) := Lib.hid (by rw [hN]; exact hKr.out.rangeAt (hrows k f hq) id)
      obtain ⟨nm, hnm⟩ : ∃ z, f.name = z := ⟨_, rfl⟩
      obtain ⟨kd, hkd⟩ : ∃ z, f.kind = z := ⟨_, rfl⟩
      have hpc : Hid (pieceF f = wordF kd ++ (if nm = [] then [] else 32 :: nm) ++ [10]) := Lib.hid (by unfold pieceF; rw [hkd, hnm])
      rw [hkd, hnm] at hpl
      rw [hkd] at hrw hwl
      rw [hnm] at hNl
      rw [hpc.out] at hstep
      rw [hpl] at hUl
      have m1 : (0 : Int) ≤ (k : Int) := by omega
      have m2 : (k : Int) < (fs.length : Int) := by omega
      have r0 := hrw.out 0 _ rfl
      have r1 := hrw.out 1 _ rfl
      simp only [Nat.add_zero] at r0
      clear hrows hN hq hb1 hpl eN eS hkd hnm hS hpc hK0 hN0 hrw
      go_upto_region 7 with fail
      by_cases a1 : kd < 0
      · have e1 : decide (kd < 0) = true := by simpa using a1
        have hwk : Hid (wordF kd = wordF ((0 : Nat) : Int)) := Lib.hid (wordF_out (.inl a1))
        obtain ⟨WD, hWD⟩ : ∃ W : ByteArray, W = ⟨(wordF kd).toArray⟩ := ⟨_, rfl⟩
        have sWD : WD.size = (wordF kd).length := by rw [hWD]; rfl
        have s9 : Hid (wr.cell? ⟨w.heap.size, 0, none⟩ = some (.string WD)) := Lib.hid (by rw [hWD, hwk.out]; exact hNr.out.cell 0 _ (ten17_get 0 (by omega)))
        have hWl : Hid (WD.data.toList = wordF kd) := Lib.hid (by rw [hWD])
        clear hWD hwk
        by_cases hn0 : nm = []
        · have hNn := nil_yes (hNl.out.trans hn0)
          obtain ⟨z1, z2, z3⟩ := hNn
          rw [if_pos hn0] at hUl
          simp only [List.length_nil] at hUl
          have hfin : Hid ((S ++ WD ++ ⟨#[10]⟩).data.toList = textF (fs.take (k + 1))) := Lib.hid (by rw [hstep.out, if_pos hn0, ← hWl.out]; simp)
          clear hn0
          go_wp2_with ((with_reducible refine at_slot 29 ?_); refine wpList_load_cell8 rfl 9 (.tmp 28) rfl w.heap.size 0 rfl _ (load_str _ _ _ _ s9.out) ?_)
          exact ⟨⟨k + 1, _, by omega, by go_num, rfl, hfin, hKr, hNr⟩, by simp [intOf]; omega⟩
        · have hNn := nil_no (fun e => hn0 (hNl.out.symm.trans e))
          obtain ⟨z1, z2, z3⟩ := hNn
          rw [if_neg hn0] at hUl
          simp only [List.length_cons] at hUl
          have eN : N.size = nm.length := by rw [← hNl.out]; simp
          have hfin : Hid ((S ++ WD ++ ⟨#[32]⟩ ++ N ++ ⟨#[10]⟩).data.toList = textF (fs.take (k + 1))) := Lib.hid (by rw [hstep.out, if_neg hn0, ← hWl.out, ← hNl.out]; simp)
          clear hn0
          go_wp2_with ((with_reducible refine at_slot 29 ?_); refine wpList_load_cell8 rfl 9 (.tmp 28) rfl w.heap.size 0 rfl _ (load_str _ _ _ _ s9.out) ?_)
          exact ⟨⟨k + 1, _, by omega, by go_num, rfl, hfin, hKr, hNr⟩, by simp [intOf]; omega⟩
      · by_cases a2 : 9 < kd
        · have e2 : decide (9 < kd) = true := by simpa using a2
          have hwk : Hid (wordF kd = wordF ((0 : Nat) : Int)) := Lib.hid (wordF_out (.inr a2))
          obtain ⟨WD, hWD⟩ : ∃ W : ByteArray, W = ⟨(wordF kd).toArray⟩ := ⟨_, rfl⟩
          have sWD : WD.size = (wordF kd).length := by rw [hWD]; rfl
          have s9 : Hid (wr.cell? ⟨w.heap.size, 0, none⟩ = some (.string WD)) := Lib.hid (by rw [hWD, hwk.out]; exact hNr.out.cell 0 _ (ten17_get 0 (by omega)))
          have hWl : Hid (WD.data.toList = wordF kd) := Lib.hid (by rw [hWD])
          clear hWD hwk
          by_cases hn0 : nm = []
          · have hNn := nil_yes (hNl.out.trans hn0)
            obtain ⟨z1, z2, z3⟩ := hNn
            rw [if_pos hn0] at hUl
            simp only [List.length_nil] at hUl
            have hfin : Hid ((S ++ WD ++ ⟨#[10]⟩).data.toList = textF (fs.take (k + 1))) := Lib.hid (by rw [hstep.out, if_pos hn0, ← hWl.out]; simp)
            clear hn0
            go_wp2_with ((with_reducible refine at_slot 29 ?_); refine wpList_load_cell8 rfl 9 (.tmp 28) rfl w.heap.size 0 rfl _ (load_str _ _ _ _ s9.out) ?_)
            exact ⟨⟨k + 1, _, by omega, by go_num, rfl, hfin, hKr, hNr⟩, by simp [intOf]; omega⟩
          · have hNn := nil_no (fun e => hn0 (hNl.out.symm.trans e))
            obtain ⟨z1, z2, z3⟩ := hNn
            rw [if_neg hn0] at hUl
            simp only [List.length_cons] at hUl
            have eN : N.size = nm.length := by rw [← hNl.out]; simp
            have hfin : Hid ((S ++ WD ++ ⟨#[32]⟩ ++ N ++ ⟨#[10]⟩).data.toList = textF (fs.take (k + 1))) := Lib.hid (by rw [hstep.out, if_neg hn0, ← hWl.out, ← hNl.out]; simp)
            clear hn0
            go_wp2_with ((with_reducible refine at_slot 29 ?_); refine wpList_load_cell8 rfl 9 (.tmp 28) rfl w.heap.size 0 rfl _ (load_str _ _ _ _ s9.out) ?_)
            exact ⟨⟨k + 1, _, by omega, by go_num, rfl, hfin, hKr, hNr⟩, by simp [intOf]; omega⟩
        · obtain ⟨kk, rfl⟩ := Int.eq_ofNat_of_zero_le (a := kd) (by omega)
          have l1 : (0 : Int) ≤ (kk : Int) := by omega
          have l2 : (kk : Int) < 10 := by omega
          have hwk : Hid (wordF (kk : Int) = wordF ((kk : Nat) : Int)) := Lib.hid rfl
          obtain ⟨WD, hWD⟩ : ∃ W : ByteArray, W = ⟨(wordF (kk : Int)).toArray⟩ := ⟨_, rfl⟩
          have sWD : WD.size = (wordF (kk : Int)).length := by rw [hWD]; rfl
          have s9 : Hid (wr.cell? ⟨w.heap.size, kk, none⟩ = some (.string WD)) := Lib.hid (by rw [hWD, hwk.out]; exact hNr.out.cell kk _ (ten17_get kk (by omega)))
          have hWl : Hid (WD.data.toList = wordF (kk : Int)) := Lib.hid (by rw [hWD])
          clear hWD hwk
          by_cases hn0 : nm = []
          · have hNn := nil_yes (hNl.out.trans hn0)
            obtain ⟨z1, z2, z3⟩ := hNn
            rw [if_pos hn0] at hUl
            simp only [List.length_nil] at hUl
            have hfin : Hid ((S ++ WD ++ ⟨#[10]⟩).data.toList = textF (fs.take (k + 1))) := Lib.hid (by rw [hstep.out, if_pos hn0, ← hWl.out]; simp)
            clear hn0
            go_wp2_with ((with_reducible refine at_slot 29 ?_); refine wpList_load_cell8 rfl 9 (.tmp 28) rfl w.heap.size kk rfl _ (load_str _ _ _ _ s9.out) ?_)
            exact ⟨⟨k + 1, _, by omega, by go_num, rfl, hfin, hKr, hNr⟩, by simp [intOf]; omega⟩
          · have hNn := nil_no (fun e => hn0 (hNl.out.symm.trans e))
            obtain ⟨z1, z2, z3⟩ := hNn
            rw [if_neg hn0] at hUl
            simp only [List.length_cons] at hUl
            have eN : N.size = nm.length := by rw [← hNl.out]; simp
            have hfin : Hid ((S ++ WD ++ ⟨#[32]⟩ ++ N ++ ⟨#[10]⟩).data.toList = textF (fs.take (k + 1))) := Lib.hid (by rw [hstep.out, if_neg hn0, ← hWl.out, ← hNl.out]; simp)
            clear hn0
            go_wp2_with ((with_reducible refine at_slot 29 ?_); refine wpList_load_cell8 rfl 9 (.tmp 28) rfl w.heap.size kk rfl _ (load_str _ _ _ _ s9.out) ?_)
            exact ⟨⟨k + 1, _, by omega, by go_num, rfl, hfin, hKr, hNr⟩, by simp [intOf]; omega⟩
    · obtain rfl : k = fs.length := by omega
      have hx2 : S = T := by
        rw [hT.out]
        have h := hS.out
        rw [List.take_length] at h
        rw [← h]
      clear hlk hk hS
      go_wp2_with fail
      go_ret
      exact ⟨by rw [hx2]; rfl, hKr.out⟩
end Go.Proofs.YtmclnamgihphcaaGreat
/- PlanRaw, walked. -/
set_option linter.unusedVariables false
set_option linter.unusedSimpArgs false
namespace Go.Proofs.YtmclnamgihphcaaGreat
open Go.RowKit

set_option maxRecDepth 100000 in
set_option maxHeartbeats 4000000 in
theorem plans_any (w : World) : Calls Tryz.prog 8 #[] w (NewRes (.bool true) w) := by
  go_enter Tryz.func8, Tryz.ntmps8
  go_wp2_with fail
  have one : ∀ (W W' : World) (g : Nat) (q : LineD) (x : UInt8), q = lineP x → Keeps (fun _ => False) (W.alloc (.cells #[.int .i64 2, .string ⟨#[101, 116, 104, 48]⟩, .string ⟨#[99, 111, 115, 116]⟩, .string ⟨#[x]⟩] 62)) W' → g = W.heap.size → RowsAt 4 lineVals W' (.slice (some ⟨g, 0, none⟩) 1 1) [q] := fun W W' g q x hq hk hg => by
    subst hq; subst hg
    refine RowsAt.keep ⟨_, 1, rfl, fun h => (by cases h), by simp, fun _ => ⟨_, 0, rfl, fun i y hy => ?_⟩⟩ hk
    cases i with
    | zero =>
      simp at hy; subst hy
      intro j u hu
      exact (BlkAt.new W 62 [.int .i64 2, .string ⟨#[101, 116, 104, 48]⟩, .string ⟨#[99, 111, 115, 116]⟩, .string ⟨#[x]⟩]).range j u hu
    | succ i => simp at hy
  have hA : Hid (RowsAt 4 lineVals ((w.alloc (.cells #[.int .i64 2, .string ⟨#[101, 116, 104, 48]⟩, .string ⟨#[99, 111, 115, 116]⟩, .string ⟨#[53]⟩] 62)).alloc (.cells #[.int .i64 2, .string ⟨#[101, 116, 104, 48]⟩, .string ⟨#[99, 111, 115, 116]⟩, .string ⟨#[54]⟩] 62)) (.slice (some ⟨w.heap.size, 0, none⟩) 1 1) [lineP 53]) := Lib.hid (one w _ _ _ 53 rfl ((Keeps.refl _ _).alloc _) rfl)
  have hB : Hid (RowsAt 4 lineVals ((w.alloc (.cells #[.int .i64 2, .string ⟨#[101, 116, 104, 48]⟩, .string ⟨#[99, 111, 115, 116]⟩, .string ⟨#[53]⟩] 62)).alloc (.cells #[.int .i64 2, .string ⟨#[101, 116, 104, 48]⟩, .string ⟨#[99, 111, 115, 116]⟩, .string ⟨#[54]⟩] 62)) (.slice (some ⟨w.heap.size + 1, 0, none⟩) 1 1) [lineP 54]) := Lib.hid (one (w.alloc (.cells #[.int .i64 2, .string ⟨#[101, 116, 104, 48]⟩, .string ⟨#[99, 111, 115, 116]⟩, .string ⟨#[53]⟩] 62)) _ _ _ 54 rfl (Keeps.refl _ _) (alloc_size _ _).symm)
  have hk0 : Hid (Keeps (fun _ => False) w ((w.alloc (.cells #[.int .i64 2, .string ⟨#[101, 116, 104, 48]⟩, .string ⟨#[99, 111, 115, 116]⟩, .string ⟨#[53]⟩] 62)).alloc (.cells #[.int .i64 2, .string ⟨#[101, 116, 104, 48]⟩, .string ⟨#[99, 111, 115, 116]⟩, .string ⟨#[54]⟩] 62))) := Lib.hid (((Keeps.refl _ _).alloc _).alloc _)
  clear one
  refine (plMake_c _ _ [lineP 53] [lineP 54] _ hA hB (Lib.hid plans_right.1) (Lib.hid plans_right.2) (Lib.hid (by rw [plans_raw.1]; simp))).mono ?_
  rw [plans_make]
  rintro e w3 ⟨p3, c3, rfl, hR, k3⟩
  have hR3 := Lib.hid hR
  have hk3 := Lib.hid (hk0.out.trans k3)
  clear hR k3 hA hB hk0
  go_wp2_with fail
  refine (plText_any _ [⟨7, [101, 116, 104, 48]⟩] ⟨#[97, 110, 101, 119, 32, 101, 116, 104, 48, 10]⟩ _ hR3 (by simp) (by decide) (Lib.hid rfl)).mono ?_
  rintro e w4 ⟨rfl, k4⟩
  have hk4 := Lib.hid (hk3.out.trans k4)
  clear k4 hR3 hk3
  go_wp2_with fail
  go_ret
  exact ⟨rfl, hk4.out⟩
end Go.Proofs.YtmclnamgihphcaaGreat
