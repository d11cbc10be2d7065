/- The document's Write, walked. -/
import Derived.Test.YtfflgbpppcfamaaDoorZRN
import Derived.Deep.CutBlock
namespace Go.Proofs.YtfflgbpppcfamaaDoor
open Go.RowKit

theorem wpList_load_cell {P : Program} {ops : Array Oper} {rest : List Oper} {op : Oper} {a : Act} {w : World} {Q : Exit → Act → World → Prop} (hgd : op.guard = none) (ty : TypeId) (x : Operand) (ho : op.op = .load ty x)
    (b o : Nat) (hx : a.eval x = .pointer (some ⟨b, o, none⟩)) (v : Value) (hl : (loadVar ty ⟨b, o, none⟩).run P w = .ok v w)
    (h : wpList P ops Q rest (a.put op.dst v) w) : wpList P ops Q (op :: rest) a w :=
  wpList_plain hgd fun _ hK => by
    unfold Oper.wp execOp
    simp only [ho, hx, Instr.loadAt, Instr.sureAddr, Sem.run_bind, Sem.run_pure, Result.andThen_ok, hl]
    exact hK _ _ h
theorem strs_nil_ne {L : ByteArray} {lf : List UInt8} (hL : L = ⟨lf.toArray⟩) (h : lf ≠ []) : L.toList.isEmpty = false ∧ (L.toList != []) = true ∧ (L.toList == []) = false := by
  have e : L.toList = lf := by rw [Lib.toList_data, hL]
  rw [e]
  cases lf with
  | nil => exact absurd rfl h
  | cons x y => exact ⟨rfl, rfl, rfl⟩
set_option maxRecDepth 100000 in
theorem run_b9 (W : World) : (Instr.buildSlice 43 9 #[(0, .string ⟨#[]⟩), (1, .string ⟨#[]⟩), (2, .string ⟨#[]⟩), (3, .string ⟨#[115, 104, 111, 119]⟩), (4, .string ⟨#[99, 111, 109, 112, 97, 114, 101]⟩), (5, .string ⟨#[99, 104, 101, 99, 107]⟩), (6, .string ⟨#[99, 111, 109, 109, 105, 116]⟩), (7, .string ⟨#[]⟩), (8, .string ⟨#[99, 111, 110, 102, 105, 114, 109]⟩)]).run Tryd.prog W = .ok (.slice (some ⟨W.heap.size, 0, none⟩) 9 9) (W.alloc (.cells #[.string ⟨#[]⟩, .string ⟨#[]⟩, .string ⟨#[]⟩, .string ⟨#[115, 104, 111, 119]⟩, .string ⟨#[99, 111, 109, 112, 97, 114, 101]⟩, .string ⟨#[99, 104, 101, 99, 107]⟩, .string ⟨#[99, 111, 109, 109, 105, 116]⟩, .string ⟨#[]⟩, .string ⟨#[99, 111, 110, 102, 105, 114, 109]⟩] 9)) := by go_simp
theorem wpList_b9 {ops : Array Oper} {rest : List Oper} {op : Oper} {a : Act} {w : World} {Q : Exit → Act → World → Prop} (hgd : op.guard = none) (ho : op.op = .buildSlice 43 9 #[(0, .const (.string ⟨#[]⟩)), (1, .const (.string ⟨#[]⟩)), (2, .const (.string ⟨#[]⟩)), (3, .const (.string ⟨#[115, 104, 111, 119]⟩)), (4, .const (.string ⟨#[99, 111, 109, 112, 97, 114, 101]⟩)), (5, .const (.string ⟨#[99, 104, 101, 99, 107]⟩)), (6, .const (.string ⟨#[99, 111, 109, 109, 105, 116]⟩)), (7, .const (.string ⟨#[]⟩)), (8, .const (.string ⟨#[99, 111, 110, 102, 105, 114, 109]⟩))])
    (h : ∀ W3, Hid (W3 = w.alloc (.cells #[.string ⟨#[]⟩, .string ⟨#[]⟩, .string ⟨#[]⟩, .string ⟨#[115, 104, 111, 119]⟩, .string ⟨#[99, 111, 109, 112, 97, 114, 101]⟩, .string ⟨#[99, 104, 101, 99, 107]⟩, .string ⟨#[99, 111, 109, 109, 105, 116]⟩, .string ⟨#[]⟩, .string ⟨#[99, 111, 110, 102, 105, 114, 109]⟩] 9)) → wpList Tryd.prog ops Q rest (a.put op.dst (.slice (some ⟨w.heap.size, 0, none⟩) 9 9)) W3) : wpList Tryd.prog ops Q (op :: rest) a w :=
  wpList_plain hgd fun _ hK => by
    unfold Oper.wp execOp
    simp only [ho, Sem.run_bind, List.map_toArray, List.map_cons, List.map_nil]
    have := run_b9 w
    simp only [show ∀ v : Value, a.eval (.const v) = v from fun _ => rfl, this, Result.andThen_ok]
    exact hK _ _ (h _ (Lib.hid rfl))
set_option maxRecDepth 100000 in
theorem run_b3 (W : World) : (Instr.buildSlice 43 3 #[(0, .string ⟨#[]⟩), (1, .string ⟨#[115, 101, 116]⟩), (2, .string ⟨#[100, 101, 108, 101, 116, 101]⟩)]).run Tryd.prog W = .ok (.slice (some ⟨W.heap.size, 0, none⟩) 3 3) (W.alloc (.cells #[.string ⟨#[]⟩, .string ⟨#[115, 101, 116]⟩, .string ⟨#[100, 101, 108, 101, 116, 101]⟩] 9)) := by go_simp
theorem wpList_b3 {ops : Array Oper} {rest : List Oper} {op : Oper} {a : Act} {w : World} {Q : Exit → Act → World → Prop} (hgd : op.guard = none) (ho : op.op = .buildSlice 43 3 #[(0, .const (.string ⟨#[]⟩)), (1, .const (.string ⟨#[115, 101, 116]⟩)), (2, .const (.string ⟨#[100, 101, 108, 101, 116, 101]⟩))])
    (h : ∀ W3, Hid (W3 = w.alloc (.cells #[.string ⟨#[]⟩, .string ⟨#[115, 101, 116]⟩, .string ⟨#[100, 101, 108, 101, 116, 101]⟩] 9)) → wpList Tryd.prog ops Q rest (a.put op.dst (.slice (some ⟨w.heap.size, 0, none⟩) 3 3)) W3) : wpList Tryd.prog ops Q (op :: rest) a w :=
  wpList_plain hgd fun _ hK => by
    unfold Oper.wp execOp
    simp only [ho, Sem.run_bind, List.map_toArray, List.map_cons, List.map_nil]
    have := run_b3 w
    simp only [show ∀ v : Value, a.eval (.const v) = v from fun _ => rfl, this, Result.andThen_ok]
    exact hK _ _ (h _ (Lib.hid rfl))
set_option maxRecDepth 100000 in
set_option maxHeartbeats 64000000 in
theorem rWrite_text (c : CmdD) (N L V T : ByteArray) (w : World) (hN : Hid (N = ⟨c.name.toArray⟩)) (hL : Hid (L = ⟨c.leaf.toArray⟩)) (hV : Hid (V = ⟨c.value.toArray⟩)) (sN : N.size ≤ 40) (sL : L.size ≤ 40) (sV : V.size ≤ 40) (hn2 : c.n ≤ 9223372036854775807)
    (hT : Hid (T = ⟨(textD c).toArray⟩)) (hTs : T.size ≤ 1000000) (r : Bool) (hr : Hid ((r = true) ↔ readD (textD c) = some c)) :
    Calls Tryd.prog 11 #[.agg #[.int .i64 c.what, .int .i64 c.head, .string N, .string L, .string V, .int .i64 c.n]] w (NewRes (.tuple #[.string T, .bool r]) w) := by
  obtain ⟨a, ha⟩ : ∃ a, a = c.what := ⟨_, rfl⟩
  obtain ⟨h, hh⟩ : ∃ h, h = c.head := ⟨_, rfl⟩
  obtain ⟨n, hn⟩ : ∃ n, n = c.n := ⟨_, rfl⟩
  rw [← ha, ← hh, ← hn]
  rw [← hn] at hn2
  have ha' := Lib.hid ha; have hh' := Lib.hid hh; have hn' := Lib.hid hn
  obtain ⟨W1, hW1⟩ : ∃ W1, W1 = w.alloc (.cells #[.int .i64 a, .int .i64 h, .string N, .string L, .string V, .int .i64 n] 31) := ⟨_, rfl⟩
  have hB := Lib.hid (show BlkAt W1 w.heap.size 31 [.int .i64 a, .int .i64 h, .string N, .string L, .string V, .int .i64 n] by rw [hW1]; exact BlkAt.new w 31 [.int .i64 a, .int .i64 h, .string N, .string L, .string V, .int .i64 n])
  have hK : Hid (Keeps (fun _ => False) w W1) := Lib.hid (by rw [hW1]; exact (Keeps.refl _ _).alloc _)
  have hTl : Hid (T.data.toList = textD c) := Lib.hid (by rw [hT.out])
  have c0 := (BlkAt.new w 31 [.int .i64 a, .int .i64 h, .string N, .string L, .string V, .int .i64 n]).cell 0 _ rfl
  have hW1' := Lib.hid hW1
  clear ha hh hn hW1
  go_enter Tryd.func11, Tryd.ntmps11
  go_upto_block 0 with fail
  rw [← hW1'.out]
  clear hW1' c0
  go_cut [4] (fun v wx => v = .string T ∧ Hid (Keeps (fun _ => False) W1 wx))
  case first =>
    have hx : textD c = (if a = 1 ∨ a = 2 then verbW a ++ headT c ++ opt c.leaf ++ opt c.value else if a = 7 ∨ a = 9 then verbW a ++ 32 :: digitsD n else verbW a) := by unfold textD; rw [ha'.out, hn'.out]
    have hx' := Lib.hid hx; clear hx
    by_cases h1 : a = 1
    · subst h1
      as_aux_lemma =>
      have hx2 : textD c = verbW 1 ++ headT c ++ opt c.leaf ++ opt c.value := by rw [hx'.out]; simp
      have hx2' := Lib.hid hx2; clear hx2 hx'
      by_cases g1 : h = 1
      · subst g1
        have hxh : headT c = (32 :: areaW) ++ 32 :: c.name := by unfold headT; rw [if_pos hh'.out.symm]
        have hxh' := Lib.hid hxh; clear hxh
        by_cases lf0 : c.leaf = []
        · skip
          obtain rfl : L = ⟨#[]⟩ := by rw [hL.out, lf0]
          by_cases vf0 : c.value = []
          · skip
            obtain rfl : V = ⟨#[]⟩ := by rw [hV.out, vf0]
            have hlf0 := Lib.hid lf0; have hvf0 := Lib.hid vf0; clear lf0 vf0
            go_wp2_with (first | ((with_reducible refine at_slot 12 ?_); refine wpList_b3 rfl rfl ?_; intro W3 hW3; have hk3 := Lib.hid (show Keeps (fun _ => False) W1 W3 by rw [hW3.out]; exact (Keeps.refl _ _).alloc _); have hb3 := Lib.hid (hB.out.keep hk3.out id); have s9 : Hid (W3.cell? ⟨W1.heap.size, 1, none⟩ = some (.string ⟨#[115, 101, 116]⟩)) := Lib.hid (by rw [hW3.out]; exact (BlkAt.new W1 9 [.string ⟨#[]⟩, .string ⟨#[115, 101, 116]⟩, .string ⟨#[100, 101, 108, 101, 116, 101]⟩]).cell 1 _ rfl); clear hW3) | ((with_reducible refine at_slot 14 ?_); refine wpList_load_cell rfl 3 (.tmp 13) rfl w.heap.size 0 rfl _ (load_intp _ _ _ _ (hb3.out.cell 0 _ rfl)) ?_) | ((with_reducible refine at_slot 16 ?_); refine wpList_load_cell rfl 9 (.tmp 15) rfl W1.heap.size 1 rfl _ (load_strp _ _ _ _ s9.out) ?_) | ((with_reducible refine at_slot 19 ?_); refine wpList_load_cell rfl 3 (.tmp 18) rfl w.heap.size 1 rfl _ (load_intp _ _ _ _ (hb3.out.cell 1 _ rfl)) ?_) | ((with_reducible refine at_slot 25 ?_); refine wpList_load_cell rfl 9 (.tmp 24) rfl w.heap.size 2 rfl _ (load_strp _ _ _ _ (hb3.out.cell 2 _ rfl)) ?_) | ((with_reducible refine at_slot 29 ?_); refine wpList_load_cell rfl 3 (.tmp 28) rfl w.heap.size 1 rfl _ (load_intp _ _ _ _ (hb3.out.cell 1 _ rfl)) ?_) | ((with_reducible refine at_slot 35 ?_); refine wpList_load_cell rfl 9 (.tmp 34) rfl w.heap.size 2 rfl _ (load_strp _ _ _ _ (hb3.out.cell 2 _ rfl)) ?_) | ((with_reducible refine at_slot 39 ?_); refine wpList_load_cell rfl 9 (.tmp 38) rfl w.heap.size 3 rfl _ (load_strp _ _ _ _ (hb3.out.cell 3 _ rfl)) ?_) | ((with_reducible refine at_slot 45 ?_); refine wpList_load_cell rfl 9 (.tmp 44) rfl w.heap.size 3 rfl _ (load_strp _ _ _ _ (hb3.out.cell 3 _ rfl)) ?_) | ((with_reducible refine at_slot 49 ?_); refine wpList_load_cell rfl 9 (.tmp 48) rfl w.heap.size 4 rfl _ (load_strp _ _ _ _ (hb3.out.cell 4 _ rfl)) ?_) | ((with_reducible refine at_slot 55 ?_); refine wpList_load_cell rfl 9 (.tmp 54) rfl w.heap.size 4 rfl _ (load_strp _ _ _ _ (hb3.out.cell 4 _ rfl)) ?_))
            go_meet
            case rel =>
              refine ⟨congrArg Value.string ?_, hk3⟩
              rw [hT.out]
              refine ba_of ?_
              rw [hx2'.out, hxh'.out]
              have e1 := hlf0.out
              have e2 := hvf0.out
              simp [verbW, verbsL, opt, areaW, faceW, e1, e2, hN.out]
          · skip
            obtain ⟨v1, v2, v3⟩ := strs_nil_ne hV.out vf0
            have hlf0 := Lib.hid lf0; have hvf0 := Lib.hid vf0; clear lf0 vf0
            go_wp2_with (first | ((with_reducible refine at_slot 12 ?_); refine wpList_b3 rfl rfl ?_; intro W3 hW3; have hk3 := Lib.hid (show Keeps (fun _ => False) W1 W3 by rw [hW3.out]; exact (Keeps.refl _ _).alloc _); have hb3 := Lib.hid (hB.out.keep hk3.out id); have s9 : Hid (W3.cell? ⟨W1.heap.size, 1, none⟩ = some (.string ⟨#[115, 101, 116]⟩)) := Lib.hid (by rw [hW3.out]; exact (BlkAt.new W1 9 [.string ⟨#[]⟩, .string ⟨#[115, 101, 116]⟩, .string ⟨#[100, 101, 108, 101, 116, 101]⟩]).cell 1 _ rfl); clear hW3) | ((with_reducible refine at_slot 14 ?_); refine wpList_load_cell rfl 3 (.tmp 13) rfl w.heap.size 0 rfl _ (load_intp _ _ _ _ (hb3.out.cell 0 _ rfl)) ?_) | ((with_reducible refine at_slot 16 ?_); refine wpList_load_cell rfl 9 (.tmp 15) rfl W1.heap.size 1 rfl _ (load_strp _ _ _ _ s9.out) ?_) | ((with_reducible refine at_slot 19 ?_); refine wpList_load_cell rfl 3 (.tmp 18) rfl w.heap.size 1 rfl _ (load_intp _ _ _ _ (hb3.out.cell 1 _ rfl)) ?_) | ((with_reducible refine at_slot 25 ?_); refine wpList_load_cell rfl 9 (.tmp 24) rfl w.heap.size 2 rfl _ (load_strp _ _ _ _ (hb3.out.cell 2 _ rfl)) ?_) | ((with_reducible refine at_slot 29 ?_); refine wpList_load_cell rfl 3 (.tmp 28) rfl w.heap.size 1 rfl _ (load_intp _ _ _ _ (hb3.out.cell 1 _ rfl)) ?_) | ((with_reducible refine at_slot 35 ?_); refine wpList_load_cell rfl 9 (.tmp 34) rfl w.heap.size 2 rfl _ (load_strp _ _ _ _ (hb3.out.cell 2 _ rfl)) ?_) | ((with_reducible refine at_slot 39 ?_); refine wpList_load_cell rfl 9 (.tmp 38) rfl w.heap.size 3 rfl _ (load_strp _ _ _ _ (hb3.out.cell 3 _ rfl)) ?_) | ((with_reducible refine at_slot 45 ?_); refine wpList_load_cell rfl 9 (.tmp 44) rfl w.heap.size 3 rfl _ (load_strp _ _ _ _ (hb3.out.cell 3 _ rfl)) ?_) | ((with_reducible refine at_slot 49 ?_); refine wpList_load_cell rfl 9 (.tmp 48) rfl w.heap.size 4 rfl _ (load_strp _ _ _ _ (hb3.out.cell 4 _ rfl)) ?_) | ((with_reducible refine at_slot 55 ?_); refine wpList_load_cell rfl 9 (.tmp 54) rfl w.heap.size 4 rfl _ (load_strp _ _ _ _ (hb3.out.cell 4 _ rfl)) ?_))
            go_meet
            case rel =>
              refine ⟨congrArg Value.string ?_, hk3⟩
              rw [hT.out]
              refine ba_of ?_
              rw [hx2'.out, hxh'.out]
              have e1 := hlf0.out
              have e2 := hvf0.out
              simp [verbW, verbsL, opt, areaW, faceW, e1, e2, hN.out, hV.out]
        · skip
          obtain ⟨l1, l2, l3⟩ := strs_nil_ne hL.out lf0
          by_cases vf0 : c.value = []
          · skip
            obtain rfl : V = ⟨#[]⟩ := by rw [hV.out, vf0]
            have hlf0 := Lib.hid lf0; have hvf0 := Lib.hid vf0; clear lf0 vf0
            go_wp2_with (first | ((with_reducible refine at_slot 12 ?_); refine wpList_b3 rfl rfl ?_; intro W3 hW3; have hk3 := Lib.hid (show Keeps (fun _ => False) W1 W3 by rw [hW3.out]; exact (Keeps.refl _ _).alloc _); have hb3 := Lib.hid (hB.out.keep hk3.out id); have s9 : Hid (W3.cell? ⟨W1.heap.size, 1, none⟩ = some (.string ⟨#[115, 101, 116]⟩)) := Lib.hid (by rw [hW3.out]; exact (BlkAt.new W1 9 [.string ⟨#[]⟩, .string ⟨#[115, 101, 116]⟩, .string ⟨#[100, 101, 108, 101, 116, 101]⟩]).cell 1 _ rfl); clear hW3) | ((with_reducible refine at_slot 14 ?_); refine wpList_load_cell rfl 3 (.tmp 13) rfl w.heap.size 0 rfl _ (load_intp _ _ _ _ (hb3.out.cell 0 _ rfl)) ?_) | ((with_reducible refine at_slot 16 ?_); refine wpList_load_cell rfl 9 (.tmp 15) rfl W1.heap.size 1 rfl _ (load_strp _ _ _ _ s9.out) ?_) | ((with_reducible refine at_slot 19 ?_); refine wpList_load_cell rfl 3 (.tmp 18) rfl w.heap.size 1 rfl _ (load_intp _ _ _ _ (hb3.out.cell 1 _ rfl)) ?_) | ((with_reducible refine at_slot 25 ?_); refine wpList_load_cell rfl 9 (.tmp 24) rfl w.heap.size 2 rfl _ (load_strp _ _ _ _ (hb3.out.cell 2 _ rfl)) ?_) | ((with_reducible refine at_slot 29 ?_); refine wpList_load_cell rfl 3 (.tmp 28) rfl w.heap.size 1 rfl _ (load_intp _ _ _ _ (hb3.out.cell 1 _ rfl)) ?_) | ((with_reducible refine at_slot 35 ?_); refine wpList_load_cell rfl 9 (.tmp 34) rfl w.heap.size 2 rfl _ (load_strp _ _ _ _ (hb3.out.cell 2 _ rfl)) ?_) | ((with_reducible refine at_slot 39 ?_); refine wpList_load_cell rfl 9 (.tmp 38) rfl w.heap.size 3 rfl _ (load_strp _ _ _ _ (hb3.out.cell 3 _ rfl)) ?_) | ((with_reducible refine at_slot 45 ?_); refine wpList_load_cell rfl 9 (.tmp 44) rfl w.heap.size 3 rfl _ (load_strp _ _ _ _ (hb3.out.cell 3 _ rfl)) ?_) | ((with_reducible refine at_slot 49 ?_); refine wpList_load_cell rfl 9 (.tmp 48) rfl w.heap.size 4 rfl _ (load_strp _ _ _ _ (hb3.out.cell 4 _ rfl)) ?_) | ((with_reducible refine at_slot 55 ?_); refine wpList_load_cell rfl 9 (.tmp 54) rfl w.heap.size 4 rfl _ (load_strp _ _ _ _ (hb3.out.cell 4 _ rfl)) ?_))
            go_meet
            case rel =>
              refine ⟨congrArg Value.string ?_, hk3⟩
              rw [hT.out]
              refine ba_of ?_
              rw [hx2'.out, hxh'.out]
              have e1 := hlf0.out
              have e2 := hvf0.out
              simp [verbW, verbsL, opt, areaW, faceW, e1, e2, hN.out, hL.out]
          · skip
            obtain ⟨v1, v2, v3⟩ := strs_nil_ne hV.out vf0
            have hlf0 := Lib.hid lf0; have hvf0 := Lib.hid vf0; clear lf0 vf0
            go_wp2_with (first | ((with_reducible refine at_slot 12 ?_); refine wpList_b3 rfl rfl ?_; intro W3 hW3; have hk3 := Lib.hid (show Keeps (fun _ => False) W1 W3 by rw [hW3.out]; exact (Keeps.refl _ _).alloc _); have hb3 := Lib.hid (hB.out.keep hk3.out id); have s9 : Hid (W3.cell? ⟨W1.heap.size, 1, none⟩ = some (.string ⟨#[115, 101, 116]⟩)) := Lib.hid (by rw [hW3.out]; exact (BlkAt.new W1 9 [.string ⟨#[]⟩, .string ⟨#[115, 101, 116]⟩, .string ⟨#[100, 101, 108, 101, 116, 101]⟩]).cell 1 _ rfl); clear hW3) | ((with_reducible refine at_slot 14 ?_); refine wpList_load_cell rfl 3 (.tmp 13) rfl w.heap.size 0 rfl _ (load_intp _ _ _ _ (hb3.out.cell 0 _ rfl)) ?_) | ((with_reducible refine at_slot 16 ?_); refine wpList_load_cell rfl 9 (.tmp 15) rfl W1.heap.size 1 rfl _ (load_strp _ _ _ _ s9.out) ?_) | ((with_reducible refine at_slot 19 ?_); refine wpList_load_cell rfl 3 (.tmp 18) rfl w.heap.size 1 rfl _ (load_intp _ _ _ _ (hb3.out.cell 1 _ rfl)) ?_) | ((with_reducible refine at_slot 25 ?_); refine wpList_load_cell rfl 9 (.tmp 24) rfl w.heap.size 2 rfl _ (load_strp _ _ _ _ (hb3.out.cell 2 _ rfl)) ?_) | ((with_reducible refine at_slot 29 ?_); refine wpList_load_cell rfl 3 (.tmp 28) rfl w.heap.size 1 rfl _ (load_intp _ _ _ _ (hb3.out.cell 1 _ rfl)) ?_) | ((with_reducible refine at_slot 35 ?_); refine wpList_load_cell rfl 9 (.tmp 34) rfl w.heap.size 2 rfl _ (load_strp _ _ _ _ (hb3.out.cell 2 _ rfl)) ?_) | ((with_reducible refine at_slot 39 ?_); refine wpList_load_cell rfl 9 (.tmp 38) rfl w.heap.size 3 rfl _ (load_strp _ _ _ _ (hb3.out.cell 3 _ rfl)) ?_) | ((with_reducible refine at_slot 45 ?_); refine wpList_load_cell rfl 9 (.tmp 44) rfl w.heap.size 3 rfl _ (load_strp _ _ _ _ (hb3.out.cell 3 _ rfl)) ?_) | ((with_reducible refine at_slot 49 ?_); refine wpList_load_cell rfl 9 (.tmp 48) rfl w.heap.size 4 rfl _ (load_strp _ _ _ _ (hb3.out.cell 4 _ rfl)) ?_) | ((with_reducible refine at_slot 55 ?_); refine wpList_load_cell rfl 9 (.tmp 54) rfl w.heap.size 4 rfl _ (load_strp _ _ _ _ (hb3.out.cell 4 _ rfl)) ?_))
            go_meet
            case rel =>
              refine ⟨congrArg Value.string ?_, hk3⟩
              rw [hT.out]
              refine ba_of ?_
              rw [hx2'.out, hxh'.out]
              have e1 := hlf0.out
              have e2 := hvf0.out
              simp [verbW, verbsL, opt, areaW, faceW, e1, e2, hN.out, hL.out, hV.out]
      by_cases g2 : h = 2
      · subst g2
        have hxh : headT c = (32 :: faceW) ++ 32 :: c.name := by unfold headT; rw [if_neg (by rw [← hh'.out]; decide), if_pos hh'.out.symm]
        have hxh' := Lib.hid hxh; clear hxh g1
        by_cases lf0 : c.leaf = []
        · skip
          obtain rfl : L = ⟨#[]⟩ := by rw [hL.out, lf0]
          by_cases vf0 : c.value = []
          · skip
            obtain rfl : V = ⟨#[]⟩ := by rw [hV.out, vf0]
            have hlf0 := Lib.hid lf0; have hvf0 := Lib.hid vf0; clear lf0 vf0
            go_wp2_with (first | ((with_reducible refine at_slot 12 ?_); refine wpList_b3 rfl rfl ?_; intro W3 hW3; have hk3 := Lib.hid (show Keeps (fun _ => False) W1 W3 by rw [hW3.out]; exact (Keeps.refl _ _).alloc _); have hb3 := Lib.hid (hB.out.keep hk3.out id); have s9 : Hid (W3.cell? ⟨W1.heap.size, 1, none⟩ = some (.string ⟨#[115, 101, 116]⟩)) := Lib.hid (by rw [hW3.out]; exact (BlkAt.new W1 9 [.string ⟨#[]⟩, .string ⟨#[115, 101, 116]⟩, .string ⟨#[100, 101, 108, 101, 116, 101]⟩]).cell 1 _ rfl); clear hW3) | ((with_reducible refine at_slot 14 ?_); refine wpList_load_cell rfl 3 (.tmp 13) rfl w.heap.size 0 rfl _ (load_intp _ _ _ _ (hb3.out.cell 0 _ rfl)) ?_) | ((with_reducible refine at_slot 16 ?_); refine wpList_load_cell rfl 9 (.tmp 15) rfl W1.heap.size 1 rfl _ (load_strp _ _ _ _ s9.out) ?_) | ((with_reducible refine at_slot 19 ?_); refine wpList_load_cell rfl 3 (.tmp 18) rfl w.heap.size 1 rfl _ (load_intp _ _ _ _ (hb3.out.cell 1 _ rfl)) ?_) | ((with_reducible refine at_slot 25 ?_); refine wpList_load_cell rfl 9 (.tmp 24) rfl w.heap.size 2 rfl _ (load_strp _ _ _ _ (hb3.out.cell 2 _ rfl)) ?_) | ((with_reducible refine at_slot 29 ?_); refine wpList_load_cell rfl 3 (.tmp 28) rfl w.heap.size 1 rfl _ (load_intp _ _ _ _ (hb3.out.cell 1 _ rfl)) ?_) | ((with_reducible refine at_slot 35 ?_); refine wpList_load_cell rfl 9 (.tmp 34) rfl w.heap.size 2 rfl _ (load_strp _ _ _ _ (hb3.out.cell 2 _ rfl)) ?_) | ((with_reducible refine at_slot 39 ?_); refine wpList_load_cell rfl 9 (.tmp 38) rfl w.heap.size 3 rfl _ (load_strp _ _ _ _ (hb3.out.cell 3 _ rfl)) ?_) | ((with_reducible refine at_slot 45 ?_); refine wpList_load_cell rfl 9 (.tmp 44) rfl w.heap.size 3 rfl _ (load_strp _ _ _ _ (hb3.out.cell 3 _ rfl)) ?_) | ((with_reducible refine at_slot 49 ?_); refine wpList_load_cell rfl 9 (.tmp 48) rfl w.heap.size 4 rfl _ (load_strp _ _ _ _ (hb3.out.cell 4 _ rfl)) ?_) | ((with_reducible refine at_slot 55 ?_); refine wpList_load_cell rfl 9 (.tmp 54) rfl w.heap.size 4 rfl _ (load_strp _ _ _ _ (hb3.out.cell 4 _ rfl)) ?_))
            go_meet
            case rel =>
              refine ⟨congrArg Value.string ?_, hk3⟩
              rw [hT.out]
              refine ba_of ?_
              rw [hx2'.out, hxh'.out]
              have e1 := hlf0.out
              have e2 := hvf0.out
              simp [verbW, verbsL, opt, areaW, faceW, e1, e2, hN.out]
          · skip
            obtain ⟨v1, v2, v3⟩ := strs_nil_ne hV.out vf0
            have hlf0 := Lib.hid lf0; have hvf0 := Lib.hid vf0; clear lf0 vf0
            go_wp2_with (first | ((with_reducible refine at_slot 12 ?_); refine wpList_b3 rfl rfl ?_; intro W3 hW3; have hk3 := Lib.hid (show Keeps (fun _ => False) W1 W3 by rw [hW3.out]; exact (Keeps.refl _ _).alloc _); have hb3 := Lib.hid (hB.out.keep hk3.out id); have s9 : Hid (W3.cell? ⟨W1.heap.size, 1, none⟩ = some (.string ⟨#[115, 101, 116]⟩)) := Lib.hid (by rw [hW3.out]; exact (BlkAt.new W1 9 [.string ⟨#[]⟩, .string ⟨#[115, 101, 116]⟩, .string ⟨#[100, 101, 108, 101, 116, 101]⟩]).cell 1 _ rfl); clear hW3) | ((with_reducible refine at_slot 14 ?_); refine wpList_load_cell rfl 3 (.tmp 13) rfl w.heap.size 0 rfl _ (load_intp _ _ _ _ (hb3.out.cell 0 _ rfl)) ?_) | ((with_reducible refine at_slot 16 ?_); refine wpList_load_cell rfl 9 (.tmp 15) rfl W1.heap.size 1 rfl _ (load_strp _ _ _ _ s9.out) ?_) | ((with_reducible refine at_slot 19 ?_); refine wpList_load_cell rfl 3 (.tmp 18) rfl w.heap.size 1 rfl _ (load_intp _ _ _ _ (hb3.out.cell 1 _ rfl)) ?_) | ((with_reducible refine at_slot 25 ?_); refine wpList_load_cell rfl 9 (.tmp 24) rfl w.heap.size 2 rfl _ (load_strp _ _ _ _ (hb3.out.cell 2 _ rfl)) ?_) | ((with_reducible refine at_slot 29 ?_); refine wpList_load_cell rfl 3 (.tmp 28) rfl w.heap.size 1 rfl _ (load_intp _ _ _ _ (hb3.out.cell 1 _ rfl)) ?_) | ((with_reducible refine at_slot 35 ?_); refine wpList_load_cell rfl 9 (.tmp 34) rfl w.heap.size 2 rfl _ (load_strp _ _ _ _ (hb3.out.cell 2 _ rfl)) ?_) | ((with_reducible refine at_slot 39 ?_); refine wpList_load_cell rfl 9 (.tmp 38) rfl w.heap.size 3 rfl _ (load_strp _ _ _ _ (hb3.out.cell 3 _ rfl)) ?_) | ((with_reducible refine at_slot 45 ?_); refine wpList_load_cell rfl 9 (.tmp 44) rfl w.heap.size 3 rfl _ (load_strp _ _ _ _ (hb3.out.cell 3 _ rfl)) ?_) | ((with_reducible refine at_slot 49 ?_); refine wpList_load_cell rfl 9 (.tmp 48) rfl w.heap.size 4 rfl _ (load_strp _ _ _ _ (hb3.out.cell 4 _ rfl)) ?_) | ((with_reducible refine at_slot 55 ?_); refine wpList_load_cell rfl 9 (.tmp 54) rfl w.heap.size 4 rfl _ (load_strp _ _ _ _ (hb3.out.cell 4 _ rfl)) ?_))
            go_meet
            case rel =>
              refine ⟨congrArg Value.string ?_, hk3⟩
              rw [hT.out]
              refine ba_of ?_
              rw [hx2'.out, hxh'.out]
              have e1 := hlf0.out
              have e2 := hvf0.out
              simp [verbW, verbsL, opt, areaW, faceW, e1, e2, hN.out, hV.out]
        · skip
          obtain ⟨l1, l2, l3⟩ := strs_nil_ne hL.out lf0
          by_cases vf0 : c.value = []
          · skip
            obtain rfl : V = ⟨#[]⟩ := by rw [hV.out, vf0]
            have hlf0 := Lib.hid lf0; have hvf0 := Lib.hid vf0; clear lf0 vf0
            go_wp2_with (first | ((with_reducible refine at_slot 12 ?_); refine wpList_b3 rfl rfl ?_; intro W3 hW3; have hk3 := Lib.hid (show Keeps (fun _ => False) W1 W3 by rw [hW3.out]; exact (Keeps.refl _ _).alloc _); have hb3 := Lib.hid (hB.out.keep hk3.out id); have s9 : Hid (W3.cell? ⟨W1.heap.size, 1, none⟩ = some (.string ⟨#[115, 101, 116]⟩)) := Lib.hid (by rw [hW3.out]; exact (BlkAt.new W1 9 [.string ⟨#[]⟩, .string ⟨#[115, 101, 116]⟩, .string ⟨#[100, 101, 108, 101, 116, 101]⟩]).cell 1 _ rfl); clear hW3) | ((with_reducible refine at_slot 14 ?_); refine wpList_load_cell rfl 3 (.tmp 13) rfl w.heap.size 0 rfl _ (load_intp _ _ _ _ (hb3.out.cell 0 _ rfl)) ?_) | ((with_reducible refine at_slot 16 ?_); refine wpList_load_cell rfl 9 (.tmp 15) rfl W1.heap.size 1 rfl _ (load_strp _ _ _ _ s9.out) ?_) | ((with_reducible refine at_slot 19 ?_); refine wpList_load_cell rfl 3 (.tmp 18) rfl w.heap.size 1 rfl _ (load_intp _ _ _ _ (hb3.out.cell 1 _ rfl)) ?_) | ((with_reducible refine at_slot 25 ?_); refine wpList_load_cell rfl 9 (.tmp 24) rfl w.heap.size 2 rfl _ (load_strp _ _ _ _ (hb3.out.cell 2 _ rfl)) ?_) | ((with_reducible refine at_slot 29 ?_); refine wpList_load_cell rfl 3 (.tmp 28) rfl w.heap.size 1 rfl _ (load_intp _ _ _ _ (hb3.out.cell 1 _ rfl)) ?_) | ((with_reducible refine at_slot 35 ?_); refine wpList_load_cell rfl 9 (.tmp 34) rfl w.heap.size 2 rfl _ (load_strp _ _ _ _ (hb3.out.cell 2 _ rfl)) ?_) | ((with_reducible refine at_slot 39 ?_); refine wpList_load_cell rfl 9 (.tmp 38) rfl w.heap.size 3 rfl _ (load_strp _ _ _ _ (hb3.out.cell 3 _ rfl)) ?_) | ((with_reducible refine at_slot 45 ?_); refine wpList_load_cell rfl 9 (.tmp 44) rfl w.heap.size 3 rfl _ (load_strp _ _ _ _ (hb3.out.cell 3 _ rfl)) ?_) | ((with_reducible refine at_slot 49 ?_); refine wpList_load_cell rfl 9 (.tmp 48) rfl w.heap.size 4 rfl _ (load_strp _ _ _ _ (hb3.out.cell 4 _ rfl)) ?_) | ((with_reducible refine at_slot 55 ?_); refine wpList_load_cell rfl 9 (.tmp 54) rfl w.heap.size 4 rfl _ (load_strp _ _ _ _ (hb3.out.cell 4 _ rfl)) ?_))
            go_meet
            case rel =>
              refine ⟨congrArg Value.string ?_, hk3⟩
              rw [hT.out]
              refine ba_of ?_
              rw [hx2'.out, hxh'.out]
              have e1 := hlf0.out
              have e2 := hvf0.out
              simp [verbW, verbsL, opt, areaW, faceW, e1, e2, hN.out, hL.out]
          · skip
            obtain ⟨v1, v2, v3⟩ := strs_nil_ne hV.out vf0
            have hlf0 := Lib.hid lf0; have hvf0 := Lib.hid vf0; clear lf0 vf0
            go_wp2_with (first | ((with_reducible refine at_slot 12 ?_); refine wpList_b3 rfl rfl ?_; intro W3 hW3; have hk3 := Lib.hid (show Keeps (fun _ => False) W1 W3 by rw [hW3.out]; exact (Keeps.refl _ _).alloc _); have hb3 := Lib.hid (hB.out.keep hk3.out id); have s9 : Hid (W3.cell? ⟨W1.heap.size, 1, none⟩ = some (.string ⟨#[115, 101, 116]⟩)) := Lib.hid (by rw [hW3.out]; exact (BlkAt.new W1 9 [.string ⟨#[]⟩, .string ⟨#[115, 101, 116]⟩, .string ⟨#[100, 101, 108, 101, 116, 101]⟩]).cell 1 _ rfl); clear hW3) | ((with_reducible refine at_slot 14 ?_); refine wpList_load_cell rfl 3 (.tmp 13) rfl w.heap.size 0 rfl _ (load_intp _ _ _ _ (hb3.out.cell 0 _ rfl)) ?_) | ((with_reducible refine at_slot 16 ?_); refine wpList_load_cell rfl 9 (.tmp 15) rfl W1.heap.size 1 rfl _ (load_strp _ _ _ _ s9.out) ?_) | ((with_reducible refine at_slot 19 ?_); refine wpList_load_cell rfl 3 (.tmp 18) rfl w.heap.size 1 rfl _ (load_intp _ _ _ _ (hb3.out.cell 1 _ rfl)) ?_) | ((with_reducible refine at_slot 25 ?_); refine wpList_load_cell rfl 9 (.tmp 24) rfl w.heap.size 2 rfl _ (load_strp _ _ _ _ (hb3.out.cell 2 _ rfl)) ?_) | ((with_reducible refine at_slot 29 ?_); refine wpList_load_cell rfl 3 (.tmp 28) rfl w.heap.size 1 rfl _ (load_intp _ _ _ _ (hb3.out.cell 1 _ rfl)) ?_) | ((with_reducible refine at_slot 35 ?_); refine wpList_load_cell rfl 9 (.tmp 34) rfl w.heap.size 2 rfl _ (load_strp _ _ _ _ (hb3.out.cell 2 _ rfl)) ?_) | ((with_reducible refine at_slot 39 ?_); refine wpList_load_cell rfl 9 (.tmp 38) rfl w.heap.size 3 rfl _ (load_strp _ _ _ _ (hb3.out.cell 3 _ rfl)) ?_) | ((with_reducible refine at_slot 45 ?_); refine wpList_load_cell rfl 9 (.tmp 44) rfl w.heap.size 3 rfl _ (load_strp _ _ _ _ (hb3.out.cell 3 _ rfl)) ?_) | ((with_reducible refine at_slot 49 ?_); refine wpList_load_cell rfl 9 (.tmp 48) rfl w.heap.size 4 rfl _ (load_strp _ _ _ _ (hb3.out.cell 4 _ rfl)) ?_) | ((with_reducible refine at_slot 55 ?_); refine wpList_load_cell rfl 9 (.tmp 54) rfl w.heap.size 4 rfl _ (load_strp _ _ _ _ (hb3.out.cell 4 _ rfl)) ?_))
            go_meet
            case rel =>
              refine ⟨congrArg Value.string ?_, hk3⟩
              rw [hT.out]
              refine ba_of ?_
              rw [hx2'.out, hxh'.out]
              have e1 := hlf0.out
              have e2 := hvf0.out
              simp [verbW, verbsL, opt, areaW, faceW, e1, e2, hN.out, hL.out, hV.out]
      · have f1 : (h == 1) = false := by simpa using g1
        have f2 : (h == 2) = false := by simpa using g2
        have hxh : headT c = [] := by unfold headT; rw [if_neg (by rw [← hh'.out]; exact g1), if_neg (by rw [← hh'.out]; exact g2)]
        have hxh' := Lib.hid hxh; clear hxh g1 g2
        by_cases lf0 : c.leaf = []
        · skip
          obtain rfl : L = ⟨#[]⟩ := by rw [hL.out, lf0]
          by_cases vf0 : c.value = []
          · skip
            obtain rfl : V = ⟨#[]⟩ := by rw [hV.out, vf0]
            have hlf0 := Lib.hid lf0; have hvf0 := Lib.hid vf0; clear lf0 vf0
            go_wp2_with (first | ((with_reducible refine at_slot 12 ?_); refine wpList_b3 rfl rfl ?_; intro W3 hW3; have hk3 := Lib.hid (show Keeps (fun _ => False) W1 W3 by rw [hW3.out]; exact (Keeps.refl _ _).alloc _); have hb3 := Lib.hid (hB.out.keep hk3.out id); have s9 : Hid (W3.cell? ⟨W1.heap.size, 1, none⟩ = some (.string ⟨#[115, 101, 116]⟩)) := Lib.hid (by rw [hW3.out]; exact (BlkAt.new W1 9 [.string ⟨#[]⟩, .string ⟨#[115, 101, 116]⟩, .string ⟨#[100, 101, 108, 101, 116, 101]⟩]).cell 1 _ rfl); clear hW3) | ((with_reducible refine at_slot 14 ?_); refine wpList_load_cell rfl 3 (.tmp 13) rfl w.heap.size 0 rfl _ (load_intp _ _ _ _ (hb3.out.cell 0 _ rfl)) ?_) | ((with_reducible refine at_slot 16 ?_); refine wpList_load_cell rfl 9 (.tmp 15) rfl W1.heap.size 1 rfl _ (load_strp _ _ _ _ s9.out) ?_) | ((with_reducible refine at_slot 19 ?_); refine wpList_load_cell rfl 3 (.tmp 18) rfl w.heap.size 1 rfl _ (load_intp _ _ _ _ (hb3.out.cell 1 _ rfl)) ?_) | ((with_reducible refine at_slot 25 ?_); refine wpList_load_cell rfl 9 (.tmp 24) rfl w.heap.size 2 rfl _ (load_strp _ _ _ _ (hb3.out.cell 2 _ rfl)) ?_) | ((with_reducible refine at_slot 29 ?_); refine wpList_load_cell rfl 3 (.tmp 28) rfl w.heap.size 1 rfl _ (load_intp _ _ _ _ (hb3.out.cell 1 _ rfl)) ?_) | ((with_reducible refine at_slot 35 ?_); refine wpList_load_cell rfl 9 (.tmp 34) rfl w.heap.size 2 rfl _ (load_strp _ _ _ _ (hb3.out.cell 2 _ rfl)) ?_) | ((with_reducible refine at_slot 39 ?_); refine wpList_load_cell rfl 9 (.tmp 38) rfl w.heap.size 3 rfl _ (load_strp _ _ _ _ (hb3.out.cell 3 _ rfl)) ?_) | ((with_reducible refine at_slot 45 ?_); refine wpList_load_cell rfl 9 (.tmp 44) rfl w.heap.size 3 rfl _ (load_strp _ _ _ _ (hb3.out.cell 3 _ rfl)) ?_) | ((with_reducible refine at_slot 49 ?_); refine wpList_load_cell rfl 9 (.tmp 48) rfl w.heap.size 4 rfl _ (load_strp _ _ _ _ (hb3.out.cell 4 _ rfl)) ?_) | ((with_reducible refine at_slot 55 ?_); refine wpList_load_cell rfl 9 (.tmp 54) rfl w.heap.size 4 rfl _ (load_strp _ _ _ _ (hb3.out.cell 4 _ rfl)) ?_))
            go_meet
            case rel =>
              refine ⟨congrArg Value.string ?_, hk3⟩
              rw [hT.out]
              refine ba_of ?_
              rw [hx2'.out, hxh'.out]
              have e1 := hlf0.out
              have e2 := hvf0.out
              simp [verbW, verbsL, opt, areaW, faceW, e1, e2]
          · skip
            obtain ⟨v1, v2, v3⟩ := strs_nil_ne hV.out vf0
            have hlf0 := Lib.hid lf0; have hvf0 := Lib.hid vf0; clear lf0 vf0
            go_wp2_with (first | ((with_reducible refine at_slot 12 ?_); refine wpList_b3 rfl rfl ?_; intro W3 hW3; have hk3 := Lib.hid (show Keeps (fun _ => False) W1 W3 by rw [hW3.out]; exact (Keeps.refl _ _).alloc _); have hb3 := Lib.hid (hB.out.keep hk3.out id); have s9 : Hid (W3.cell? ⟨W1.heap.size, 1, none⟩ = some (.string ⟨#[115, 101, 116]⟩)) := Lib.hid (by rw [hW3.out]; exact (BlkAt.new W1 9 [.string ⟨#[]⟩, .string ⟨#[115, 101, 116]⟩, .string ⟨#[100, 101, 108, 101, 116, 101]⟩]).cell 1 _ rfl); clear hW3) | ((with_reducible refine at_slot 14 ?_); refine wpList_load_cell rfl 3 (.tmp 13) rfl w.heap.size 0 rfl _ (load_intp _ _ _ _ (hb3.out.cell 0 _ rfl)) ?_) | ((with_reducible refine at_slot 16 ?_); refine wpList_load_cell rfl 9 (.tmp 15) rfl W1.heap.size 1 rfl _ (load_strp _ _ _ _ s9.out) ?_) | ((with_reducible refine at_slot 19 ?_); refine wpList_load_cell rfl 3 (.tmp 18) rfl w.heap.size 1 rfl _ (load_intp _ _ _ _ (hb3.out.cell 1 _ rfl)) ?_) | ((with_reducible refine at_slot 25 ?_); refine wpList_load_cell rfl 9 (.tmp 24) rfl w.heap.size 2 rfl _ (load_strp _ _ _ _ (hb3.out.cell 2 _ rfl)) ?_) | ((with_reducible refine at_slot 29 ?_); refine wpList_load_cell rfl 3 (.tmp 28) rfl w.heap.size 1 rfl _ (load_intp _ _ _ _ (hb3.out.cell 1 _ rfl)) ?_) | ((with_reducible refine at_slot 35 ?_); refine wpList_load_cell rfl 9 (.tmp 34) rfl w.heap.size 2 rfl _ (load_strp _ _ _ _ (hb3.out.cell 2 _ rfl)) ?_) | ((with_reducible refine at_slot 39 ?_); refine wpList_load_cell rfl 9 (.tmp 38) rfl w.heap.size 3 rfl _ (load_strp _ _ _ _ (hb3.out.cell 3 _ rfl)) ?_) | ((with_reducible refine at_slot 45 ?_); refine wpList_load_cell rfl 9 (.tmp 44) rfl w.heap.size 3 rfl _ (load_strp _ _ _ _ (hb3.out.cell 3 _ rfl)) ?_) | ((with_reducible refine at_slot 49 ?_); refine wpList_load_cell rfl 9 (.tmp 48) rfl w.heap.size 4 rfl _ (load_strp _ _ _ _ (hb3.out.cell 4 _ rfl)) ?_) | ((with_reducible refine at_slot 55 ?_); refine wpList_load_cell rfl 9 (.tmp 54) rfl w.heap.size 4 rfl _ (load_strp _ _ _ _ (hb3.out.cell 4 _ rfl)) ?_))
            go_meet
            case rel =>
              refine ⟨congrArg Value.string ?_, hk3⟩
              rw [hT.out]
              refine ba_of ?_
              rw [hx2'.out, hxh'.out]
              have e1 := hlf0.out
              have e2 := hvf0.out
              simp [verbW, verbsL, opt, areaW, faceW, e1, e2, hV.out]
        · skip
          obtain ⟨l1, l2, l3⟩ := strs_nil_ne hL.out lf0
          by_cases vf0 : c.value = []
          · skip
            obtain rfl : V = ⟨#[]⟩ := by rw [hV.out, vf0]
            have hlf0 := Lib.hid lf0; have hvf0 := Lib.hid vf0; clear lf0 vf0
            go_wp2_with (first | ((with_reducible refine at_slot 12 ?_); refine wpList_b3 rfl rfl ?_; intro W3 hW3; have hk3 := Lib.hid (show Keeps (fun _ => False) W1 W3 by rw [hW3.out]; exact (Keeps.refl _ _).alloc _); have hb3 := Lib.hid (hB.out.keep hk3.out id); have s9 : Hid (W3.cell? ⟨W1.heap.size, 1, none⟩ = some (.string ⟨#[115, 101, 116]⟩)) := Lib.hid (by rw [hW3.out]; exact (BlkAt.new W1 9 [.string ⟨#[]⟩, .string ⟨#[115, 101, 116]⟩, .string ⟨#[100, 101, 108, 101, 116, 101]⟩]).cell 1 _ rfl); clear hW3) | ((with_reducible refine at_slot 14 ?_); refine wpList_load_cell rfl 3 (.tmp 13) rfl w.heap.size 0 rfl _ (load_intp _ _ _ _ (hb3.out.cell 0 _ rfl)) ?_) | ((with_reducible refine at_slot 16 ?_); refine wpList_load_cell rfl 9 (.tmp 15) rfl W1.heap.size 1 rfl _ (load_strp _ _ _ _ s9.out) ?_) | ((with_reducible refine at_slot 19 ?_); refine wpList_load_cell rfl 3 (.tmp 18) rfl w.heap.size 1 rfl _ (load_intp _ _ _ _ (hb3.out.cell 1 _ rfl)) ?_) | ((with_reducible refine at_slot 25 ?_); refine wpList_load_cell rfl 9 (.tmp 24) rfl w.heap.size 2 rfl _ (load_strp _ _ _ _ (hb3.out.cell 2 _ rfl)) ?_) | ((with_reducible refine at_slot 29 ?_); refine wpList_load_cell rfl 3 (.tmp 28) rfl w.heap.size 1 rfl _ (load_intp _ _ _ _ (hb3.out.cell 1 _ rfl)) ?_) | ((with_reducible refine at_slot 35 ?_); refine wpList_load_cell rfl 9 (.tmp 34) rfl w.heap.size 2 rfl _ (load_strp _ _ _ _ (hb3.out.cell 2 _ rfl)) ?_) | ((with_reducible refine at_slot 39 ?_); refine wpList_load_cell rfl 9 (.tmp 38) rfl w.heap.size 3 rfl _ (load_strp _ _ _ _ (hb3.out.cell 3 _ rfl)) ?_) | ((with_reducible refine at_slot 45 ?_); refine wpList_load_cell rfl 9 (.tmp 44) rfl w.heap.size 3 rfl _ (load_strp _ _ _ _ (hb3.out.cell 3 _ rfl)) ?_) | ((with_reducible refine at_slot 49 ?_); refine wpList_load_cell rfl 9 (.tmp 48) rfl w.heap.size 4 rfl _ (load_strp _ _ _ _ (hb3.out.cell 4 _ rfl)) ?_) | ((with_reducible refine at_slot 55 ?_); refine wpList_load_cell rfl 9 (.tmp 54) rfl w.heap.size 4 rfl _ (load_strp _ _ _ _ (hb3.out.cell 4 _ rfl)) ?_))
            go_meet
            case rel =>
              refine ⟨congrArg Value.string ?_, hk3⟩
              rw [hT.out]
              refine ba_of ?_
              rw [hx2'.out, hxh'.out]
              have e1 := hlf0.out
              have e2 := hvf0.out
              simp [verbW, verbsL, opt, areaW, faceW, e1, e2, hL.out]
          · skip
            obtain ⟨v1, v2, v3⟩ := strs_nil_ne hV.out vf0
            have hlf0 := Lib.hid lf0; have hvf0 := Lib.hid vf0; clear lf0 vf0
            go_wp2_with (first | ((with_reducible refine at_slot 12 ?_); refine wpList_b3 rfl rfl ?_; intro W3 hW3; have hk3 := Lib.hid (show Keeps (fun _ => False) W1 W3 by rw [hW3.out]; exact (Keeps.refl _ _).alloc _); have hb3 := Lib.hid (hB.out.keep hk3.out id); have s9 : Hid (W3.cell? ⟨W1.heap.size, 1, none⟩ = some (.string ⟨#[115, 101, 116]⟩)) := Lib.hid (by rw [hW3.out]; exact (BlkAt.new W1 9 [.string ⟨#[]⟩, .string ⟨#[115, 101, 116]⟩, .string ⟨#[100, 101, 108, 101, 116, 101]⟩]).cell 1 _ rfl); clear hW3) | ((with_reducible refine at_slot 14 ?_); refine wpList_load_cell rfl 3 (.tmp 13) rfl w.heap.size 0 rfl _ (load_intp _ _ _ _ (hb3.out.cell 0 _ rfl)) ?_) | ((with_reducible refine at_slot 16 ?_); refine wpList_load_cell rfl 9 (.tmp 15) rfl W1.heap.size 1 rfl _ (load_strp _ _ _ _ s9.out) ?_) | ((with_reducible refine at_slot 19 ?_); refine wpList_load_cell rfl 3 (.tmp 18) rfl w.heap.size 1 rfl _ (load_intp _ _ _ _ (hb3.out.cell 1 _ rfl)) ?_) | ((with_reducible refine at_slot 25 ?_); refine wpList_load_cell rfl 9 (.tmp 24) rfl w.heap.size 2 rfl _ (load_strp _ _ _ _ (hb3.out.cell 2 _ rfl)) ?_) | ((with_reducible refine at_slot 29 ?_); refine wpList_load_cell rfl 3 (.tmp 28) rfl w.heap.size 1 rfl _ (load_intp _ _ _ _ (hb3.out.cell 1 _ rfl)) ?_) | ((with_reducible refine at_slot 35 ?_); refine wpList_load_cell rfl 9 (.tmp 34) rfl w.heap.size 2 rfl _ (load_strp _ _ _ _ (hb3.out.cell 2 _ rfl)) ?_) | ((with_reducible refine at_slot 39 ?_); refine wpList_load_cell rfl 9 (.tmp 38) rfl w.heap.size 3 rfl _ (load_strp _ _ _ _ (hb3.out.cell 3 _ rfl)) ?_) | ((with_reducible refine at_slot 45 ?_); refine wpList_load_cell rfl 9 (.tmp 44) rfl w.heap.size 3 rfl _ (load_strp _ _ _ _ (hb3.out.cell 3 _ rfl)) ?_) | ((with_reducible refine at_slot 49 ?_); refine wpList_load_cell rfl 9 (.tmp 48) rfl w.heap.size 4 rfl _ (load_strp _ _ _ _ (hb3.out.cell 4 _ rfl)) ?_) | ((with_reducible refine at_slot 55 ?_); refine wpList_load_cell rfl 9 (.tmp 54) rfl w.heap.size 4 rfl _ (load_strp _ _ _ _ (hb3.out.cell 4 _ rfl)) ?_))
            go_meet
            case rel =>
              refine ⟨congrArg Value.string ?_, hk3⟩
              rw [hT.out]
              refine ba_of ?_
              rw [hx2'.out, hxh'.out]
              have e1 := hlf0.out
              have e2 := hvf0.out
              simp [verbW, verbsL, opt, areaW, faceW, e1, e2, hL.out, hV.out]
    by_cases h2 : a = 2
    · subst h2
      as_aux_lemma =>
      have hx2 : textD c = verbW 2 ++ headT c ++ opt c.leaf ++ opt c.value := by rw [hx'.out]; simp
      have hx2' := Lib.hid hx2; clear hx2 hx'
      by_cases g1 : h = 1
      · subst g1
        have hxh : headT c = (32 :: areaW) ++ 32 :: c.name := by unfold headT; rw [if_pos hh'.out.symm]
        have hxh' := Lib.hid hxh; clear hxh
        by_cases lf0 : c.leaf = []
        · skip
          obtain rfl : L = ⟨#[]⟩ := by rw [hL.out, lf0]
          by_cases vf0 : c.value = []
          · skip
            obtain rfl : V = ⟨#[]⟩ := by rw [hV.out, vf0]
            have hlf0 := Lib.hid lf0; have hvf0 := Lib.hid vf0; clear lf0 vf0
            go_wp2_with (first | ((with_reducible refine at_slot 12 ?_); refine wpList_b3 rfl rfl ?_; intro W3 hW3; have hk3 := Lib.hid (show Keeps (fun _ => False) W1 W3 by rw [hW3.out]; exact (Keeps.refl _ _).alloc _); have hb3 := Lib.hid (hB.out.keep hk3.out id); have s9 : Hid (W3.cell? ⟨W1.heap.size, 2, none⟩ = some (.string ⟨#[100, 101, 108, 101, 116, 101]⟩)) := Lib.hid (by rw [hW3.out]; exact (BlkAt.new W1 9 [.string ⟨#[]⟩, .string ⟨#[115, 101, 116]⟩, .string ⟨#[100, 101, 108, 101, 116, 101]⟩]).cell 2 _ rfl); clear hW3) | ((with_reducible refine at_slot 14 ?_); refine wpList_load_cell rfl 3 (.tmp 13) rfl w.heap.size 0 rfl _ (load_intp _ _ _ _ (hb3.out.cell 0 _ rfl)) ?_) | ((with_reducible refine at_slot 16 ?_); refine wpList_load_cell rfl 9 (.tmp 15) rfl W1.heap.size 2 rfl _ (load_strp _ _ _ _ s9.out) ?_) | ((with_reducible refine at_slot 19 ?_); refine wpList_load_cell rfl 3 (.tmp 18) rfl w.heap.size 1 rfl _ (load_intp _ _ _ _ (hb3.out.cell 1 _ rfl)) ?_) | ((with_reducible refine at_slot 25 ?_); refine wpList_load_cell rfl 9 (.tmp 24) rfl w.heap.size 2 rfl _ (load_strp _ _ _ _ (hb3.out.cell 2 _ rfl)) ?_) | ((with_reducible refine at_slot 29 ?_); refine wpList_load_cell rfl 3 (.tmp 28) rfl w.heap.size 1 rfl _ (load_intp _ _ _ _ (hb3.out.cell 1 _ rfl)) ?_) | ((with_reducible refine at_slot 35 ?_); refine wpList_load_cell rfl 9 (.tmp 34) rfl w.heap.size 2 rfl _ (load_strp _ _ _ _ (hb3.out.cell 2 _ rfl)) ?_) | ((with_reducible refine at_slot 39 ?_); refine wpList_load_cell rfl 9 (.tmp 38) rfl w.heap.size 3 rfl _ (load_strp _ _ _ _ (hb3.out.cell 3 _ rfl)) ?_) | ((with_reducible refine at_slot 45 ?_); refine wpList_load_cell rfl 9 (.tmp 44) rfl w.heap.size 3 rfl _ (load_strp _ _ _ _ (hb3.out.cell 3 _ rfl)) ?_) | ((with_reducible refine at_slot 49 ?_); refine wpList_load_cell rfl 9 (.tmp 48) rfl w.heap.size 4 rfl _ (load_strp _ _ _ _ (hb3.out.cell 4 _ rfl)) ?_) | ((with_reducible refine at_slot 55 ?_); refine wpList_load_cell rfl 9 (.tmp 54) rfl w.heap.size 4 rfl _ (load_strp _ _ _ _ (hb3.out.cell 4 _ rfl)) ?_))
            go_meet
            case rel =>
              refine ⟨congrArg Value.string ?_, hk3⟩
              rw [hT.out]
              refine ba_of ?_
              rw [hx2'.out, hxh'.out]
              have e1 := hlf0.out
              have e2 := hvf0.out
              simp [verbW, verbsL, opt, areaW, faceW, e1, e2, hN.out]
          · skip
            obtain ⟨v1, v2, v3⟩ := strs_nil_ne hV.out vf0
            have hlf0 := Lib.hid lf0; have hvf0 := Lib.hid vf0; clear lf0 vf0
            go_wp2_with (first | ((with_reducible refine at_slot 12 ?_); refine wpList_b3 rfl rfl ?_; intro W3 hW3; have hk3 := Lib.hid (show Keeps (fun _ => False) W1 W3 by rw [hW3.out]; exact (Keeps.refl _ _).alloc _); have hb3 := Lib.hid (hB.out.keep hk3.out id); have s9 : Hid (W3.cell? ⟨W1.heap.size, 2, none⟩ = some (.string ⟨#[100, 101, 108, 101, 116, 101]⟩)) := Lib.hid (by rw [hW3.out]; exact (BlkAt.new W1 9 [.string ⟨#[]⟩, .string ⟨#[115, 101, 116]⟩, .string ⟨#[100, 101, 108, 101, 116, 101]⟩]).cell 2 _ rfl); clear hW3) | ((with_reducible refine at_slot 14 ?_); refine wpList_load_cell rfl 3 (.tmp 13) rfl w.heap.size 0 rfl _ (load_intp _ _ _ _ (hb3.out.cell 0 _ rfl)) ?_) | ((with_reducible refine at_slot 16 ?_); refine wpList_load_cell rfl 9 (.tmp 15) rfl W1.heap.size 2 rfl _ (load_strp _ _ _ _ s9.out) ?_) | ((with_reducible refine at_slot 19 ?_); refine wpList_load_cell rfl 3 (.tmp 18) rfl w.heap.size 1 rfl _ (load_intp _ _ _ _ (hb3.out.cell 1 _ rfl)) ?_) | ((with_reducible refine at_slot 25 ?_); refine wpList_load_cell rfl 9 (.tmp 24) rfl w.heap.size 2 rfl _ (load_strp _ _ _ _ (hb3.out.cell 2 _ rfl)) ?_) | ((with_reducible refine at_slot 29 ?_); refine wpList_load_cell rfl 3 (.tmp 28) rfl w.heap.size 1 rfl _ (load_intp _ _ _ _ (hb3.out.cell 1 _ rfl)) ?_) | ((with_reducible refine at_slot 35 ?_); refine wpList_load_cell rfl 9 (.tmp 34) rfl w.heap.size 2 rfl _ (load_strp _ _ _ _ (hb3.out.cell 2 _ rfl)) ?_) | ((with_reducible refine at_slot 39 ?_); refine wpList_load_cell rfl 9 (.tmp 38) rfl w.heap.size 3 rfl _ (load_strp _ _ _ _ (hb3.out.cell 3 _ rfl)) ?_) | ((with_reducible refine at_slot 45 ?_); refine wpList_load_cell rfl 9 (.tmp 44) rfl w.heap.size 3 rfl _ (load_strp _ _ _ _ (hb3.out.cell 3 _ rfl)) ?_) | ((with_reducible refine at_slot 49 ?_); refine wpList_load_cell rfl 9 (.tmp 48) rfl w.heap.size 4 rfl _ (load_strp _ _ _ _ (hb3.out.cell 4 _ rfl)) ?_) | ((with_reducible refine at_slot 55 ?_); refine wpList_load_cell rfl 9 (.tmp 54) rfl w.heap.size 4 rfl _ (load_strp _ _ _ _ (hb3.out.cell 4 _ rfl)) ?_))
            go_meet
            case rel =>
              refine ⟨congrArg Value.string ?_, hk3⟩
              rw [hT.out]
              refine ba_of ?_
              rw [hx2'.out, hxh'.out]
              have e1 := hlf0.out
              have e2 := hvf0.out
              simp [verbW, verbsL, opt, areaW, faceW, e1, e2, hN.out, hV.out]
        · skip
          obtain ⟨l1, l2, l3⟩ := strs_nil_ne hL.out lf0
          by_cases vf0 : c.value = []
          · skip
            obtain rfl : V = ⟨#[]⟩ := by rw [hV.out, vf0]
            have hlf0 := Lib.hid lf0; have hvf0 := Lib.hid vf0; clear lf0 vf0
            go_wp2_with (first | ((with_reducible refine at_slot 12 ?_); refine wpList_b3 rfl rfl ?_; intro W3 hW3; have hk3 := Lib.hid (show Keeps (fun _ => False) W1 W3 by rw [hW3.out]; exact (Keeps.refl _ _).alloc _); have hb3 := Lib.hid (hB.out.keep hk3.out id); have s9 : Hid (W3.cell? ⟨W1.heap.size, 2, none⟩ = some (.string ⟨#[100, 101, 108, 101, 116, 101]⟩)) := Lib.hid (by rw [hW3.out]; exact (BlkAt.new W1 9 [.string ⟨#[]⟩, .string ⟨#[115, 101, 116]⟩, .string ⟨#[100, 101, 108, 101, 116, 101]⟩]).cell 2 _ rfl); clear hW3) | ((with_reducible refine at_slot 14 ?_); refine wpList_load_cell rfl 3 (.tmp 13) rfl w.heap.size 0 rfl _ (load_intp _ _ _ _ (hb3.out.cell 0 _ rfl)) ?_) | ((with_reducible refine at_slot 16 ?_); refine wpList_load_cell rfl 9 (.tmp 15) rfl W1.heap.size 2 rfl _ (load_strp _ _ _ _ s9.out) ?_) | ((with_reducible refine at_slot 19 ?_); refine wpList_load_cell rfl 3 (.tmp 18) rfl w.heap.size 1 rfl _ (load_intp _ _ _ _ (hb3.out.cell 1 _ rfl)) ?_) | ((with_reducible refine at_slot 25 ?_); refine wpList_load_cell rfl 9 (.tmp 24) rfl w.heap.size 2 rfl _ (load_strp _ _ _ _ (hb3.out.cell 2 _ rfl)) ?_) | ((with_reducible refine at_slot 29 ?_); refine wpList_load_cell rfl 3 (.tmp 28) rfl w.heap.size 1 rfl _ (load_intp _ _ _ _ (hb3.out.cell 1 _ rfl)) ?_) | ((with_reducible refine at_slot 35 ?_); refine wpList_load_cell rfl 9 (.tmp 34) rfl w.heap.size 2 rfl _ (load_strp _ _ _ _ (hb3.out.cell 2 _ rfl)) ?_) | ((with_reducible refine at_slot 39 ?_); refine wpList_load_cell rfl 9 (.tmp 38) rfl w.heap.size 3 rfl _ (load_strp _ _ _ _ (hb3.out.cell 3 _ rfl)) ?_) | ((with_reducible refine at_slot 45 ?_); refine wpList_load_cell rfl 9 (.tmp 44) rfl w.heap.size 3 rfl _ (load_strp _ _ _ _ (hb3.out.cell 3 _ rfl)) ?_) | ((with_reducible refine at_slot 49 ?_); refine wpList_load_cell rfl 9 (.tmp 48) rfl w.heap.size 4 rfl _ (load_strp _ _ _ _ (hb3.out.cell 4 _ rfl)) ?_) | ((with_reducible refine at_slot 55 ?_); refine wpList_load_cell rfl 9 (.tmp 54) rfl w.heap.size 4 rfl _ (load_strp _ _ _ _ (hb3.out.cell 4 _ rfl)) ?_))
            go_meet
            case rel =>
              refine ⟨congrArg Value.string ?_, hk3⟩
              rw [hT.out]
              refine ba_of ?_
              rw [hx2'.out, hxh'.out]
              have e1 := hlf0.out
              have e2 := hvf0.out
              simp [verbW, verbsL, opt, areaW, faceW, e1, e2, hN.out, hL.out]
          · skip
            obtain ⟨v1, v2, v3⟩ := strs_nil_ne hV.out vf0
            have hlf0 := Lib.hid lf0; have hvf0 := Lib.hid vf0; clear lf0 vf0
            go_wp2_with (first | ((with_reducible refine at_slot 12 ?_); refine wpList_b3 rfl rfl ?_; intro W3 hW3; have hk3 := Lib.hid (show Keeps (fun _ => False) W1 W3 by rw [hW3.out]; exact (Keeps.refl _ _).alloc _); have hb3 := Lib.hid (hB.out.keep hk3.out id); have s9 : Hid (W3.cell? ⟨W1.heap.size, 2, none⟩ = some (.string ⟨#[100, 101, 108, 101, 116, 101]⟩)) := Lib.hid (by rw [hW3.out]; exact (BlkAt.new W1 9 [.string ⟨#[]⟩, .string ⟨#[115, 101, 116]⟩, .string ⟨#[100, 101, 108, 101, 116, 101]⟩]).cell 2 _ rfl); clear hW3) | ((with_reducible refine at_slot 14 ?_); refine wpList_load_cell rfl 3 (.tmp 13) rfl w.heap.size 0 rfl _ (load_intp _ _ _ _ (hb3.out.cell 0 _ rfl)) ?_) | ((with_reducible refine at_slot 16 ?_); refine wpList_load_cell rfl 9 (.tmp 15) rfl W1.heap.size 2 rfl _ (load_strp _ _ _ _ s9.out) ?_) | ((with_reducible refine at_slot 19 ?_); refine wpList_load_cell rfl 3 (.tmp 18) rfl w.heap.size 1 rfl _ (load_intp _ _ _ _ (hb3.out.cell 1 _ rfl)) ?_) | ((with_reducible refine at_slot 25 ?_); refine wpList_load_cell rfl 9 (.tmp 24) rfl w.heap.size 2 rfl _ (load_strp _ _ _ _ (hb3.out.cell 2 _ rfl)) ?_) | ((with_reducible refine at_slot 29 ?_); refine wpList_load_cell rfl 3 (.tmp 28) rfl w.heap.size 1 rfl _ (load_intp _ _ _ _ (hb3.out.cell 1 _ rfl)) ?_) | ((with_reducible refine at_slot 35 ?_); refine wpList_load_cell rfl 9 (.tmp 34) rfl w.heap.size 2 rfl _ (load_strp _ _ _ _ (hb3.out.cell 2 _ rfl)) ?_) | ((with_reducible refine at_slot 39 ?_); refine wpList_load_cell rfl 9 (.tmp 38) rfl w.heap.size 3 rfl _ (load_strp _ _ _ _ (hb3.out.cell 3 _ rfl)) ?_) | ((with_reducible refine at_slot 45 ?_); refine wpList_load_cell rfl 9 (.tmp 44) rfl w.heap.size 3 rfl _ (load_strp _ _ _ _ (hb3.out.cell 3 _ rfl)) ?_) | ((with_reducible refine at_slot 49 ?_); refine wpList_load_cell rfl 9 (.tmp 48) rfl w.heap.size 4 rfl _ (load_strp _ _ _ _ (hb3.out.cell 4 _ rfl)) ?_) | ((with_reducible refine at_slot 55 ?_); refine wpList_load_cell rfl 9 (.tmp 54) rfl w.heap.size 4 rfl _ (load_strp _ _ _ _ (hb3.out.cell 4 _ rfl)) ?_))
            go_meet
            case rel =>
              refine ⟨congrArg Value.string ?_, hk3⟩
              rw [hT.out]
              refine ba_of ?_
              rw [hx2'.out, hxh'.out]
              have e1 := hlf0.out
              have e2 := hvf0.out
              simp [verbW, verbsL, opt, areaW, faceW, e1, e2, hN.out, hL.out, hV.out]
      by_cases g2 : h = 2
      · subst g2
        have hxh : headT c = (32 :: faceW) ++ 32 :: c.name := by unfold headT; rw [if_neg (by rw [← hh'.out]; decide), if_pos hh'.out.symm]
        have hxh' := Lib.hid hxh; clear hxh g1
        by_cases lf0 : c.leaf = []
        · skip
          obtain rfl : L = ⟨#[]⟩ := by rw [hL.out, lf0]
          by_cases vf0 : c.value = []
          · skip
            obtain rfl : V = ⟨#[]⟩ := by rw [hV.out, vf0]
            have hlf0 := Lib.hid lf0; have hvf0 := Lib.hid vf0; clear lf0 vf0
            go_wp2_with (first | ((with_reducible refine at_slot 12 ?_); refine wpList_b3 rfl rfl ?_; intro W3 hW3; have hk3 := Lib.hid (show Keeps (fun _ => False) W1 W3 by rw [hW3.out]; exact (Keeps.refl _ _).alloc _); have hb3 := Lib.hid (hB.out.keep hk3.out id); have s9 : Hid (W3.cell? ⟨W1.heap.size, 2, none⟩ = some (.string ⟨#[100, 101, 108, 101, 116, 101]⟩)) := Lib.hid (by rw [hW3.out]; exact (BlkAt.new W1 9 [.string ⟨#[]⟩, .string ⟨#[115, 101, 116]⟩, .string ⟨#[100, 101, 108, 101, 116, 101]⟩]).cell 2 _ rfl); clear hW3) | ((with_reducible refine at_slot 14 ?_); refine wpList_load_cell rfl 3 (.tmp 13) rfl w.heap.size 0 rfl _ (load_intp _ _ _ _ (hb3.out.cell 0 _ rfl)) ?_) | ((with_reducible refine at_slot 16 ?_); refine wpList_load_cell rfl 9 (.tmp 15) rfl W1.heap.size 2 rfl _ (load_strp _ _ _ _ s9.out) ?_) | ((with_reducible refine at_slot 19 ?_); refine wpList_load_cell rfl 3 (.tmp 18) rfl w.heap.size 1 rfl _ (load_intp _ _ _ _ (hb3.out.cell 1 _ rfl)) ?_) | ((with_reducible refine at_slot 25 ?_); refine wpList_load_cell rfl 9 (.tmp 24) rfl w.heap.size 2 rfl _ (load_strp _ _ _ _ (hb3.out.cell 2 _ rfl)) ?_) | ((with_reducible refine at_slot 29 ?_); refine wpList_load_cell rfl 3 (.tmp 28) rfl w.heap.size 1 rfl _ (load_intp _ _ _ _ (hb3.out.cell 1 _ rfl)) ?_) | ((with_reducible refine at_slot 35 ?_); refine wpList_load_cell rfl 9 (.tmp 34) rfl w.heap.size 2 rfl _ (load_strp _ _ _ _ (hb3.out.cell 2 _ rfl)) ?_) | ((with_reducible refine at_slot 39 ?_); refine wpList_load_cell rfl 9 (.tmp 38) rfl w.heap.size 3 rfl _ (load_strp _ _ _ _ (hb3.out.cell 3 _ rfl)) ?_) | ((with_reducible refine at_slot 45 ?_); refine wpList_load_cell rfl 9 (.tmp 44) rfl w.heap.size 3 rfl _ (load_strp _ _ _ _ (hb3.out.cell 3 _ rfl)) ?_) | ((with_reducible refine at_slot 49 ?_); refine wpList_load_cell rfl 9 (.tmp 48) rfl w.heap.size 4 rfl _ (load_strp _ _ _ _ (hb3.out.cell 4 _ rfl)) ?_) | ((with_reducible refine at_slot 55 ?_); refine wpList_load_cell rfl 9 (.tmp 54) rfl w.heap.size 4 rfl _ (load_strp _ _ _ _ (hb3.out.cell 4 _ rfl)) ?_))
            go_meet
            case rel =>
              refine ⟨congrArg Value.string ?_, hk3⟩
              rw [hT.out]
              refine ba_of ?_
              rw [hx2'.out, hxh'.out]
              have e1 := hlf0.out
              have e2 := hvf0.out
              simp [verbW, verbsL, opt, areaW, faceW, e1, e2, hN.out]
          · skip
            obtain ⟨v1, v2, v3⟩ := strs_nil_ne hV.out vf0
            have hlf0 := Lib.hid lf0; have hvf0 := Lib.hid vf0; clear lf0 vf0
            go_wp2_with (first | ((with_reducible refine at_slot 12 ?_); refine wpList_b3 rfl rfl ?_; intro W3 hW3; have hk3 := Lib.hid (show Keeps (fun _ => False) W1 W3 by rw [hW3.out]; exact (Keeps.refl _ _).alloc _); have hb3 := Lib.hid (hB.out.keep hk3.out id); have s9 : Hid (W3.cell? ⟨W1.heap.size, 2, none⟩ = some (.string ⟨#[100, 101, 108, 101, 116, 101]⟩)) := Lib.hid (by rw [hW3.out]; exact (BlkAt.new W1 9 [.string ⟨#[]⟩, .string ⟨#[115, 101, 116]⟩, .string ⟨#[100, 101, 108, 101, 116, 101]⟩]).cell 2 _ rfl); clear hW3) | ((with_reducible refine at_slot 14 ?_); refine wpList_load_cell rfl 3 (.tmp 13) rfl w.heap.size 0 rfl _ (load_intp _ _ _ _ (hb3.out.cell 0 _ rfl)) ?_) | ((with_reducible refine at_slot 16 ?_); refine wpList_load_cell rfl 9 (.tmp 15) rfl W1.heap.size 2 rfl _ (load_strp _ _ _ _ s9.out) ?_) | ((with_reducible refine at_slot 19 ?_); refine wpList_load_cell rfl 3 (.tmp 18) rfl w.heap.size 1 rfl _ (load_intp _ _ _ _ (hb3.out.cell 1 _ rfl)) ?_) | ((with_reducible refine at_slot 25 ?_); refine wpList_load_cell rfl 9 (.tmp 24) rfl w.heap.size 2 rfl _ (load_strp _ _ _ _ (hb3.out.cell 2 _ rfl)) ?_) | ((with_reducible refine at_slot 29 ?_); refine wpList_load_cell rfl 3 (.tmp 28) rfl w.heap.size 1 rfl _ (load_intp _ _ _ _ (hb3.out.cell 1 _ rfl)) ?_) | ((with_reducible refine at_slot 35 ?_); refine wpList_load_cell rfl 9 (.tmp 34) rfl w.heap.size 2 rfl _ (load_strp _ _ _ _ (hb3.out.cell 2 _ rfl)) ?_) | ((with_reducible refine at_slot 39 ?_); refine wpList_load_cell rfl 9 (.tmp 38) rfl w.heap.size 3 rfl _ (load_strp _ _ _ _ (hb3.out.cell 3 _ rfl)) ?_) | ((with_reducible refine at_slot 45 ?_); refine wpList_load_cell rfl 9 (.tmp 44) rfl w.heap.size 3 rfl _ (load_strp _ _ _ _ (hb3.out.cell 3 _ rfl)) ?_) | ((with_reducible refine at_slot 49 ?_); refine wpList_load_cell rfl 9 (.tmp 48) rfl w.heap.size 4 rfl _ (load_strp _ _ _ _ (hb3.out.cell 4 _ rfl)) ?_) | ((with_reducible refine at_slot 55 ?_); refine wpList_load_cell rfl 9 (.tmp 54) rfl w.heap.size 4 rfl _ (load_strp _ _ _ _ (hb3.out.cell 4 _ rfl)) ?_))
            go_meet
            case rel =>
              refine ⟨congrArg Value.string ?_, hk3⟩
              rw [hT.out]
              refine ba_of ?_
              rw [hx2'.out, hxh'.out]
              have e1 := hlf0.out
              have e2 := hvf0.out
              simp [verbW, verbsL, opt, areaW, faceW, e1, e2, hN.out, hV.out]
        · skip
          obtain ⟨l1, l2, l3⟩ := strs_nil_ne hL.out lf0
          by_cases vf0 : c.value = []
          · skip
            obtain rfl : V = ⟨#[]⟩ := by rw [hV.out, vf0]
            have hlf0 := Lib.hid lf0; have hvf0 := Lib.hid vf0; clear lf0 vf0
            go_wp2_with (first | ((with_reducible refine at_slot 12 ?_); refine wpList_b3 rfl rfl ?_; intro W3 hW3; have hk3 := Lib.hid (show Keeps (fun _ => False) W1 W3 by rw [hW3.out]; exact (Keeps.refl _ _).alloc _); have hb3 := Lib.hid (hB.out.keep hk3.out id); have s9 : Hid (W3.cell? ⟨W1.heap.size, 2, none⟩ = some (.string ⟨#[100, 101, 108, 101, 116, 101]⟩)) := Lib.hid (by rw [hW3.out]; exact (BlkAt.new W1 9 [.string ⟨#[]⟩, .string ⟨#[115, 101, 116]⟩, .string ⟨#[100, 101, 108, 101, 116, 101]⟩]).cell 2 _ rfl); clear hW3) | ((with_reducible refine at_slot 14 ?_); refine wpList_load_cell rfl 3 (.tmp 13) rfl w.heap.size 0 rfl _ (load_intp _ _ _ _ (hb3.out.cell 0 _ rfl)) ?_) | ((with_reducible refine at_slot 16 ?_); refine wpList_load_cell rfl 9 (.tmp 15) rfl W1.heap.size 2 rfl _ (load_strp _ _ _ _ s9.out) ?_) | ((with_reducible refine at_slot 19 ?_); refine wpList_load_cell rfl 3 (.tmp 18) rfl w.heap.size 1 rfl _ (load_intp _ _ _ _ (hb3.out.cell 1 _ rfl)) ?_) | ((with_reducible refine at_slot 25 ?_); refine wpList_load_cell rfl 9 (.tmp 24) rfl w.heap.size 2 rfl _ (load_strp _ _ _ _ (hb3.out.cell 2 _ rfl)) ?_) | ((with_reducible refine at_slot 29 ?_); refine wpList_load_cell rfl 3 (.tmp 28) rfl w.heap.size 1 rfl _ (load_intp _ _ _ _ (hb3.out.cell 1 _ rfl)) ?_) | ((with_reducible refine at_slot 35 ?_); refine wpList_load_cell rfl 9 (.tmp 34) rfl w.heap.size 2 rfl _ (load_strp _ _ _ _ (hb3.out.cell 2 _ rfl)) ?_) | ((with_reducible refine at_slot 39 ?_); refine wpList_load_cell rfl 9 (.tmp 38) rfl w.heap.size 3 rfl _ (load_strp _ _ _ _ (hb3.out.cell 3 _ rfl)) ?_) | ((with_reducible refine at_slot 45 ?_); refine wpList_load_cell rfl 9 (.tmp 44) rfl w.heap.size 3 rfl _ (load_strp _ _ _ _ (hb3.out.cell 3 _ rfl)) ?_) | ((with_reducible refine at_slot 49 ?_); refine wpList_load_cell rfl 9 (.tmp 48) rfl w.heap.size 4 rfl _ (load_strp _ _ _ _ (hb3.out.cell 4 _ rfl)) ?_) | ((with_reducible refine at_slot 55 ?_); refine wpList_load_cell rfl 9 (.tmp 54) rfl w.heap.size 4 rfl _ (load_strp _ _ _ _ (hb3.out.cell 4 _ rfl)) ?_))
            go_meet
            case rel =>
              refine ⟨congrArg Value.string ?_, hk3⟩
              rw [hT.out]
              refine ba_of ?_
              rw [hx2'.out, hxh'.out]
              have e1 := hlf0.out
              have e2 := hvf0.out
              simp [verbW, verbsL, opt, areaW, faceW, e1, e2, hN.out, hL.out]
          · skip
            obtain ⟨v1, v2, v3⟩ := strs_nil_ne hV.out vf0
            have hlf0 := Lib.hid lf0; have hvf0 := Lib.hid vf0; clear lf0 vf0
            go_wp2_with (first | ((with_reducible refine at_slot 12 ?_); refine wpList_b3 rfl rfl ?_; intro W3 hW3; have hk3 := Lib.hid (show Keeps (fun _ => False) W1 W3 by rw [hW3.out]; exact (Keeps.refl _ _).alloc _); have hb3 := Lib.hid (hB.out.keep hk3.out id); have s9 : Hid (W3.cell? ⟨W1.heap.size, 2, none⟩ = some (.string ⟨#[100, 101, 108, 101, 116, 101]⟩)) := Lib.hid (by rw [hW3.out]; exact (BlkAt.new W1 9 [.string ⟨#[]⟩, .string ⟨#[115, 101, 116]⟩, .string ⟨#[100, 101, 108, 101, 116, 101]⟩]).cell 2 _ rfl); clear hW3) | ((with_reducible refine at_slot 14 ?_); refine wpList_load_cell rfl 3 (.tmp 13) rfl w.heap.size 0 rfl _ (load_intp _ _ _ _ (hb3.out.cell 0 _ rfl)) ?_) | ((with_reducible refine at_slot 16 ?_); refine wpList_load_cell rfl 9 (.tmp 15) rfl W1.heap.size 2 rfl _ (load_strp _ _ _ _ s9.out) ?_) | ((with_reducible refine at_slot 19 ?_); refine wpList_load_cell rfl 3 (.tmp 18) rfl w.heap.size 1 rfl _ (load_intp _ _ _ _ (hb3.out.cell 1 _ rfl)) ?_) | ((with_reducible refine at_slot 25 ?_); refine wpList_load_cell rfl 9 (.tmp 24) rfl w.heap.size 2 rfl _ (load_strp _ _ _ _ (hb3.out.cell 2 _ rfl)) ?_) | ((with_reducible refine at_slot 29 ?_); refine wpList_load_cell rfl 3 (.tmp 28) rfl w.heap.size 1 rfl _ (load_intp _ _ _ _ (hb3.out.cell 1 _ rfl)) ?_) | ((with_reducible refine at_slot 35 ?_); refine wpList_load_cell rfl 9 (.tmp 34) rfl w.heap.size 2 rfl _ (load_strp _ _ _ _ (hb3.out.cell 2 _ rfl)) ?_) | ((with_reducible refine at_slot 39 ?_); refine wpList_load_cell rfl 9 (.tmp 38) rfl w.heap.size 3 rfl _ (load_strp _ _ _ _ (hb3.out.cell 3 _ rfl)) ?_) | ((with_reducible refine at_slot 45 ?_); refine wpList_load_cell rfl 9 (.tmp 44) rfl w.heap.size 3 rfl _ (load_strp _ _ _ _ (hb3.out.cell 3 _ rfl)) ?_) | ((with_reducible refine at_slot 49 ?_); refine wpList_load_cell rfl 9 (.tmp 48) rfl w.heap.size 4 rfl _ (load_strp _ _ _ _ (hb3.out.cell 4 _ rfl)) ?_) | ((with_reducible refine at_slot 55 ?_); refine wpList_load_cell rfl 9 (.tmp 54) rfl w.heap.size 4 rfl _ (load_strp _ _ _ _ (hb3.out.cell 4 _ rfl)) ?_))
            go_meet
            case rel =>
              refine ⟨congrArg Value.string ?_, hk3⟩
              rw [hT.out]
              refine ba_of ?_
              rw [hx2'.out, hxh'.out]
              have e1 := hlf0.out
              have e2 := hvf0.out
              simp [verbW, verbsL, opt, areaW, faceW, e1, e2, hN.out, hL.out, hV.out]
      · have f1 : (h == 1) = false := by simpa using g1
        have f2 : (h == 2) = false := by simpa using g2
        have hxh : headT c = [] := by unfold headT; rw [if_neg (by rw [← hh'.out]; exact g1), if_neg (by rw [← hh'.out]; exact g2)]
        have hxh' := Lib.hid hxh; clear hxh g1 g2
        by_cases lf0 : c.leaf = []
        · skip
          obtain rfl : L = ⟨#[]⟩ := by rw [hL.out, lf0]
          by_cases vf0 : c.value = []
          · skip
            obtain rfl : V = ⟨#[]⟩ := by rw [hV.out, vf0]
            have hlf0 := Lib.hid lf0; have hvf0 := Lib.hid vf0; clear lf0 vf0
            go_wp2_with (first | ((with_reducible refine at_slot 12 ?_); refine wpList_b3 rfl rfl ?_; intro W3 hW3; have hk3 := Lib.hid (show Keeps (fun _ => False) W1 W3 by rw [hW3.out]; exact (Keeps.refl _ _).alloc _); have hb3 := Lib.hid (hB.out.keep hk3.out id); have s9 : Hid (W3.cell? ⟨W1.heap.size, 2, none⟩ = some (.string ⟨#[100, 101, 108, 101, 116, 101]⟩)) := Lib.hid (by rw [hW3.out]; exact (BlkAt.new W1 9 [.string ⟨#[]⟩, .string ⟨#[115, 101, 116]⟩, .string ⟨#[100, 101, 108, 101, 116, 101]⟩]).cell 2 _ rfl); clear hW3) | ((with_reducible refine at_slot 14 ?_); refine wpList_load_cell rfl 3 (.tmp 13) rfl w.heap.size 0 rfl _ (load_intp _ _ _ _ (hb3.out.cell 0 _ rfl)) ?_) | ((with_reducible refine at_slot 16 ?_); refine wpList_load_cell rfl 9 (.tmp 15) rfl W1.heap.size 2 rfl _ (load_strp _ _ _ _ s9.out) ?_) | ((with_reducible refine at_slot 19 ?_); refine wpList_load_cell rfl 3 (.tmp 18) rfl w.heap.size 1 rfl _ (load_intp _ _ _ _ (hb3.out.cell 1 _ rfl)) ?_) | ((with_reducible refine at_slot 25 ?_); refine wpList_load_cell rfl 9 (.tmp 24) rfl w.heap.size 2 rfl _ (load_strp _ _ _ _ (hb3.out.cell 2 _ rfl)) ?_) | ((with_reducible refine at_slot 29 ?_); refine wpList_load_cell rfl 3 (.tmp 28) rfl w.heap.size 1 rfl _ (load_intp _ _ _ _ (hb3.out.cell 1 _ rfl)) ?_) | ((with_reducible refine at_slot 35 ?_); refine wpList_load_cell rfl 9 (.tmp 34) rfl w.heap.size 2 rfl _ (load_strp _ _ _ _ (hb3.out.cell 2 _ rfl)) ?_) | ((with_reducible refine at_slot 39 ?_); refine wpList_load_cell rfl 9 (.tmp 38) rfl w.heap.size 3 rfl _ (load_strp _ _ _ _ (hb3.out.cell 3 _ rfl)) ?_) | ((with_reducible refine at_slot 45 ?_); refine wpList_load_cell rfl 9 (.tmp 44) rfl w.heap.size 3 rfl _ (load_strp _ _ _ _ (hb3.out.cell 3 _ rfl)) ?_) | ((with_reducible refine at_slot 49 ?_); refine wpList_load_cell rfl 9 (.tmp 48) rfl w.heap.size 4 rfl _ (load_strp _ _ _ _ (hb3.out.cell 4 _ rfl)) ?_) | ((with_reducible refine at_slot 55 ?_); refine wpList_load_cell rfl 9 (.tmp 54) rfl w.heap.size 4 rfl _ (load_strp _ _ _ _ (hb3.out.cell 4 _ rfl)) ?_))
            go_meet
            case rel =>
              refine ⟨congrArg Value.string ?_, hk3⟩
              rw [hT.out]
              refine ba_of ?_
              rw [hx2'.out, hxh'.out]
              have e1 := hlf0.out
              have e2 := hvf0.out
              simp [verbW, verbsL, opt, areaW, faceW, e1, e2]
          · skip
            obtain ⟨v1, v2, v3⟩ := strs_nil_ne hV.out vf0
            have hlf0 := Lib.hid lf0; have hvf0 := Lib.hid vf0; clear lf0 vf0
            go_wp2_with (first | ((with_reducible refine at_slot 12 ?_); refine wpList_b3 rfl rfl ?_; intro W3 hW3; have hk3 := Lib.hid (show Keeps (fun _ => False) W1 W3 by rw [hW3.out]; exact (Keeps.refl _ _).alloc _); have hb3 := Lib.hid (hB.out.keep hk3.out id); have s9 : Hid (W3.cell? ⟨W1.heap.size, 2, none⟩ = some (.string ⟨#[100, 101, 108, 101, 116, 101]⟩)) := Lib.hid (by rw [hW3.out]; exact (BlkAt.new W1 9 [.string ⟨#[]⟩, .string ⟨#[115, 101, 116]⟩, .string ⟨#[100, 101, 108, 101, 116, 101]⟩]).cell 2 _ rfl); clear hW3) | ((with_reducible refine at_slot 14 ?_); refine wpList_load_cell rfl 3 (.tmp 13) rfl w.heap.size 0 rfl _ (load_intp _ _ _ _ (hb3.out.cell 0 _ rfl)) ?_) | ((with_reducible refine at_slot 16 ?_); refine wpList_load_cell rfl 9 (.tmp 15) rfl W1.heap.size 2 rfl _ (load_strp _ _ _ _ s9.out) ?_) | ((with_reducible refine at_slot 19 ?_); refine wpList_load_cell rfl 3 (.tmp 18) rfl w.heap.size 1 rfl _ (load_intp _ _ _ _ (hb3.out.cell 1 _ rfl)) ?_) | ((with_reducible refine at_slot 25 ?_); refine wpList_load_cell rfl 9 (.tmp 24) rfl w.heap.size 2 rfl _ (load_strp _ _ _ _ (hb3.out.cell 2 _ rfl)) ?_) | ((with_reducible refine at_slot 29 ?_); refine wpList_load_cell rfl 3 (.tmp 28) rfl w.heap.size 1 rfl _ (load_intp _ _ _ _ (hb3.out.cell 1 _ rfl)) ?_) | ((with_reducible refine at_slot 35 ?_); refine wpList_load_cell rfl 9 (.tmp 34) rfl w.heap.size 2 rfl _ (load_strp _ _ _ _ (hb3.out.cell 2 _ rfl)) ?_) | ((with_reducible refine at_slot 39 ?_); refine wpList_load_cell rfl 9 (.tmp 38) rfl w.heap.size 3 rfl _ (load_strp _ _ _ _ (hb3.out.cell 3 _ rfl)) ?_) | ((with_reducible refine at_slot 45 ?_); refine wpList_load_cell rfl 9 (.tmp 44) rfl w.heap.size 3 rfl _ (load_strp _ _ _ _ (hb3.out.cell 3 _ rfl)) ?_) | ((with_reducible refine at_slot 49 ?_); refine wpList_load_cell rfl 9 (.tmp 48) rfl w.heap.size 4 rfl _ (load_strp _ _ _ _ (hb3.out.cell 4 _ rfl)) ?_) | ((with_reducible refine at_slot 55 ?_); refine wpList_load_cell rfl 9 (.tmp 54) rfl w.heap.size 4 rfl _ (load_strp _ _ _ _ (hb3.out.cell 4 _ rfl)) ?_))
            go_meet
            case rel =>
              refine ⟨congrArg Value.string ?_, hk3⟩
              rw [hT.out]
              refine ba_of ?_
              rw [hx2'.out, hxh'.out]
              have e1 := hlf0.out
              have e2 := hvf0.out
              simp [verbW, verbsL, opt, areaW, faceW, e1, e2, hV.out]
        · skip
          obtain ⟨l1, l2, l3⟩ := strs_nil_ne hL.out lf0
          by_cases vf0 : c.value = []
          · skip
            obtain rfl : V = ⟨#[]⟩ := by rw [hV.out, vf0]
            have hlf0 := Lib.hid lf0; have hvf0 := Lib.hid vf0; clear lf0 vf0
            go_wp2_with (first | ((with_reducible refine at_slot 12 ?_); refine wpList_b3 rfl rfl ?_; intro W3 hW3; have hk3 := Lib.hid (show Keeps (fun _ => False) W1 W3 by rw [hW3.out]; exact (Keeps.refl _ _).alloc _); have hb3 := Lib.hid (hB.out.keep hk3.out id); have s9 : Hid (W3.cell? ⟨W1.heap.size, 2, none⟩ = some (.string ⟨#[100, 101, 108, 101, 116, 101]⟩)) := Lib.hid (by rw [hW3.out]; exact (BlkAt.new W1 9 [.string ⟨#[]⟩, .string ⟨#[115, 101, 116]⟩, .string ⟨#[100, 101, 108, 101, 116, 101]⟩]).cell 2 _ rfl); clear hW3) | ((with_reducible refine at_slot 14 ?_); refine wpList_load_cell rfl 3 (.tmp 13) rfl w.heap.size 0 rfl _ (load_intp _ _ _ _ (hb3.out.cell 0 _ rfl)) ?_) | ((with_reducible refine at_slot 16 ?_); refine wpList_load_cell rfl 9 (.tmp 15) rfl W1.heap.size 2 rfl _ (load_strp _ _ _ _ s9.out) ?_) | ((with_reducible refine at_slot 19 ?_); refine wpList_load_cell rfl 3 (.tmp 18) rfl w.heap.size 1 rfl _ (load_intp _ _ _ _ (hb3.out.cell 1 _ rfl)) ?_) | ((with_reducible refine at_slot 25 ?_); refine wpList_load_cell rfl 9 (.tmp 24) rfl w.heap.size 2 rfl _ (load_strp _ _ _ _ (hb3.out.cell 2 _ rfl)) ?_) | ((with_reducible refine at_slot 29 ?_); refine wpList_load_cell rfl 3 (.tmp 28) rfl w.heap.size 1 rfl _ (load_intp _ _ _ _ (hb3.out.cell 1 _ rfl)) ?_) | ((with_reducible refine at_slot 35 ?_); refine wpList_load_cell rfl 9 (.tmp 34) rfl w.heap.size 2 rfl _ (load_strp _ _ _ _ (hb3.out.cell 2 _ rfl)) ?_) | ((with_reducible refine at_slot 39 ?_); refine wpList_load_cell rfl 9 (.tmp 38) rfl w.heap.size 3 rfl _ (load_strp _ _ _ _ (hb3.out.cell 3 _ rfl)) ?_) | ((with_reducible refine at_slot 45 ?_); refine wpList_load_cell rfl 9 (.tmp 44) rfl w.heap.size 3 rfl _ (load_strp _ _ _ _ (hb3.out.cell 3 _ rfl)) ?_) | ((with_reducible refine at_slot 49 ?_); refine wpList_load_cell rfl 9 (.tmp 48) rfl w.heap.size 4 rfl _ (load_strp _ _ _ _ (hb3.out.cell 4 _ rfl)) ?_) | ((with_reducible refine at_slot 55 ?_); refine wpList_load_cell rfl 9 (.tmp 54) rfl w.heap.size 4 rfl _ (load_strp _ _ _ _ (hb3.out.cell 4 _ rfl)) ?_))
            go_meet
            case rel =>
              refine ⟨congrArg Value.string ?_, hk3⟩
              rw [hT.out]
              refine ba_of ?_
              rw [hx2'.out, hxh'.out]
              have e1 := hlf0.out
              have e2 := hvf0.out
              simp [verbW, verbsL, opt, areaW, faceW, e1, e2, hL.out]
          · skip
            obtain ⟨v1, v2, v3⟩ := strs_nil_ne hV.out vf0
            have hlf0 := Lib.hid lf0; have hvf0 := Lib.hid vf0; clear lf0 vf0
            go_wp2_with (first | ((with_reducible refine at_slot 12 ?_); refine wpList_b3 rfl rfl ?_; intro W3 hW3; have hk3 := Lib.hid (show Keeps (fun _ => False) W1 W3 by rw [hW3.out]; exact (Keeps.refl _ _).alloc _); have hb3 := Lib.hid (hB.out.keep hk3.out id); have s9 : Hid (W3.cell? ⟨W1.heap.size, 2, none⟩ = some (.string ⟨#[100, 101, 108, 101, 116, 101]⟩)) := Lib.hid (by rw [hW3.out]; exact (BlkAt.new W1 9 [.string ⟨#[]⟩, .string ⟨#[115, 101, 116]⟩, .string ⟨#[100, 101, 108, 101, 116, 101]⟩]).cell 2 _ rfl); clear hW3) | ((with_reducible refine at_slot 14 ?_); refine wpList_load_cell rfl 3 (.tmp 13) rfl w.heap.size 0 rfl _ (load_intp _ _ _ _ (hb3.out.cell 0 _ rfl)) ?_) | ((with_reducible refine at_slot 16 ?_); refine wpList_load_cell rfl 9 (.tmp 15) rfl W1.heap.size 2 rfl _ (load_strp _ _ _ _ s9.out) ?_) | ((with_reducible refine at_slot 19 ?_); refine wpList_load_cell rfl 3 (.tmp 18) rfl w.heap.size 1 rfl _ (load_intp _ _ _ _ (hb3.out.cell 1 _ rfl)) ?_) | ((with_reducible refine at_slot 25 ?_); refine wpList_load_cell rfl 9 (.tmp 24) rfl w.heap.size 2 rfl _ (load_strp _ _ _ _ (hb3.out.cell 2 _ rfl)) ?_) | ((with_reducible refine at_slot 29 ?_); refine wpList_load_cell rfl 3 (.tmp 28) rfl w.heap.size 1 rfl _ (load_intp _ _ _ _ (hb3.out.cell 1 _ rfl)) ?_) | ((with_reducible refine at_slot 35 ?_); refine wpList_load_cell rfl 9 (.tmp 34) rfl w.heap.size 2 rfl _ (load_strp _ _ _ _ (hb3.out.cell 2 _ rfl)) ?_) | ((with_reducible refine at_slot 39 ?_); refine wpList_load_cell rfl 9 (.tmp 38) rfl w.heap.size 3 rfl _ (load_strp _ _ _ _ (hb3.out.cell 3 _ rfl)) ?_) | ((with_reducible refine at_slot 45 ?_); refine wpList_load_cell rfl 9 (.tmp 44) rfl w.heap.size 3 rfl _ (load_strp _ _ _ _ (hb3.out.cell 3 _ rfl)) ?_) | ((with_reducible refine at_slot 49 ?_); refine wpList_load_cell rfl 9 (.tmp 48) rfl w.heap.size 4 rfl _ (load_strp _ _ _ _ (hb3.out.cell 4 _ rfl)) ?_) | ((with_reducible refine at_slot 55 ?_); refine wpList_load_cell rfl 9 (.tmp 54) rfl w.heap.size 4 rfl _ (load_strp _ _ _ _ (hb3.out.cell 4 _ rfl)) ?_))
            go_meet
            case rel =>
              refine ⟨congrArg Value.string ?_, hk3⟩
              rw [hT.out]
              refine ba_of ?_
              rw [hx2'.out, hxh'.out]
              have e1 := hlf0.out
              have e2 := hvf0.out
              simp [verbW, verbsL, opt, areaW, faceW, e1, e2, hL.out, hV.out]
    have c0 := hB.out.cell 0 _ rfl
    have c5 := hB.out.cell 5 _ rfl
    have e1 : (a == 1) = false := by simpa using h1
    have e2 : (a == 2) = false := by simpa using h2
    by_cases h3 : a = 3
    · subst h3
      as_aux_lemma =>
      have hx2 : textD c = verbW 3 := by rw [hx'.out]; simp
      have hx2' := Lib.hid hx2; clear hx2 hx' e1 e2
      clear c0 c5
      go_wp2_with (first | ((with_reducible refine at_slot 63 ?_); refine wpList_b9 rfl rfl ?_; intro W3 hW3; have hk3 := Lib.hid (show Keeps (fun _ => False) W1 W3 by rw [hW3.out]; exact (Keeps.refl _ _).alloc _); have d0 := Lib.hid ((hB.out.keep hk3.out id).cell 0 _ rfl); have s9 : Hid (W3.cell? ⟨W1.heap.size, 3, none⟩ = some (.string ⟨#[115, 104, 111, 119]⟩)) := Lib.hid (by rw [hW3.out]; exact (BlkAt.new W1 9 [.string ⟨#[]⟩, .string ⟨#[]⟩, .string ⟨#[]⟩, .string ⟨#[115, 104, 111, 119]⟩, .string ⟨#[99, 111, 109, 112, 97, 114, 101]⟩, .string ⟨#[99, 104, 101, 99, 107]⟩, .string ⟨#[99, 111, 109, 109, 105, 116]⟩, .string ⟨#[]⟩, .string ⟨#[99, 111, 110, 102, 105, 114, 109]⟩]).cell 3 _ rfl); clear hW3) | ((with_reducible refine at_slot 65 ?_); refine wpList_load_cell rfl 3 (.tmp 64) rfl w.heap.size 0 rfl _ (load_intp _ _ _ _ d0.out) ?_) | ((with_reducible refine at_slot 67 ?_); refine wpList_load_cell rfl 9 (.tmp 66) rfl W1.heap.size 3 rfl _ (load_strp _ _ _ _ s9.out) ?_))
      go_meet
      case rel =>
        refine ⟨congrArg Value.string ?_, hk3⟩
        rw [hT.out]
        refine ba_of ?_
        rw [hx2'.out]
        simp [verbW, verbsL]
    by_cases h4 : a = 4
    · subst h4
      as_aux_lemma =>
      have hx2 : textD c = verbW 4 := by rw [hx'.out]; simp
      have hx2' := Lib.hid hx2; clear hx2 hx' e1 e2
      clear c0 c5
      go_wp2_with (first | ((with_reducible refine at_slot 63 ?_); refine wpList_b9 rfl rfl ?_; intro W3 hW3; have hk3 := Lib.hid (show Keeps (fun _ => False) W1 W3 by rw [hW3.out]; exact (Keeps.refl _ _).alloc _); have d0 := Lib.hid ((hB.out.keep hk3.out id).cell 0 _ rfl); have s9 : Hid (W3.cell? ⟨W1.heap.size, 4, none⟩ = some (.string ⟨#[99, 111, 109, 112, 97, 114, 101]⟩)) := Lib.hid (by rw [hW3.out]; exact (BlkAt.new W1 9 [.string ⟨#[]⟩, .string ⟨#[]⟩, .string ⟨#[]⟩, .string ⟨#[115, 104, 111, 119]⟩, .string ⟨#[99, 111, 109, 112, 97, 114, 101]⟩, .string ⟨#[99, 104, 101, 99, 107]⟩, .string ⟨#[99, 111, 109, 109, 105, 116]⟩, .string ⟨#[]⟩, .string ⟨#[99, 111, 110, 102, 105, 114, 109]⟩]).cell 4 _ rfl); clear hW3) | ((with_reducible refine at_slot 65 ?_); refine wpList_load_cell rfl 3 (.tmp 64) rfl w.heap.size 0 rfl _ (load_intp _ _ _ _ d0.out) ?_) | ((with_reducible refine at_slot 67 ?_); refine wpList_load_cell rfl 9 (.tmp 66) rfl W1.heap.size 4 rfl _ (load_strp _ _ _ _ s9.out) ?_))
      go_meet
      case rel =>
        refine ⟨congrArg Value.string ?_, hk3⟩
        rw [hT.out]
        refine ba_of ?_
        rw [hx2'.out]
        simp [verbW, verbsL]
    by_cases h5 : a = 5
    · subst h5
      as_aux_lemma =>
      have hx2 : textD c = verbW 5 := by rw [hx'.out]; simp
      have hx2' := Lib.hid hx2; clear hx2 hx' e1 e2
      clear c0 c5
      go_wp2_with (first | ((with_reducible refine at_slot 63 ?_); refine wpList_b9 rfl rfl ?_; intro W3 hW3; have hk3 := Lib.hid (show Keeps (fun _ => False) W1 W3 by rw [hW3.out]; exact (Keeps.refl _ _).alloc _); have d0 := Lib.hid ((hB.out.keep hk3.out id).cell 0 _ rfl); have s9 : Hid (W3.cell? ⟨W1.heap.size, 5, none⟩ = some (.string ⟨#[99, 104, 101, 99, 107]⟩)) := Lib.hid (by rw [hW3.out]; exact (BlkAt.new W1 9 [.string ⟨#[]⟩, .string ⟨#[]⟩, .string ⟨#[]⟩, .string ⟨#[115, 104, 111, 119]⟩, .string ⟨#[99, 111, 109, 112, 97, 114, 101]⟩, .string ⟨#[99, 104, 101, 99, 107]⟩, .string ⟨#[99, 111, 109, 109, 105, 116]⟩, .string ⟨#[]⟩, .string ⟨#[99, 111, 110, 102, 105, 114, 109]⟩]).cell 5 _ rfl); clear hW3) | ((with_reducible refine at_slot 65 ?_); refine wpList_load_cell rfl 3 (.tmp 64) rfl w.heap.size 0 rfl _ (load_intp _ _ _ _ d0.out) ?_) | ((with_reducible refine at_slot 67 ?_); refine wpList_load_cell rfl 9 (.tmp 66) rfl W1.heap.size 5 rfl _ (load_strp _ _ _ _ s9.out) ?_))
      go_meet
      case rel =>
        refine ⟨congrArg Value.string ?_, hk3⟩
        rw [hT.out]
        refine ba_of ?_
        rw [hx2'.out]
        simp [verbW, verbsL]
    by_cases h6 : a = 6
    · subst h6
      as_aux_lemma =>
      have hx2 : textD c = verbW 6 := by rw [hx'.out]; simp
      have hx2' := Lib.hid hx2; clear hx2 hx' e1 e2
      clear c0 c5
      go_wp2_with (first | ((with_reducible refine at_slot 63 ?_); refine wpList_b9 rfl rfl ?_; intro W3 hW3; have hk3 := Lib.hid (show Keeps (fun _ => False) W1 W3 by rw [hW3.out]; exact (Keeps.refl _ _).alloc _); have d0 := Lib.hid ((hB.out.keep hk3.out id).cell 0 _ rfl); have s9 : Hid (W3.cell? ⟨W1.heap.size, 6, none⟩ = some (.string ⟨#[99, 111, 109, 109, 105, 116]⟩)) := Lib.hid (by rw [hW3.out]; exact (BlkAt.new W1 9 [.string ⟨#[]⟩, .string ⟨#[]⟩, .string ⟨#[]⟩, .string ⟨#[115, 104, 111, 119]⟩, .string ⟨#[99, 111, 109, 112, 97, 114, 101]⟩, .string ⟨#[99, 104, 101, 99, 107]⟩, .string ⟨#[99, 111, 109, 109, 105, 116]⟩, .string ⟨#[]⟩, .string ⟨#[99, 111, 110, 102, 105, 114, 109]⟩]).cell 6 _ rfl); clear hW3) | ((with_reducible refine at_slot 65 ?_); refine wpList_load_cell rfl 3 (.tmp 64) rfl w.heap.size 0 rfl _ (load_intp _ _ _ _ d0.out) ?_) | ((with_reducible refine at_slot 67 ?_); refine wpList_load_cell rfl 9 (.tmp 66) rfl W1.heap.size 6 rfl _ (load_strp _ _ _ _ s9.out) ?_))
      go_meet
      case rel =>
        refine ⟨congrArg Value.string ?_, hk3⟩
        rw [hT.out]
        refine ba_of ?_
        rw [hx2'.out]
        simp [verbW, verbsL]
    by_cases h8 : a = 8
    · subst h8
      as_aux_lemma =>
      have hx2 : textD c = verbW 8 := by rw [hx'.out]; simp
      have hx2' := Lib.hid hx2; clear hx2 hx' e1 e2
      clear c0 c5
      go_wp2_with (first | ((with_reducible refine at_slot 63 ?_); refine wpList_b9 rfl rfl ?_; intro W3 hW3; have hk3 := Lib.hid (show Keeps (fun _ => False) W1 W3 by rw [hW3.out]; exact (Keeps.refl _ _).alloc _); have d0 := Lib.hid ((hB.out.keep hk3.out id).cell 0 _ rfl); have s9 : Hid (W3.cell? ⟨W1.heap.size, 8, none⟩ = some (.string ⟨#[99, 111, 110, 102, 105, 114, 109]⟩)) := Lib.hid (by rw [hW3.out]; exact (BlkAt.new W1 9 [.string ⟨#[]⟩, .string ⟨#[]⟩, .string ⟨#[]⟩, .string ⟨#[115, 104, 111, 119]⟩, .string ⟨#[99, 111, 109, 112, 97, 114, 101]⟩, .string ⟨#[99, 104, 101, 99, 107]⟩, .string ⟨#[99, 111, 109, 109, 105, 116]⟩, .string ⟨#[]⟩, .string ⟨#[99, 111, 110, 102, 105, 114, 109]⟩]).cell 8 _ rfl); clear hW3) | ((with_reducible refine at_slot 65 ?_); refine wpList_load_cell rfl 3 (.tmp 64) rfl w.heap.size 0 rfl _ (load_intp _ _ _ _ d0.out) ?_) | ((with_reducible refine at_slot 67 ?_); refine wpList_load_cell rfl 9 (.tmp 66) rfl W1.heap.size 8 rfl _ (load_strp _ _ _ _ s9.out) ?_))
      go_meet
      case rel =>
        refine ⟨congrArg Value.string ?_, hk3⟩
        rw [hT.out]
        refine ba_of ?_
        rw [hx2'.out]
        simp [verbW, verbsL]
    by_cases h7 : a = 7
    · subst h7
      as_aux_lemma =>
      have hx2 : textD c = verbW 7 ++ 32 :: digitsD n := by rw [hx'.out]; simp
      have hx2' := Lib.hid hx2; clear hx2 hx' e1 e2
      obtain ⟨D, hD⟩ : ∃ D : ByteArray, D = ⟨(digitsD n).toArray⟩ := ⟨_, rfl⟩
      have hDs : D.size ≤ 1000000 := by
        have h9 : T.data.toList.length = T.size := by simp
        rw [hTl.out, hx2'.out, List.length_append, List.length_cons] at h9
        have : (digitsD n).length = D.size := by rw [hD]; rfl
        omega
      have hD' := Lib.hid hD; clear hD
      go_wp2_with fail
      refine (digits_any n D _ hn2 hD').mono ?_
      rintro e w3 ⟨rfl, k3⟩
      have k3' := Lib.hid k3; clear k3
      go_wp2_with fail
      go_meet
      case rel =>
        refine ⟨congrArg Value.string ?_, Lib.hid k3'.out⟩
        rw [hT.out]
        refine ba_of ?_
        rw [hx2'.out]
        simp [verbW, verbsL, hD'.out]
    by_cases h9 : a = 9
    · subst h9
      as_aux_lemma =>
      have hx2 : textD c = verbW 9 ++ 32 :: digitsD n := by rw [hx'.out]; simp
      have hx2' := Lib.hid hx2; clear hx2 hx' e1 e2
      obtain ⟨D, hD⟩ : ∃ D : ByteArray, D = ⟨(digitsD n).toArray⟩ := ⟨_, rfl⟩
      have hDs : D.size ≤ 1000000 := by
        have h9 : T.data.toList.length = T.size := by simp
        rw [hTl.out, hx2'.out, List.length_append, List.length_cons] at h9
        have : (digitsD n).length = D.size := by rw [hD]; rfl
        omega
      have hD' := Lib.hid hD; clear hD
      go_wp2_with fail
      refine (digits_any n D _ hn2 hD').mono ?_
      rintro e w3 ⟨rfl, k3⟩
      have k3' := Lib.hid k3; clear k3
      go_wp2_with fail
      go_meet
      case rel =>
        refine ⟨congrArg Value.string ?_, Lib.hid k3'.out⟩
        rw [hT.out]
        refine ba_of ?_
        rw [hx2'.out]
        simp [verbW, verbsL, hD'.out]
    have e3 : (a == 3) = false := by simpa using h3
    have e4 : (a == 4) = false := by simpa using h4
    have e5 : (a == 5) = false := by simpa using h5
    have e6 : (a == 6) = false := by simpa using h6
    have e8 : (a == 8) = false := by simpa using h8
    have e7 : (a == 7) = false := by simpa using h7
    have e9 : (a == 9) = false := by simpa using h9
    have hx2 : textD c = [] := by
      rw [hx'.out, if_neg (by omega), if_neg (by omega)]
      unfold verbW
      split
      · obtain ⟨k, rfl⟩ : ∃ k : Nat, a = k := ⟨a.toNat, by omega⟩
        obtain rfl : k = 0 := by omega
        rfl
      · rfl
    have hx2' := Lib.hid hx2; clear hx2 hx' h1 h2 h3 h4 h5 h6 h7 h8 h9
    go_wp2_with fail
    go_meet
    case rel =>
      refine ⟨congrArg Value.string ?_, Lib.hid (Keeps.refl _ _)⟩
      rw [hT.out, hx2'.out]
  case rest =>
    obtain ⟨rfl, hkx⟩ := hcut
    have hB2 := Lib.hid (hB.out.keep hkx.out id); have hK2 := Lib.hid (hK.out.trans hkx.out)
    clear hB hK hkx
    cases hR : readD T.data.toList with
    | none =>
      obtain rfl : r = false := Bool.eq_false_iff.2 fun e => by have hx := hr.out.1 e; rw [← hTl.out, hR] at hx; cases hx
      have hR' := Lib.hid hR; clear hR
      go_wp2_with fail
      refine (rRead_none T _ hTs hR').mono ?_
      rintro e w3 ⟨a2, h2, N2, L2, V2, n2, rfl, k3⟩
      have hK3 := Lib.hid (hK2.out.trans k3); clear k3
      go_upto_region 25 with ((with_reducible refine at_store 5 ?_); refine wpList_store_new rfl 31 (.tmp 5) (.tmp 83) rfl _ #[.int .i64 a2, .int .i64 h2, .string N2, .string L2, .string V2, .int .i64 n2] rfl rfl cmd6Info rfl (cmd_one _ _ _ _ _ _) ?_)
      refine wp_region_noPanic ?_
      refine wp_region_held_drew (S := (fun W => Keeps (fun _ => False) w W)) (by kernel_rfl) (((hK3.out.alloc _).drew)) (fun hHeld => ?_)
      refine tk 0 rfl ?_
      refine tk 1 rfl ?_
      refine tk 2 rfl ?_
      refine tkS 3 rfl ?_
      refine tkS 4 rfl ?_
      refine tkS 5 rfl ?_
      refine tk 6 rfl ?_
      refine tk 7 rfl ?_
      refine tk 8 rfl ?_
      refine wpAnyH_done (by kernel_rfl) (NoPanic.normal ?_) _
      go_wp2_with fail
      go_ret2
      exact ⟨rfl, hHeld⟩
    | some d =>
      have hR' := Lib.hid hR; clear hR
      obtain ⟨N2, hN2⟩ : ∃ N2 : ByteArray, N2 = ⟨d.name.toArray⟩ := ⟨_, rfl⟩
      obtain ⟨L2, hL2⟩ : ∃ L2 : ByteArray, L2 = ⟨d.leaf.toArray⟩ := ⟨_, rfl⟩
      obtain ⟨V2, hV2⟩ : ∃ V2 : ByteArray, V2 = ⟨d.value.toArray⟩ := ⟨_, rfl⟩
      have hN2' := Lib.hid hN2; have hL2' := Lib.hid hL2; have hV2' := Lib.hid hV2
      clear hN2 hL2 hV2
      go_wp2_with fail
      refine (rRead_some T d N2 L2 V2 _ hTs hR' hN2' hL2' hV2').mono ?_
      rintro e w3 ⟨rfl, k3⟩
      obtain ⟨W5, hW5⟩ : ∃ W5, W5 = w3.alloc (.cells #[.int .i64 d.what, .int .i64 d.head, .string N2, .string L2, .string V2, .int .i64 d.n] 31) := ⟨_, rfl⟩
      have hB3 := Lib.hid (show BlkAt W5 w.heap.size 31 [.int .i64 a, .int .i64 h, .string N, .string L, .string V, .int .i64 n] by rw [hW5]; exact (hB2.out.keep k3 id).alloc (.cells #[.int .i64 d.what, .int .i64 d.head, .string N2, .string L2, .string V2, .int .i64 d.n] 31))
      have hB5 := Lib.hid (show BlkAt W5 w3.heap.size 31 [.int .i64 d.what, .int .i64 d.head, .string N2, .string L2, .string V2, .int .i64 d.n] by rw [hW5]; exact BlkAt.new w3 31 [.int .i64 d.what, .int .i64 d.head, .string N2, .string L2, .string V2, .int .i64 d.n])
      have hK3 := Lib.hid (show Keeps (fun _ => False) w W5 by rw [hW5]; exact (hK2.out.trans k3).alloc _)
      have hW5' := Lib.hid hW5
      clear k3 hW5
      go_upto_region 25 with ((with_reducible refine at_store 5 ?_); refine wpList_store_new rfl 31 (.tmp 5) (.tmp 83) rfl _ #[.int .i64 d.what, .int .i64 d.head, .string N2, .string L2, .string V2, .int .i64 d.n] rfl rfl cmd6Info rfl (cmd_one _ _ _ _ _ _) ?_)
      rw [← hW5'.out]
      clear hW5' hB2 hK2
      by_cases q0 : d.what = c.what
      rotate_left
      · skip
        as_aux_lemma =>
        obtain rfl : r = false := Bool.eq_false_iff.2 fun e => by have hx := hr.out.1 e; rw [← hTl.out, hR'.out] at hx; injection hx with hx; exact q0 (by rw [hx])
        have b0 : (d.what == a) = false := by rw [ha'.out]; simpa using q0
        clear q0
        refine wp_region_noPanic ?_
        refine wp_region_held_drew (S := (fun W => Keeps (fun _ => False) W5 W)) (by kernel_rfl) (((Keeps.refl _ _).drew)) (fun hHeld => ?_)
        refine tk 0 rfl ?_
        refine tk 1 rfl ?_
        refine tk 2 rfl ?_
        refine tkL 3 rfl (yieldsIf_load_mid (by rfl) 31 (.tmp 5) rfl w3.heap.size 0 rfl [.int .i64 d.what, .int .i64 d.head, .string N2, .string L2, .string V2, .int .i64 d.n] _ (fun _ s => (hB5.out.keep s id).range) Tryd.underlying31 rfl cmd6Info) ?_
        refine tkL 4 rfl (yieldsIf_load_mid (by rfl) 31 (.tmp 1) rfl w.heap.size 0 rfl [.int .i64 a, .int .i64 h, .string N, .string L, .string V, .int .i64 n] _ (fun _ s => (hB3.out.keep s id).range) Tryd.underlying31 rfl cmd6Info) ?_
        refine tk 5 rfl ?_
        refine tk 6 rfl ?_
        refine tk 7 rfl ?_
        refine tk 8 rfl ?_
        refine wpAnyH_done (by kernel_rfl) (NoPanic.normal ?_) _
        go_wp2_with fail
        go_ret2
        exact ⟨rfl, hK3.out.trans hHeld⟩
      by_cases q1 : d.head = c.head
      rotate_left
      · skip
        as_aux_lemma =>
        obtain rfl : r = false := Bool.eq_false_iff.2 fun e => by have hx := hr.out.1 e; rw [← hTl.out, hR'.out] at hx; injection hx with hx; exact q1 (by rw [hx])
        have b0 : (d.what == a) = true := by rw [ha'.out, q0]; simp
        have b1 : (d.head == h) = false := by rw [hh'.out]; simpa using q1
        clear q0 q1
        refine wp_region_noPanic ?_
        refine wp_region_held_drew (S := (fun W => Keeps (fun _ => False) W5 W)) (by kernel_rfl) (((Keeps.refl _ _).drew)) (fun hHeld => ?_)
        refine tk 0 rfl ?_
        refine tk 1 rfl ?_
        refine tk 2 rfl ?_
        refine tkL 3 rfl (yieldsIf_load_mid (by rfl) 31 (.tmp 5) rfl w3.heap.size 0 rfl [.int .i64 d.what, .int .i64 d.head, .string N2, .string L2, .string V2, .int .i64 d.n] _ (fun _ s => (hB5.out.keep s id).range) Tryd.underlying31 rfl cmd6Info) ?_
        refine tkL 4 rfl (yieldsIf_load_mid (by rfl) 31 (.tmp 1) rfl w.heap.size 0 rfl [.int .i64 a, .int .i64 h, .string N, .string L, .string V, .int .i64 n] _ (fun _ s => (hB3.out.keep s id).range) Tryd.underlying31 rfl cmd6Info) ?_
        refine tk 5 rfl ?_
        refine tk 6 rfl ?_
        refine tk 7 rfl ?_
        refine tk 8 rfl ?_
        refine wpAnyH_done (by kernel_rfl) (NoPanic.normal ?_) _
        go_wp2_with fail
        go_ret2
        exact ⟨rfl, hK3.out.trans hHeld⟩
      by_cases q2 : d.name = c.name
      rotate_left
      · skip
        as_aux_lemma =>
        obtain rfl : r = false := Bool.eq_false_iff.2 fun e => by have hx := hr.out.1 e; rw [← hTl.out, hR'.out] at hx; injection hx with hx; exact q2 (by rw [hx])
        have b0 : (d.what == a) = true := by rw [ha'.out, q0]; simp
        have b1 : (d.head == h) = true := by rw [hh'.out, q1]; simp
        have b2 : (N2.toList == N.toList) = false := by rw [Lib.toList_data, Lib.toList_data, hN2'.out, hN.out]; simpa using q2
        clear q0 q1 q2
        refine wp_region_noPanic ?_
        refine wp_region_held_drew (S := (fun W => Keeps (fun _ => False) W5 W)) (by kernel_rfl) (((Keeps.refl _ _).drew)) (fun hHeld => ?_)
        refine tk 0 rfl ?_
        refine tk 1 rfl ?_
        refine tk 2 rfl ?_
        refine tkL 3 rfl (yieldsIf_load_mid (by rfl) 31 (.tmp 5) rfl w3.heap.size 0 rfl [.int .i64 d.what, .int .i64 d.head, .string N2, .string L2, .string V2, .int .i64 d.n] _ (fun _ s => (hB5.out.keep s id).range) Tryd.underlying31 rfl cmd6Info) ?_
        refine tkL 4 rfl (yieldsIf_load_mid (by rfl) 31 (.tmp 1) rfl w.heap.size 0 rfl [.int .i64 a, .int .i64 h, .string N, .string L, .string V, .int .i64 n] _ (fun _ s => (hB3.out.keep s id).range) Tryd.underlying31 rfl cmd6Info) ?_
        refine tk 5 rfl ?_
        refine tk 6 rfl ?_
        refine tk 7 rfl ?_
        refine tk 8 rfl ?_
        refine wpAnyH_done (by kernel_rfl) (NoPanic.normal ?_) _
        go_wp2_with fail
        go_ret2
        exact ⟨rfl, hK3.out.trans hHeld⟩
      by_cases q3 : d.leaf = c.leaf
      rotate_left
      · skip
        as_aux_lemma =>
        obtain rfl : r = false := Bool.eq_false_iff.2 fun e => by have hx := hr.out.1 e; rw [← hTl.out, hR'.out] at hx; injection hx with hx; exact q3 (by rw [hx])
        have b0 : (d.what == a) = true := by rw [ha'.out, q0]; simp
        have b1 : (d.head == h) = true := by rw [hh'.out, q1]; simp
        have b2 : (N2.toList == N.toList) = true := by rw [Lib.toList_data, Lib.toList_data, hN2'.out, hN.out, q2]; simp
        have b3 : (L2.toList == L.toList) = false := by rw [Lib.toList_data, Lib.toList_data, hL2'.out, hL.out]; simpa using q3
        clear q0 q1 q2 q3
        refine wp_region_noPanic ?_
        refine wp_region_held_drew (S := (fun W => Keeps (fun _ => False) W5 W)) (by kernel_rfl) (((Keeps.refl _ _).drew)) (fun hHeld => ?_)
        refine tk 0 rfl ?_
        refine tk 1 rfl ?_
        refine tk 2 rfl ?_
        refine tkL 3 rfl (yieldsIf_load_mid (by rfl) 31 (.tmp 5) rfl w3.heap.size 0 rfl [.int .i64 d.what, .int .i64 d.head, .string N2, .string L2, .string V2, .int .i64 d.n] _ (fun _ s => (hB5.out.keep s id).range) Tryd.underlying31 rfl cmd6Info) ?_
        refine tkL 4 rfl (yieldsIf_load_mid (by rfl) 31 (.tmp 1) rfl w.heap.size 0 rfl [.int .i64 a, .int .i64 h, .string N, .string L, .string V, .int .i64 n] _ (fun _ s => (hB3.out.keep s id).range) Tryd.underlying31 rfl cmd6Info) ?_
        refine tk 5 rfl ?_
        refine tk 6 rfl ?_
        refine tk 7 rfl ?_
        refine tk 8 rfl ?_
        refine wpAnyH_done (by kernel_rfl) (NoPanic.normal ?_) _
        go_wp2_with fail
        go_ret2
        exact ⟨rfl, hK3.out.trans hHeld⟩
      by_cases q4 : d.value = c.value
      rotate_left
      · skip
        as_aux_lemma =>
        obtain rfl : r = false := Bool.eq_false_iff.2 fun e => by have hx := hr.out.1 e; rw [← hTl.out, hR'.out] at hx; injection hx with hx; exact q4 (by rw [hx])
        have b0 : (d.what == a) = true := by rw [ha'.out, q0]; simp
        have b1 : (d.head == h) = true := by rw [hh'.out, q1]; simp
        have b2 : (N2.toList == N.toList) = true := by rw [Lib.toList_data, Lib.toList_data, hN2'.out, hN.out, q2]; simp
        have b3 : (L2.toList == L.toList) = true := by rw [Lib.toList_data, Lib.toList_data, hL2'.out, hL.out, q3]; simp
        have b4 : (V2.toList == V.toList) = false := by rw [Lib.toList_data, Lib.toList_data, hV2'.out, hV.out]; simpa using q4
        clear q0 q1 q2 q3 q4
        refine wp_region_noPanic ?_
        refine wp_region_held_drew (S := (fun W => Keeps (fun _ => False) W5 W)) (by kernel_rfl) (((Keeps.refl _ _).drew)) (fun hHeld => ?_)
        refine tk 0 rfl ?_
        refine tk 1 rfl ?_
        refine tk 2 rfl ?_
        refine tkL 3 rfl (yieldsIf_load_mid (by rfl) 31 (.tmp 5) rfl w3.heap.size 0 rfl [.int .i64 d.what, .int .i64 d.head, .string N2, .string L2, .string V2, .int .i64 d.n] _ (fun _ s => (hB5.out.keep s id).range) Tryd.underlying31 rfl cmd6Info) ?_
        refine tkL 4 rfl (yieldsIf_load_mid (by rfl) 31 (.tmp 1) rfl w.heap.size 0 rfl [.int .i64 a, .int .i64 h, .string N, .string L, .string V, .int .i64 n] _ (fun _ s => (hB3.out.keep s id).range) Tryd.underlying31 rfl cmd6Info) ?_
        refine tk 5 rfl ?_
        refine tk 6 rfl ?_
        refine tk 7 rfl ?_
        refine tk 8 rfl ?_
        refine wpAnyH_done (by kernel_rfl) (NoPanic.normal ?_) _
        go_wp2_with fail
        go_ret2
        exact ⟨rfl, hK3.out.trans hHeld⟩
      by_cases q5 : d.n = c.n
      rotate_left
      · skip
        as_aux_lemma =>
        obtain rfl : r = false := Bool.eq_false_iff.2 fun e => by have hx := hr.out.1 e; rw [← hTl.out, hR'.out] at hx; injection hx with hx; exact q5 (by rw [hx])
        have b0 : (d.what == a) = true := by rw [ha'.out, q0]; simp
        have b1 : (d.head == h) = true := by rw [hh'.out, q1]; simp
        have b2 : (N2.toList == N.toList) = true := by rw [Lib.toList_data, Lib.toList_data, hN2'.out, hN.out, q2]; simp
        have b3 : (L2.toList == L.toList) = true := by rw [Lib.toList_data, Lib.toList_data, hL2'.out, hL.out, q3]; simp
        have b4 : (V2.toList == V.toList) = true := by rw [Lib.toList_data, Lib.toList_data, hV2'.out, hV.out, q4]; simp
        have b5 : (d.n == n) = false := by rw [hn'.out]; simpa using q5
        clear q0 q1 q2 q3 q4 q5
        refine wp_region_noPanic ?_
        refine wp_region_held_drew (S := (fun W => Keeps (fun _ => False) W5 W)) (by kernel_rfl) (((Keeps.refl _ _).drew)) (fun hHeld => ?_)
        refine tk 0 rfl ?_
        refine tk 1 rfl ?_
        refine tk 2 rfl ?_
        refine tkL 3 rfl (yieldsIf_load_mid (by rfl) 31 (.tmp 5) rfl w3.heap.size 0 rfl [.int .i64 d.what, .int .i64 d.head, .string N2, .string L2, .string V2, .int .i64 d.n] _ (fun _ s => (hB5.out.keep s id).range) Tryd.underlying31 rfl cmd6Info) ?_
        refine tkL 4 rfl (yieldsIf_load_mid (by rfl) 31 (.tmp 1) rfl w.heap.size 0 rfl [.int .i64 a, .int .i64 h, .string N, .string L, .string V, .int .i64 n] _ (fun _ s => (hB3.out.keep s id).range) Tryd.underlying31 rfl cmd6Info) ?_
        refine tk 5 rfl ?_
        refine tk 6 rfl ?_
        refine tk 7 rfl ?_
        refine tk 8 rfl ?_
        refine wpAnyH_done (by kernel_rfl) (NoPanic.normal ?_) _
        go_wp2_with fail
        go_ret2
        exact ⟨rfl, hK3.out.trans hHeld⟩
      have hdc : d = c := by cases d; cases c; simp_all
      obtain rfl : r = true := hr.out.2 (by rw [← hTl.out, hR'.out, hdc])
      have b0 : (d.what == a) = true := by rw [ha'.out, q0]; simp
      have b1 : (d.head == h) = true := by rw [hh'.out, q1]; simp
      have b2 : (N2.toList == N.toList) = true := by rw [Lib.toList_data, Lib.toList_data, hN2'.out, hN.out, q2]; simp
      have b3 : (L2.toList == L.toList) = true := by rw [Lib.toList_data, Lib.toList_data, hL2'.out, hL.out, q3]; simp
      have b4 : (V2.toList == V.toList) = true := by rw [Lib.toList_data, Lib.toList_data, hV2'.out, hV.out, q4]; simp
      have b5 : (d.n == n) = true := by rw [hn'.out, q5]; simp
      clear hdc q0 q1 q2 q3 q4 q5
      refine wp_region_noPanic ?_
      refine wp_region_held_drew (S := (fun W => Keeps (fun _ => False) W5 W)) (by kernel_rfl) (((Keeps.refl _ _).drew)) (fun hHeld => ?_)
      refine tk 0 rfl ?_
      refine tk 1 rfl ?_
      refine tk 2 rfl ?_
      refine tkL 3 rfl (yieldsIf_load_mid (by rfl) 31 (.tmp 5) rfl w3.heap.size 0 rfl [.int .i64 d.what, .int .i64 d.head, .string N2, .string L2, .string V2, .int .i64 d.n] _ (fun _ s => (hB5.out.keep s id).range) Tryd.underlying31 rfl cmd6Info) ?_
      refine tkL 4 rfl (yieldsIf_load_mid (by rfl) 31 (.tmp 1) rfl w.heap.size 0 rfl [.int .i64 a, .int .i64 h, .string N, .string L, .string V, .int .i64 n] _ (fun _ s => (hB3.out.keep s id).range) Tryd.underlying31 rfl cmd6Info) ?_
      refine tk 5 rfl ?_
      refine tk 6 rfl ?_
      refine tk 7 rfl ?_
      refine tk 8 rfl ?_
      refine wpAnyH_done (by kernel_rfl) (NoPanic.normal ?_) _
      go_wp2_with fail
      go_ret2
      exact ⟨rfl, hK3.out.trans hHeld⟩
end Go.Proofs.YtfflgbpppcfamaaDoor
