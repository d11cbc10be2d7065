/- conf.Set, walked: where there is room, and where there isn't (gen_cfi.py). -/
import Derived.Test.YtdannodhlaaoiaaGreatDoorWT11
import Derived.Test.YtdannodhlaaoiaaGreatDoorWT16
import Derived.Deep.DeepCutAuto
import Derived.OwnWalk
set_option linter.unusedVariables false
set_option linter.unusedSimpArgs false
set_option linter.unusedVariables false
set_option linter.unusedSimpArgs false
namespace Go.Proofs.YtdannodhlaaoiaaGreatDoor
open Go.RowKit

theorem lineVals_len (l : LineD) : (lineVals l).length = 4 := rfl
theorem lineVals_one (l : LineD) : ∀ u ∈ lineVals l, u.oneCell' = true := by
  intro u hu; simp [lineVals, strv] at hu; rcases hu with rfl | rfl | rfl | rfl <;> rfl
theorem RowsAt.lines {w : World} {v : Value} {ls : List LineD} (h : RowsAt 4 lineVals w v ls) : LinesAt w v ls := by
  obtain ⟨p, c, rfl, -, -, hr⟩ := h
  exact ⟨p, c, rfl, hr⟩
theorem lineAll : ∃ i, Tryz.prog.info? 50 = some i ∧ i.zero = some (.agg #[.int .i64 0, .string ⟨#[]⟩, .string ⟨#[]⟩, .string ⟨#[]⟩]) ∧ i.size = 4 ∧ i.bytes = 56 := by
  have h : (Tryz.prog.info? 50).map (fun i => (i.zero, i.size, i.bytes)) = some (some (.agg #[.int .i64 0, .string ⟨#[]⟩, .string ⟨#[]⟩, .string ⟨#[]⟩]), 4, 56) := by kernel_rfl
  obtain ⟨i, hi, e⟩ := Option.map_eq_some_iff.1 h
  injection e with e1 e; injection e with e2 e3
  exact ⟨i, hi, e1, e2, e3⟩
/-- make of rows of no length -/
theorem wp_make_r {α : Type} {sz : Nat} {cv : α → List Value} {P : Program} {w : World} {o : Oper} {a : Act} {K : Act → World → Prop} {Q : Exit → Act → World → Prop} (l c : Operand) (t : TypeId) (ho : o.op = .makeSlice t l c) (e : TypeId) (i : TypeInfo) (z : Value)
    (ht : P.underlying t = some (.slice e)) (hi : P.info? e = some i) (hz : i.zero = some z) (hsize : i.size = sz) (by_ : Nat) (hby : i.bytes = by_) (hby1 : by_ ≤ 100000) (n : Nat) (C : Int) (hC : C = (n : Int)) (hl : a.eval l = .int .i64 0) (hc : a.eval c = .int .i64 C) (hn : n ≤ 1000000000)
    (h : ∀ w', OwnR (α := α) e sz cv w w' (.slice (some ⟨w.heap.size, 0, none⟩) 0 n) [] → Keeps (fun _ => False) w w' → K (a.put o.dst (.slice (some ⟨w.heap.size, 0, none⟩) 0 n)) w') : Oper.wp P o a w K Q := by
  subst hC
  subst hby
  have hb : i.bytes * n ≤ 100000 * 1000000000 := Nat.mul_le_mul hby1 hn
  obtain ⟨w', hrun, r1, r2⟩ := run_make_own (P := P) w 0 t e i z sz ht hi hz hsize .i64 .i64 n (by omega) (by unfold maxLen; omega) (Nat.zero_le _)
  unfold Oper.wp
  simp [execOp, ho, hl, hc, hrun, Result.andThen]
  refine h w' ⟨by simpa [rowCells] using r1, fun k e => ?_, r2.size⟩ ((Keeps.refl _ _).grown r2 (fun k e => by cases e))
  simp only [Value.ownBlock, Option.some.injEq] at e
  omega
theorem wpList_append_rows {α : Type} {sz : Nat} {cv : α → List Value} {P : Program} {w : World} {ops : Array Oper} {rest : List Oper} {o : Oper} {a : Act} {Q : Exit → Act → World → Prop} (hgd : o.guard = none) (s x : Operand) (t e : TypeId)
    (ho : o.op = .call { callee := .builtin .append, args := #[s, x], argTypes := #[t, t] })
    (i : TypeInfo) (z : Value) (by_ : Nat) (ht : P.underlying t = some (.slice e)) (hi : P.info? e = some i) (hz : i.zero = some z) (hsize : i.size = sz) (hby : i.bytes = by_) (hzs : z.cells.size = sz) (hsz0 : 0 < sz) (hby1 : by_ ≤ 100000)
    (hcv : ∀ x, (cv x).length = sz) (h1 : ∀ (x : α), ∀ u ∈ cv x, u.oneCell' = true) (w0 : World) (v : Value) (xs : List α) (hs : a.eval s = v) (hown : OwnR e sz cv w0 w v xs) (sv : Value) (hx : a.eval x = sv) (ys : List α) (hl : RowsAt sz cv w sv ys) (hsz : xs.length + ys.length ≤ 1000000000)
    (h : ∀ p c w', Hid (OwnR e sz cv w0 w' (.slice p (xs.length + ys.length) c) (xs ++ ys)) → Hid (Grown w v p (xs.length + ys.length) c w') → wpList P ops Q rest (a.put o.dst (.slice p (xs.length + ys.length) c)) w') : wpList P ops Q (o :: rest) a w :=
  wpList_plain hgd fun _ hK => wp_append_rows s x t e ho i z by_ ht hi hz hsize hby hzs hsz0 hby1 hcv h1 w0 v xs hs hown sv hx ys hl hsz (fun p c w' h1 h2 => hK _ _ (h p c w' (Lib.hid h1) (Lib.hid h2)))

set_option maxRecDepth 100000 in
set_option maxHeartbeats 4000000 in
theorem set_full (v : Value) (ls : List LineD) (h : Int) (N F V : ByteArray) (w : World) (hv : Hid (RowsAt 4 lineVals w v ls)) (hlt : Hid (LinesLt ls 9223372036854775807)) (hn : N.size ≤ 9223372036854775807) (hvs : V.size ≤ 9223372036854775807)
    (hr : Hid (rightC ls = true)) (hx : Hid (lineB ⟨h, N.data.toList, F.data.toList, V.data.toList⟩ = true)) (hth : Hid (thereB ⟨h, N.data.toList, F.data.toList, V.data.toList⟩ ls = false)) (h64 : Hid (ls.length = 64)) :
    Calls Tryz.prog 20 #[v, .agg #[.int .i64 h, .string N, .string F, .string V]] w (NewRes (.tuple #[.slice none 0 0, .int .i64 5]) w) := by
  obtain ⟨p, c, rfl⟩ := hv.out.slice
  have hLn := Lib.hid hv.out.lines
  have hlen : ls.length ≤ 64 := by have := h64.out; omega
  have hB : Hid (BlkAt (w.alloc (.cells #[.int .i64 h, .string N, .string F, .string V] 50)) w.heap.size 50 [.int .i64 h, .string N, .string F, .string V]) := Lib.hid (BlkAt.new _ _ _)
  have hK0 : Hid (Keeps (fun _ => False) w (w.alloc (.cells #[.int .i64 h, .string N, .string F, .string V] 50))) := Lib.hid ((Keeps.refl _ _).alloc _)
  go_enter Tryz.func20, Tryz.ntmps20
  go_upto_region 1 with fail
  generalize w.alloc (.cells #[.int .i64 h, .string N, .string F, .string V] 50) = w1 at hB hK0 ⊢
  refine wp_region_noPanic ?_
  refine wp_region_held_drew (S := (fun W => Keeps (fun _ => False) w1 W)) (by kernel_rfl) (((Keeps.refl _ _).drew)) (fun hHeld => ?_)
  refine tk 0 rfl ?_
  refine stepL 1 rfl (by kernel_rfl) (fun K hK => ?_)
  go_simp
  (refine (right_c _ ls true _ (Lib.hid (hLn.out.keep (hK0.out.trans hHeld) (fun _ _ _ f => f))) (by omega) hlt hr).mono ?_; rintro e w2 ⟨rfl, k2⟩; have k2' := Lib.hid k2; clear k2)
  go_wp2_with fail
  refine hK.out _ _ ((hHeld.trans k2'.out)) (fun hHeld => ?_)
  clear hK K
  try simp only [Act.put, sA, sZ, sS]
  refine tk 2 rfl ?_
  refine tk 3 rfl ?_
  refine tkL 4 rfl (yieldsIf_load_mid (by rfl) 50 (.tmp 3) rfl w.heap.size 0 rfl [.int .i64 h, .string N, .string F, .string V] _ (fun _ s => (hB.out.keep s id).range) Tryz.underlying50 rfl lineInfo) ?_
  refine stepL 5 rfl (by kernel_rfl) (fun K hK => ?_)
  go_simp
  (refine (table_any _).mono ?_; rintro e w3 ⟨gt, rfl, hgt, t3, k3⟩; have k3' := Lib.hid k3; have t3' := Lib.hid t3; clear k3 t3 hgt)
  go_wp2_with fail
  refine hK.out _ _ ((hHeld.trans k3'.out)) (fun hHeld => ?_)
  clear hK K
  try simp only [Act.put, sA, sZ, sS]
  refine stepL 6 rfl (by kernel_rfl) (fun K hK => ?_)
  go_simp
  (refine (canBe_any h N F V gt _ true _ hn hvs t3' hx).mono ?_; rintro e w4 ⟨rfl, k4⟩; have k4' := Lib.hid k4; clear k4 t3')
  go_wp2_with fail
  refine hK.out _ _ ((hHeld.trans k4'.out)) (fun hHeld => ?_)
  clear hK K
  try simp only [Act.put, sA, sZ, sS]
  refine tk 7 rfl ?_
  refine tk 8 rfl ?_
  refine wpAnyH_done (by kernel_rfl) (NoPanic.normal ?_) _
  have hK4 := Lib.hid (hK0.out.trans hHeld)
  have hB4 := Lib.hid (hB.out.keep hHeld id)
  clear hHeld hB hK0
  go_wp2_with ((with_reducible refine at_slot 20 ?_); refine wpList_load_mid rfl 50 (.tmp 3) rfl w.heap.size 0 rfl [.int .i64 h, .string N, .string F, .string V] _ hB4.out.range Tryz.underlying50 rfl lineInfo ?_)
  obtain ⟨at', hat⟩ : ∃ k, posL ⟨h, N.data.toList, F.data.toList, V.data.toList⟩ ls = k := ⟨_, rfl⟩
  have hat' := Lib.hid hat
  refine (find_c _ ls h N F V at' false _ (Lib.hid (hLn.out.keep hK4.out (fun _ _ _ f => f))) (by omega) hat' hth).mono ?_
  rintro e w5 ⟨rfl, k5⟩
  have hK5 := Lib.hid (hK4.out.trans k5)
  have hB5 := Lib.hid (hB4.out.keep k5 id)
  clear k5 hB4 hK4
  have hne : ((ls.length : Int) == 64) = true := by have := h64.out; simp; omega
  go_wp2_with fail
  go_ret2
  exact ⟨rfl, hK5.out⟩
/-- lines of the call's own, and no error -/
def SetPost (ls : List LineD) (w : World) (e : Ending) (w' : World) : Prop :=
  ∃ p c, e = .returned (.tuple #[.slice p ls.length c, .int .i64 0]) ∧ OwnR 50 4 lineVals w w' (.slice p ls.length c) ls ∧ Keeps (fun _ => False) w w'
set_option maxRecDepth 100000 in
set_option maxHeartbeats 4000000 in
theorem set_ok (v : Value) (ls : List LineD) (h : Int) (N F V : ByteArray) (z : Bool) (w : World) (hv : Hid (RowsAt 4 lineVals w v ls)) (hlt : Hid (LinesLt ls 9223372036854775807)) (hn : N.size ≤ 9223372036854775807) (hvs : V.size ≤ 9223372036854775807)
    (hr : Hid (rightC ls = true)) (hx : Hid (lineB ⟨h, N.data.toList, F.data.toList, V.data.toList⟩ = true)) (hth : Hid (thereB ⟨h, N.data.toList, F.data.toList, V.data.toList⟩ ls = z)) (hlen : ls.length ≤ 64) (h64 : z = false → ls.length < 64) :
    Calls Tryz.prog 20 #[v, .agg #[.int .i64 h, .string N, .string F, .string V]] w (SetPost (setC ⟨h, N.data.toList, F.data.toList, V.data.toList⟩ ls) w) := by
  obtain ⟨p, c, rfl⟩ := hv.out.slice
  obtain ⟨i0, hi0, hi1, hi2, hi3⟩ := lineAll
  have hLn := Lib.hid hv.out.lines
  have hB : Hid (BlkAt (w.alloc (.cells #[.int .i64 h, .string N, .string F, .string V] 50)) w.heap.size 50 [.int .i64 h, .string N, .string F, .string V]) := Lib.hid (BlkAt.new _ _ _)
  have hK0 : Hid (Keeps (fun _ => False) w (w.alloc (.cells #[.int .i64 h, .string N, .string F, .string V] 50))) := Lib.hid ((Keeps.refl _ _).alloc _)
  go_enter Tryz.func20, Tryz.ntmps20
  go_upto_region 1 with fail
  generalize w.alloc (.cells #[.int .i64 h, .string N, .string F, .string V] 50) = w1 at hB hK0 ⊢
  refine wp_region_noPanic ?_
  refine wp_region_held_drew (S := (fun W => Keeps (fun _ => False) w1 W)) (by kernel_rfl) (((Keeps.refl _ _).drew)) (fun hHeld => ?_)
  refine tk 0 rfl ?_
  refine stepL 1 rfl (by kernel_rfl) (fun K hK => ?_)
  go_simp
  (refine (right_c _ ls true _ (Lib.hid (hLn.out.keep (hK0.out.trans hHeld) (fun _ _ _ f => f))) (by omega) hlt hr).mono ?_; rintro e w2 ⟨rfl, k2⟩; have k2' := Lib.hid k2; clear k2)
  go_wp2_with fail
  refine hK.out _ _ ((hHeld.trans k2'.out)) (fun hHeld => ?_)
  clear hK K
  try simp only [Act.put, sA, sZ, sS]
  refine tk 2 rfl ?_
  refine tk 3 rfl ?_
  refine tkL 4 rfl (yieldsIf_load_mid (by rfl) 50 (.tmp 3) rfl w.heap.size 0 rfl [.int .i64 h, .string N, .string F, .string V] _ (fun _ s => (hB.out.keep s id).range) Tryz.underlying50 rfl lineInfo) ?_
  refine stepL 5 rfl (by kernel_rfl) (fun K hK => ?_)
  go_simp
  (refine (table_any _).mono ?_; rintro e w3 ⟨gt, rfl, hgt, t3, k3⟩; have k3' := Lib.hid k3; have t3' := Lib.hid t3; clear k3 t3 hgt)
  go_wp2_with fail
  refine hK.out _ _ ((hHeld.trans k3'.out)) (fun hHeld => ?_)
  clear hK K
  try simp only [Act.put, sA, sZ, sS]
  refine stepL 6 rfl (by kernel_rfl) (fun K hK => ?_)
  go_simp
  (refine (canBe_any h N F V gt _ true _ hn hvs t3' hx).mono ?_; rintro e w4 ⟨rfl, k4⟩; have k4' := Lib.hid k4; clear k4 t3')
  go_wp2_with fail
  refine hK.out _ _ ((hHeld.trans k4'.out)) (fun hHeld => ?_)
  clear hK K
  try simp only [Act.put, sA, sZ, sS]
  refine tk 7 rfl ?_
  refine tk 8 rfl ?_
  refine wpAnyH_done (by kernel_rfl) (NoPanic.normal ?_) _
  have hK4 := Lib.hid (hK0.out.trans hHeld)
  have hB4 := Lib.hid (hB.out.keep hHeld id)
  clear hHeld hB hK0
  go_wp2_with ((with_reducible refine at_slot 20 ?_); refine wpList_load_mid rfl 50 (.tmp 3) rfl w.heap.size 0 rfl [.int .i64 h, .string N, .string F, .string V] _ hB4.out.range Tryz.underlying50 rfl lineInfo ?_)
  obtain ⟨at', hat⟩ : ∃ k, posL ⟨h, N.data.toList, F.data.toList, V.data.toList⟩ ls = k := ⟨_, rfl⟩
  have hat' := Lib.hid hat
  refine (find_c _ ls h N F V at' z _ (Lib.hid (hLn.out.keep hK4.out (fun _ _ _ f => f))) (by omega) hat' hth).mono ?_
  rintro e w5 ⟨rfl, k5⟩
  have hK5 := Lib.hid (hK4.out.trans k5)
  have hB5 := Lib.hid (hB4.out.keep k5 id)
  clear k5 hB4 hK4
  have hRw := Lib.hid (hv.out.keep hK5.out)
  have hap := posL_le ⟨h, N.data.toList, F.data.toList, V.data.toList⟩ ls
  rw [hat'.out] at hap
  have hcap : ls.length ≤ c := by
    obtain ⟨p', c', e, -, hc, -⟩ := hv.out
    injection e with e1 e2 e3
    omega
  have hac0 : (0 : Int) ≤ (at' : Int) := by omega
  have hac1 : (at' : Int) ≤ (c : Int) := by omega
  have hac2 : (at' : Int) ≤ (ls.length : Int) := by omega
  have hw1 : IntKind.i64.wrap ((ls.length : Int) + 1) = ((ls.length + 1 : Nat) : Int) := by rw [IntWalk.i64_in _ (by omega)]; omega
  have hlA : ([] : List LineD).length + (ls.take at').length = at' := by simp; omega
  have hlA' := Lib.hid hlA
  clear hlA
  cases z with
  | false =>
    have hne : ((ls.length : Int) == 64) = false := by have := h64 rfl; simp; omega
    have hl64 := Lib.hid (h64 rfl)
    clear h64
    have hth2 : thereB ⟨h, N.data.toList, F.data.toList, V.data.toList⟩ ls ≠ true := by rw [hth.out]; exact Bool.false_ne_true
    go_upto_region 6 with fail
    refine wp_region_noPanic ?_
    refine wp_region_held_drew (S := (fun W => Keeps (fun _ => False) w5 W)) (by kernel_rfl) (((Keeps.refl _ _).drew)) (fun hHeld => ?_)
    refine tk 0 rfl ?_
    refine tk 1 rfl ?_
    refine tk 2 rfl ?_
    refine tk 4 rfl ?_
    refine tk 5 rfl ?_
    refine tk 6 rfl ?_
    refine stepL 3 rfl (by kernel_rfl) (fun K hK => ?_)
    rw [if_pos (by rfl)]
    (refine wp_make_r (α := LineD) (sz := 4) (cv := lineVals) (.const (.int .i64 0)) (.tmp 33) 24 rfl 50 i0 _ Tryz.underlying24 hi0 hi1 hi2 56 hi3 (by decide) (ls.length + 1) _ (by omega) rfl rfl (by omega) ?_; intro w6 hO6 k6; have hO6' := Lib.hid (hO6.older hHeld.size); have k6' := Lib.hid k6; clear hO6 k6)
    refine hK.out _ _ ((hHeld.trans k6'.out)) (fun hHeld => ?_)
    clear hK K
    try simp only [Act.put, sA, sZ, sS]
    refine stepL 7 rfl (by kernel_rfl) (fun K hK => ?_)
    rw [if_pos (by rfl)]
    (refine wp_append_rows (.tmp 34) (.tmp 37) 24 50 rfl i0 _ 56 Tryz.underlying24 hi0 hi1 hi2 hi3 rfl (by decide) (by decide) lineVals_len (fun x => lineVals_one x) w5 _ [] rfl hO6'.out _ rfl (ls.take at') ((hRw.out.keep hHeld).take at' hap) (by rw [hlA'.out]; omega) ?_; intro q7 d7 w7 hO7 hg7; rw [hlA'.out] at hO7 hg7 ⊢; rw [List.nil_append] at hO7; have hO7' := Lib.hid hO7; have hg7' := Lib.hid hg7; clear hO7 hg7)
    refine hK.out _ _ ((hO6'.out.keeps hHeld hg7'.out)) (fun hHeld => ?_)
    clear hK K
    try simp only [Act.put, sA, sZ, sS]
    refine tk 8 rfl ?_
    refine wpAnyH_done (by kernel_rfl) (NoPanic.normal ?_) _
    have k7 := Lib.hid hHeld
    have hB7 := Lib.hid (hB5.out.keep hHeld id)
    have hRw5 := hRw
    clear hHeld hO6' k6' hg7' hRw hB5
    have hlt' : (ls.take at').length = at' := by rw [List.length_take]; omega
    have hlt'' := Lib.hid hlt'
    clear hlt'
    go_upto_region 10 with (first | ((with_reducible refine at_slot 40 ?_); refine wpList_load_mid rfl 50 (.tmp 3) rfl w.heap.size 0 rfl [.int .i64 h, .string N, .string F, .string V] _ hB7.out.range Tryz.underlying50 rfl lineInfo ?_) | ((with_reducible refine at_slot 42 ?_); go_must (refine wpList_append_r rfl (.tmp 39) (.tmp 41) 24 50 rfl i0 _ 56 Tryz.underlying24 hi0 hi1 hi2 hi3 rfl (by decide) (by decide) lineVals_len w5 _ at' (ls.take at') hlt''.out rfl (hO7'.out.keep ((Keeps.refl (fun _ => False) _).alloc _) (fun _ _ f => f)) _ rfl ⟨h, N.data.toList, F.data.toList, V.data.toList⟩ (cells_new rfl _ _) (lineVals_one _) (by omega) ?_); intro q8 d8 w8 hO8 hg8))
    have hb2 : (ls.length : Int) ≤ (c : Int) := by omega
    have hL8 : (ls.take at' ++ [(⟨h, N.data.toList, F.data.toList, V.data.toList⟩ : LineD)]).length = at' + 1 := by rw [List.length_append, hlt''.out]; rfl
    have hlz : (ls.take at' ++ [(⟨h, N.data.toList, F.data.toList, V.data.toList⟩ : LineD)]).length + (ls.drop at').length = (setC ⟨h, N.data.toList, F.data.toList, V.data.toList⟩ ls).length := by
      rw [setC_len, if_neg hth2, hL8, List.length_drop]; omega
    have hsz : (ls.take at' ++ [(⟨h, N.data.toList, F.data.toList, V.data.toList⟩ : LineD)]) ++ ls.drop at' = setC ⟨h, N.data.toList, F.data.toList, V.data.toList⟩ ls := by
      unfold setC
      rw [if_neg hth2, hat'.out, List.append_assoc]; rfl
    have hlz' := Lib.hid hlz; have hsz' := Lib.hid hsz; have hL8' := Lib.hid hL8
    clear hlz hsz hL8
    have hk8 : Hid (Keeps (fun _ => False) w5 w8) := Lib.hid (OwnR.keeps (hO7'.out.keep ((Keeps.refl (fun _ => False) _).alloc _) (fun _ _ f => f)) (k7.out.alloc _) hg8.out)
    clear hO7' hg8
    have hR9 : Hid (RowsAt 4 lineVals w8 (.slice p ls.length c) ls) := Lib.hid (hRw5.out.keep hk8.out)
    go_wp2_with ((with_reducible refine at_slot 50 ?_); go_must (refine wpList_append_rows rfl (.tmp 46) (.tmp 49) 24 50 rfl i0 _ 56 Tryz.underlying24 hi0 hi1 hi2 hi3 rfl (by decide) (by decide) lineVals_len (fun x => lineVals_one x) w5 _ (ls.take at' ++ [(⟨h, N.data.toList, F.data.toList, V.data.toList⟩ : LineD)]) rfl hO8.out _ rfl (ls.drop at') (hR9.out.from at' hap) (by rw [hlz'.out, setC_len, if_neg hth2]; have := hl64.out; omega) ?_); intro q9 d9 w9 hO9 hg9; rw [hlz'.out] at hO9 hg9 ⊢; rw [hsz'.out] at hO9)
    all_goals (go_ret2; exact ⟨q9, d9, rfl, hO9.out.older hK5.out.size, hK5.out.trans (OwnR.keeps hO8.out hk8.out hg9.out)⟩)
  | true =>
    go_upto_region 6 with fail
    refine wp_region_noPanic ?_
    refine wp_region_held_drew (S := (fun W => Keeps (fun _ => False) w5 W)) (by kernel_rfl) (((Keeps.refl _ _).drew)) (fun hHeld => ?_)
    refine tk 0 rfl ?_
    refine tk 1 rfl ?_
    refine tk 2 rfl ?_
    refine tk 4 rfl ?_
    refine tk 5 rfl ?_
    refine tk 6 rfl ?_
    refine stepL 3 rfl (by kernel_rfl) (fun K hK => ?_)
    rw [if_pos (by rfl)]
    (refine wp_make_r (α := LineD) (sz := 4) (cv := lineVals) (.const (.int .i64 0)) (.tmp 33) 24 rfl 50 i0 _ Tryz.underlying24 hi0 hi1 hi2 56 hi3 (by decide) (ls.length + 1) _ (by omega) rfl rfl (by omega) ?_; intro w6 hO6 k6; have hO6' := Lib.hid (hO6.older hHeld.size); have k6' := Lib.hid k6; clear hO6 k6)
    refine hK.out _ _ ((hHeld.trans k6'.out)) (fun hHeld => ?_)
    clear hK K
    try simp only [Act.put, sA, sZ, sS]
    refine stepL 7 rfl (by kernel_rfl) (fun K hK => ?_)
    rw [if_pos (by rfl)]
    (refine wp_append_rows (.tmp 34) (.tmp 37) 24 50 rfl i0 _ 56 Tryz.underlying24 hi0 hi1 hi2 hi3 rfl (by decide) (by decide) lineVals_len (fun x => lineVals_one x) w5 _ [] rfl hO6'.out _ rfl (ls.take at') ((hRw.out.keep hHeld).take at' hap) (by rw [hlA'.out]; omega) ?_; intro q7 d7 w7 hO7 hg7; rw [hlA'.out] at hO7 hg7 ⊢; rw [List.nil_append] at hO7; have hO7' := Lib.hid hO7; have hg7' := Lib.hid hg7; clear hO7 hg7)
    refine hK.out _ _ ((hO6'.out.keeps hHeld hg7'.out)) (fun hHeld => ?_)
    clear hK K
    try simp only [Act.put, sA, sZ, sS]
    refine tk 8 rfl ?_
    refine wpAnyH_done (by kernel_rfl) (NoPanic.normal ?_) _
    have k7 := Lib.hid hHeld
    have hB7 := Lib.hid (hB5.out.keep hHeld id)
    have hRw5 := hRw
    clear hHeld hO6' k6' hg7' hRw hB5
    have hlt' : (ls.take at').length = at' := by rw [List.length_take]; omega
    have hlt'' := Lib.hid hlt'
    clear hlt'
    go_upto_region 10 with (first | ((with_reducible refine at_slot 40 ?_); refine wpList_load_mid rfl 50 (.tmp 3) rfl w.heap.size 0 rfl [.int .i64 h, .string N, .string F, .string V] _ hB7.out.range Tryz.underlying50 rfl lineInfo ?_) | ((with_reducible refine at_slot 42 ?_); go_must (refine wpList_append_r rfl (.tmp 39) (.tmp 41) 24 50 rfl i0 _ 56 Tryz.underlying24 hi0 hi1 hi2 hi3 rfl (by decide) (by decide) lineVals_len w5 _ at' (ls.take at') hlt''.out rfl (hO7'.out.keep ((Keeps.refl (fun _ => False) _).alloc _) (fun _ _ f => f)) _ rfl ⟨h, N.data.toList, F.data.toList, V.data.toList⟩ (cells_new rfl _ _) (lineVals_one _) (by omega) ?_); intro q8 d8 w8 hO8 hg8))
    have hlt3 := there_lt hth.out
    rw [hat'.out] at hlt3
    have hb1 : (at' : Int) + 1 ≤ (ls.length : Int) := by omega
    have hb2 : (ls.length : Int) ≤ (c : Int) := by omega
    have hb3 : (0 : Int) ≤ (at' : Int) + 1 := by omega
    have hL8 : (ls.take at' ++ [(⟨h, N.data.toList, F.data.toList, V.data.toList⟩ : LineD)]).length = at' + 1 := by rw [List.length_append, hlt''.out]; rfl
    have hlz : (ls.take at' ++ [(⟨h, N.data.toList, F.data.toList, V.data.toList⟩ : LineD)]).length + (ls.drop (at' + 1)).length = (setC ⟨h, N.data.toList, F.data.toList, V.data.toList⟩ ls).length := by
      rw [setC_len, if_pos hth.out, hL8, List.length_drop]; omega
    have hsz : (ls.take at' ++ [(⟨h, N.data.toList, F.data.toList, V.data.toList⟩ : LineD)]) ++ ls.drop (at' + 1) = setC ⟨h, N.data.toList, F.data.toList, V.data.toList⟩ ls := by
      unfold setC
      rw [if_pos hth.out, hat'.out, List.append_assoc]; rfl
    have hlz' := Lib.hid hlz; have hsz' := Lib.hid hsz; have hL8' := Lib.hid hL8
    clear hlz hsz hL8
    have hk8 : Hid (Keeps (fun _ => False) w5 w8) := Lib.hid (OwnR.keeps (hO7'.out.keep ((Keeps.refl (fun _ => False) _).alloc _) (fun _ _ f => f)) (k7.out.alloc _) hg8.out)
    clear hO7' hg8
    have hR9 : Hid (RowsAt 4 lineVals w8 (.slice p ls.length c) ls) := Lib.hid (hRw5.out.keep hk8.out)
    go_wp2_with ((with_reducible refine at_slot 50 ?_); go_must (refine wpList_append_rows rfl (.tmp 46) (.tmp 49) 24 50 rfl i0 _ 56 Tryz.underlying24 hi0 hi1 hi2 hi3 rfl (by decide) (by decide) lineVals_len (fun x => lineVals_one x) w5 _ (ls.take at' ++ [(⟨h, N.data.toList, F.data.toList, V.data.toList⟩ : LineD)]) rfl hO8.out _ rfl (ls.drop (at' + 1)) (hR9.out.from (at' + 1) (by omega)) (by rw [hlz'.out, setC_len, if_pos hth.out]; omega) ?_); intro q9 d9 w9 hO9 hg9; rw [hlz'.out] at hO9 hg9 ⊢; rw [hsz'.out] at hO9)
    all_goals (go_ret2; exact ⟨q9, d9, rfl, hO9.out.older hK5.out.size, hK5.out.trans (OwnR.keeps hO8.out hk8.out hg9.out)⟩)
end Go.Proofs.YtdannodhlaaoiaaGreatDoor
