/- conf.Set, walked: where there is room, and where there isn't (gen_cfi.py). -/
import Derived.Test.YtialookpnoaogaaGreatZZ13
import Derived.Test.YtialookpnoaogaaGreatZZ04
import Derived.Deep.DeepCutAuto
import Derived.OwnWalk
set_option linter.unusedVariables false
set_option linter.unusedSimpArgs false
set_option linter.unusedVariables false
set_option linter.unusedSimpArgs false
namespace Go.Proofs.YtialookpnoaogaaGreat
open Go.RowKit

theorem lineVals_len (l : LineD) : (lineVals l).length = 4 := rfl
theorem lineVals_one (l : LineD) : ∀ u ∈ lineVals l, u.oneCell' = true := by
  intro u hu; simp [lineVals, strv] at hu; rcases hu with rfl | rfl | rfl | rfl <;> rfl
theorem RowsAt.lines {w : World} {v : Value} {ls : List LineD} (h : RowsAt 4 lineVals w v ls) : LinesAt w v ls := by
  obtain ⟨p, c, rfl, -, -, hr⟩ := h
  exact ⟨p, c, rfl, hr⟩
theorem lineAll : ∃ i, Tryz.prog.info? 79 = some i ∧ i.zero = some (.agg #[.int .i64 0, .string ⟨#[]⟩, .string ⟨#[]⟩, .string ⟨#[]⟩]) ∧ i.size = 4 ∧ i.bytes = 56 := by
  have h : (Tryz.prog.info? 79).map (fun i => (i.zero, i.size, i.bytes)) = some (some (.agg #[.int .i64 0, .string ⟨#[]⟩, .string ⟨#[]⟩, .string ⟨#[]⟩]), 4, 56) := by kernel_rfl
  obtain ⟨i, hi, e⟩ := Option.map_eq_some_iff.1 h
  injection e with e1 e; injection e with e2 e3
  exact ⟨i, hi, e1, e2, e3⟩
/-- make of rows of no length -/
theorem wp_make_r {α : Type} {sz : Nat} {cv : α → List Value} {P : Program} {w : World} {o : Oper} {a : Act} {K : Act → World → Prop} {Q : Exit → Act → World → Prop} (l c : Operand) (t : TypeId) (ho : o.op = .makeSlice t l c) (e : TypeId) (i : TypeInfo) (z : Value)
    (ht : P.underlying t = some (.slice e)) (hi : P.info? e = some i) (hz : i.zero = some z) (hsize : i.size = sz) (by_ : Nat) (hby : i.bytes = by_) (hby1 : by_ ≤ 100000) (n : Nat) (C : Int) (hC : C = (n : Int)) (hl : a.eval l = .int .i64 0) (hc : a.eval c = .int .i64 C) (hn : n ≤ 1000000000)
    (h : ∀ w', OwnR (α := α) e sz cv w w' (.slice (some ⟨w.heap.size, 0, none⟩) 0 n) [] → Keeps (fun _ => False) w w' → K (a.put o.dst (.slice (some ⟨w.heap.size, 0, none⟩) 0 n)) w') : Oper.wp P o a w K Q := by
  subst hC
  subst hby
  have hb : i.bytes * n ≤ 100000 * 1000000000 := Nat.mul_le_mul hby1 hn
  obtain ⟨w', hrun, r1, r2⟩ := run_make_own (P := P) w 0 t e i z sz ht hi hz hsize .i64 .i64 n (by omega) (by unfold maxLen; omega) (Nat.zero_le _)
  unfold Oper.wp
  simp [execOp, ho, hl, hc, hrun, Result.andThen]
  refine h w' ⟨by simpa [rowCells] using r1, fun k e => ?_, r2.size⟩ ((Keeps.refl _ _).grown r2 (fun k e => by cases e))
  simp only [Value.ownBlock, Option.some.injEq] at e
  omega
theorem wpList_append_rows {α : Type} {sz : Nat} {cv : α → List Value} {P : Program} {w : World} {ops : Array Oper} {rest : List Oper} {o : Oper} {a : Act} {Q : Exit → Act → World → Prop} (hgd : o.guard = none) (s x : Operand) (t e : TypeId)
    (ho : o.op = .call { callee := .builtin .append, args := #[s, x], argTypes := #[t, t] })
    (i : TypeInfo) (z : Value) (by_ : Nat) (ht : P.underlying t = some (.slice e)) (hi : P.info? e = some i) (hz : i.zero = some z) (hsize : i.size = sz) (hby : i.bytes = by_) (hzs : z.cells.size = sz) (hsz0 : 0 < sz) (hby1 : by_ ≤ 100000)
    (hcv : ∀ x, (cv x).length = sz) (h1 : ∀ (x : α), ∀ u ∈ cv x, u.oneCell' = true) (w0 : World) (v : Value) (xs : List α) (hs : a.eval s = v) (hown : OwnR e sz cv w0 w v xs) (sv : Value) (hx : a.eval x = sv) (ys : List α) (hl : RowsAt sz cv w sv ys) (hsz : xs.length + ys.length ≤ 1000000000)
    (h : ∀ p c w', Hid (OwnR e sz cv w0 w' (.slice p (xs.length + ys.length) c) (xs ++ ys)) → Hid (Grown w v p (xs.length + ys.length) c w') → wpList P ops Q rest (a.put o.dst (.slice p (xs.length + ys.length) c)) w') : wpList P ops Q (o :: rest) a w :=
  wpList_plain hgd fun _ hK => wp_append_rows s x t e ho i z by_ ht hi hz hsize hby hzs hsz0 hby1 hcv h1 w0 v xs hs hown sv hx ys hl hsz (fun p c w' h1 h2 => hK _ _ (h p c w' (Lib.hid h1) (Lib.hid h2)))

/-- lines of the call's own, and no error -/
def SetPost (ls : List LineD) (w : World) (e : Ending) (w' : World) : Prop :=
  ∃ p c, e = .returned (.tuple #[.slice p ls.length c, .int .i64 0]) ∧ OwnR 79 4 lineVals w w' (.slice p ls.length c) ls ∧ Keeps (fun _ => False) w w'
end Go.Proofs.YtialookpnoaogaaGreat
