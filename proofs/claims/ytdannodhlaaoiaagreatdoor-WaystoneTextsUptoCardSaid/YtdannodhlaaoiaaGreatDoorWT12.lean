/- Right lines are short; a right configuration with a right line more is right, plain. -/
import Derived.Test.YtdannodhlaaoiaaGreatDoorWT11
import Derived.Test.YtdannodhlaaoiaaGreatDoorWT08
import Derived.Test.YtdannodhlaaoiaaGreatDoorWT06
import Derived.Test.YtdannodhlaaoiaaGreatDoorWT09
set_option linter.unusedVariables false
set_option linter.unusedSimpArgs false
set_option linter.unusedVariables false
set_option linter.unusedSimpArgs false
namespace Go.Proofs.YtdannodhlaaoiaaGreatDoor
open Go.RowKit

theorem decL_len {l : List UInt8} {n : Nat} (h : decL l = some n) : l.length ≤ 9 := by
  unfold decL at h
  split at h
  · rename_i h'
    simp only [Bool.and_eq_true] at h'
    have := h'.1; unfold decShape at this; rw [decide_eq_true_eq] at this; exact this.2.1
  · cases h
theorem addrGo_len : ∀ (k n : Nat) (s : List UInt8) (m : Nat), 1 ≤ k → addrGo k n s = some m → s.length ≤ 10 * k := by
  intro k
  induction k with
  | zero => intro n s m h; omega
  | succ k ih =>
    intro n s m _ h
    by_cases hd : 46 ∈ s
    · rw [addrGo_yes hd] at h
      cases hb : decL (s.take (before 46 s)) with
      | none => rw [hb] at h; cases h
      | some b =>
        rw [hb] at h
        simp only at h
        split at h
        · rename_i hc
          have h1 := decL_len hb
          have h2 := ih _ _ _ (by omega) h
          rw [List.length_take] at h1
          rw [List.length_drop] at h2
          omega
        · cases h
    · rw [addrGo_no hd] at h
      cases hb : decL s with
      | none => rw [hb] at h; cases h
      | some b => have := decL_len hb; omega
theorem addrL_len {s : List UInt8} (h : (addrL s).isSome = true) : s.length ≤ 40 := by
  obtain ⟨m, hm⟩ := Option.isSome_iff_exists.1 h
  exact addrGo_len 4 0 s m (by omega) hm
theorem netL_len {s : List UInt8} (h : (netL s).isSome = true) : s.length ≤ 50 := by
  unfold netL at h
  split at h
  · cases ha : addrL (s.take (before 47 s)) with
    | none => rw [ha] at h; simp at h
    | some a =>
      cases hb : decL (s.drop (before 47 s + 1)) with
      | none => rw [ha, hb] at h; simp at h
      | some b =>
        have h1 := addrL_len (s := s.take (before 47 s)) (by rw [ha]; rfl)
        have h2 := decL_len hb
        rw [List.length_take] at h1
        rw [List.length_drop] at h2
        omega
  · cases h
theorem isWordB_len {s : List UInt8} (h : isWordB s = true) : s.length ≤ 31 := by
  unfold isWordB at h
  rw [Bool.and_eq_true, decide_eq_true_eq] at h
  exact h.1.2
theorem line_small {l : LineD} (h : lineB l = true) : l.name.length ≤ 100 ∧ l.leaf.length ≤ 100 ∧ l.value.length ≤ 100 := by
  unfold lineB at h
  cases hf : findD l.head l.leaf with
  | none => rw [hf] at h; cases h
  | some r =>
    rw [hf] at h
    simp only [Bool.and_eq_true] at h
    have hm : r ∈ tableD := List.mem_of_find?_eq_some hf
    have hp := List.find?_some hf
    rw [decide_eq_true_eq] at hp
    have hall : ∀ q ∈ tableD, q.name.length ≤ 30 ∧ ∀ c ∈ q.cs, c.length ≤ 30 := by decide
    obtain ⟨h1, h2⟩ := hall r hm
    refine ⟨?_, by rw [← hp.2]; omega, ?_⟩
    · have hn := h.1
      unfold namedB at hn
      split at hn
      · have : l.name = [] := by simpa using hn
        rw [this]; simp
      · split at hn
        · have := addrL_len hn; omega
        · split at hn
          · rw [Bool.and_eq_true] at hn
            have := isWordB_len hn.1; omega
          · cases hn
    · have hv := h.2
      unfold rightB at hv
      split at hv
      · have := addrL_len hv; omega
      · split at hv
        · have := netL_len hv; omega
        · split at hv
          · cases hd : decL l.value with
            | none => rw [hd] at hv; cases hv
            | some n => have := decL_len hd; omega
          · split at hv
            · have := h2 l.value (by simpa using hv); omega
            · split at hv
              · rw [Bool.and_eq_true] at hv
                have := isWordB_len hv.2; omega
              · cases hv
theorem riseB_line {ls : List LineD} : ∀ {k : Nat}, riseB ls k = true → ∀ i l, i < k → ls[i]? = some l → lineB l = true := by
  intro k
  induction k with
  | zero => intro _ i l hi; omega
  | succ k ih =>
    intro h i l hi hl
    rw [riseB, Bool.and_eq_true] at h
    by_cases e : i < k
    · exact ih h.1 i l e hl
    · obtain rfl : i = k := by omega
      have h2 := h.2
      rw [hl] at h2
      simp only [Bool.and_eq_true] at h2
      exact h2.1
theorem right_line {ls : List LineD} (h : rightC ls = true) : ∀ l ∈ ls, lineB l = true := fun l hl => by
  unfold rightC at h
  rw [Bool.and_eq_true] at h
  obtain ⟨i, hi⟩ := List.getElem?_of_mem hl
  exact riseB_line h.2 i l (List.getElem?_eq_some_iff.1 hi).1 hi
theorem right_len {ls : List LineD} (h : rightC ls = true) : ls.length ≤ 64 := by
  unfold rightC at h
  rw [Bool.and_eq_true, decide_eq_true_eq] at h
  exact h.1
theorem right_lt {ls : List LineD} (h : rightC ls = true) (m : Nat) (hm : 100 ≤ m) : LinesLt ls m := fun l hl => by
  have := line_small (right_line h l hl)
  omega
theorem rises_at {ls : List LineD} (h : rises ls) : ∀ i a b, ls[i]? = some a → ls[i + 1]? = some b → lessB a b = true := by
  induction ls with
  | nil => intro i a b ha; simp at ha
  | cons q ls ih =>
    intro i a b ha hb
    cases i with
    | zero =>
      simp at ha; subst ha
      exact rises_head h b (List.mem_of_getElem? (by simpa using hb))
    | succ i => exact ih (rises_tail h) i a b (by simpa using ha) (by simpa using hb)
theorem riseB_of {ls : List LineD} (h1 : ∀ l ∈ ls, lineB l = true) (h2 : rises ls) : ∀ k, k ≤ ls.length → riseB ls k = true := by
  intro k
  induction k with
  | zero => intro _; rfl
  | succ k ih =>
    intro hk
    rw [riseB, ih (by omega), Bool.true_and]
    have hq : ls[k]? = some ls[k] := List.getElem?_eq_getElem (by omega)
    rw [hq]
    simp only [h1 _ (List.getElem_mem _), Bool.true_and]
    cases k with
    | zero => rfl
    | succ j =>
      have hj : ls[j]? = some ls[j] := List.getElem?_eq_getElem (by omega)
      simp only [hj]
      exact rises_at h2 j _ _ hj hq
theorem right_of {ls : List LineD} (h1 : ∀ l ∈ ls, lineB l = true) (h2 : rises ls) (h3 : ls.length ≤ 64) : rightC ls = true := by
  unfold rightC
  rw [riseB_of h1 h2 _ (Nat.le_refl _)]
  simp [h3]
theorem setC_ahead {x q : LineD} {ls : List LineD} (h : lessB q x = true) : setC x (q :: ls) = q :: setC x ls := by
  have hp : posL x (q :: ls) = posL x ls + 1 := by rw [posL, if_pos h]
  have ht : thereB x (q :: ls) = thereB x ls := by unfold thereB; rw [hp]; simp
  unfold setC
  rw [hp, ht]
  split <;> simp [Nat.add_right_comm]
theorem setC_here {x q : LineD} {ls : List LineD} (h : lessB q x = false) (h2 : lessB x q = true) : setC x (q :: ls) = x :: q :: ls := by
  have hp : posL x (q :: ls) = 0 := by rw [posL, if_neg (by rw [h]; exact Bool.false_ne_true)]
  have ht : thereB x (q :: ls) = false := by unfold thereB; rw [hp]; simp [h2]
  unfold setC
  rw [hp, ht]; simp
theorem setC_same {x q : LineD} {ls : List LineD} (h : lessB q x = false) (h2 : lessB x q = false) : setC x (q :: ls) = x :: ls := by
  have hp : posL x (q :: ls) = 0 := by rw [posL, if_neg (by rw [h]; exact Bool.false_ne_true)]
  have ht : thereB x (q :: ls) = true := by unfold thereB; rw [hp]; simp [h2]
  unfold setC
  rw [hp, ht]; simp
theorem mem_setC {x l : LineD} : ∀ {ls : List LineD}, l ∈ setC x ls → l = x ∨ l ∈ ls := by
  intro ls h
  unfold setC at h
  rcases List.mem_append.1 h with h | h
  · exact .inr (List.mem_of_mem_take h)
  · rcases List.mem_cons.1 h with h | h
    · exact .inl h
    · exact .inr (List.mem_of_mem_drop h)
theorem rises_cons {a : LineD} {ls : List LineD} (h : ∀ b ∈ ls, lessB a b = true) (h2 : rises ls) : rises (a :: ls) := by
  cases ls with
  | nil => trivial
  | cons b ls => exact ⟨h b (List.mem_cons_self ..), h2⟩
theorem rises_setC {x : LineD} : ∀ {ls : List LineD}, rises ls → rises (setC x ls) := by
  intro ls
  induction ls with
  | nil => intro _; trivial
  | cons q ls ih =>
    intro h
    cases hq : lessB q x with
    | true =>
      rw [setC_ahead hq]
      refine rises_cons (fun b hb => ?_) (ih (rises_tail h))
      rcases mem_setC hb with rfl | hb
      · exact hq
      · exact rises_head h b hb
    | false =>
      cases hx : lessB x q with
      | true =>
        rw [setC_here hq hx]
        exact rises_cons (fun b hb => by
          rcases List.mem_cons.1 hb with rfl | hb
          · exact hx
          · exact less_trans hx (rises_head h b hb)) h
      | false =>
        rw [setC_same hq hx]
        exact rises_cons (fun b hb => le_trans_less hq (rises_head h b hb)) (rises_tail h)
theorem right_setC {x : LineD} {ls : List LineD} (h : rightC ls = true) (hx : lineB x = true) (hl : (setC x ls).length ≤ 64) : rightC (setC x ls) = true :=
  right_of (fun l hl => by
    rcases mem_setC hl with rfl | hl
    · exact hx
    · exact right_line h l hl) (rises_setC (right_rises h)) hl
/-- what Build makes -/
def stepB (c : List LineD) (x : LineD) : List LineD := if lineB x = true ∧ (setC x c).length ≤ 64 then setC x c else c
def buildC (ls : List LineD) : List LineD := (ls.take 100).foldl stepB []
theorem stepB_right {c : List LineD} (x : LineD) (h : rightC c = true) : rightC (stepB c x) = true := by
  unfold stepB
  split
  · rename_i h2; exact right_setC h h2.1 h2.2
  · exact h
theorem fold_right : ∀ (ls c : List LineD), rightC c = true → rightC (ls.foldl stepB c) = true := by
  intro ls
  induction ls with
  | nil => intro c h; exact h
  | cons x ls ih => intro c h; rw [List.foldl_cons]; exact ih _ (stepB_right x h)
theorem build_right (ls : List LineD) : rightC (buildC ls) = true := fold_right _ _ (by decide +kernel)
end Go.Proofs.YtdannodhlaaoiaaGreatDoor
/- A whole text, plain: what parse.Text answers for words. -/
set_option linter.unusedVariables false
set_option linter.unusedSimpArgs false
namespace Go.Proofs.YtdannodhlaaoiaaGreatDoor
open Go.RowKit

abbrev StP := List LineD × Bool
def putS (s : StP) (l : LineD) : StP := if s.2 = true then s else if (setC l s.1).length ≤ 64 then (setC l s.1, false) else (s.1, true)
def atL (o : Option (Int × List UInt8)) (a b : List UInt8) : LineD := match o with | none => ⟨0, [], a, b⟩ | some (h, n) => ⟨h, n, a, b⟩
def opnW : List UInt8 := [123]
def clsW : List UInt8 := [125]
def endW : List UInt8 := [59]
/-- what is set when these words are read to their end; none: they can't be -/
def textD (o : Option (Int × List UInt8)) (ws : List (List UInt8)) (s : StP) : Option StP :=
  match ws with
  | [] => if o.isSome then none else some s
  | a :: r =>
    if o.isSome ∧ a = clsW then textD none r s
    else match r with
      | b :: c :: r2 =>
        if o.isNone ∧ headD a ≠ 0 ∧ c = opnW then (if namedB (headD a) b = true then textD (some (headD a, b)) r2 s else none)
        else if signW a = false ∧ signW b = false ∧ c = endW then (if lineB (atL o a b) = true then textD o r2 (putS s (atL o a b)) else none)
        else none
      | _ => none
termination_by ws.length
def ansT (t : List UInt8) : List LineD × Nat := match lexL t with
  | .bad _ => ([], 3)
  | .ok ws => match textD none ws ([], false) with
    | none => ([], 3)
    | some (C, f) => if f = true then ([], 5) else (C, 0)

theorem textD_nil (s : StP) : textD none [] s = some s := by rw [textD.eq_def]; rfl
theorem textD_nilO (p : Int × List UInt8) (s : StP) : textD (some p) [] s = none := by rw [textD.eq_def]; rfl
theorem textD_close (p : Int × List UInt8) (r : List (List UInt8)) (s : StP) : textD (some p) (clsW :: r) s = textD none r s := by rw [textD.eq_def]; simp
theorem headD_pos {a : List UInt8} (h : headD a ≠ 0) : a = areaW ∨ a = faceW := by
  unfold headD at h
  by_cases h1 : a = areaW
  · exact .inl h1
  · rw [if_neg h1] at h
    by_cases h2 : a = faceW
    · exact .inr h2
    · rw [if_neg h2] at h; exact absurd rfl h
theorem headD_12 {a : List UInt8} (h : headD a ≠ 0) : headD a = 1 ∨ headD a = 2 := by
  rcases headD_pos h with rfl | rfl
  · exact .inl (by decide)
  · exact .inr (by decide)
theorem signW_head {a : List UInt8} (h : headD a ≠ 0) : signW a = false := by
  rcases headD_pos h with rfl | rfl <;> decide
/-- no line of Top begins with a head's word -/
theorem top_nohead {a v : List UInt8} (h : headD a ≠ 0) : lineB (atL none a v) = false := by
  have e : findD 0 a = none := by rcases headD_pos h with rfl | rfl <;> decide
  unfold lineB atL
  simp only [e]
theorem rightV_sign {h : Int} {f v : List UInt8} (hr : rightV h f v = true) : signW v = false := by
  unfold rightV at hr
  cases hf : findD h f with
  | none => rw [hf] at hr; cases hr
  | some q =>
    rw [hf] at hr
    have hq := List.mem_of_find?_eq_some hf
    have h3 : ∀ s ∈ ([[123], [125], [59]] : List (List UInt8)), ∀ q ∈ tableD, rightB q.kind q.lo q.hi q.cs s = false := by decide +kernel
    by_cases hs : v ∈ ([[123], [125], [59]] : List (List UInt8))
    · have := h3 v hs q hq
      simp only at hr
      rw [this] at hr; cases hr
    · simp only [List.mem_cons, List.not_mem_nil, or_false, not_or] at hs
      unfold signW
      simp [hs]
theorem findD_sign {h : Int} {f : List UInt8} {q : RowD} (hf : findD h f = some q) : signW f = false := by
  have hq := List.mem_of_find?_eq_some hf
  have hp := List.find?_some hf
  simp only [decide_eq_true_eq] at hp
  have h3 : ∀ q ∈ tableD, signW q.name = false := by decide +kernel
  rw [← hp.2]; exact h3 q hq
theorem rightV_leaf {h : Int} {f v : List UInt8} (hr : rightV h f v = true) : signW f = false := by
  unfold rightV at hr
  cases hf : findD h f with
  | none => rw [hf] at hr; cases hr
  | some q => exact findD_sign hf
theorem lineB_split (q : LineD) : lineB q = (namedB q.head q.name && rightV q.head q.leaf q.value) := by
  unfold lineB rightV
  cases findD q.head q.leaf with
  | none => simp
  | some r => rfl
theorem named_top : namedB 0 [] = true := by decide
/-- a line, as the code reads it -/
theorem textD_line {o : Option (Int × List UInt8)} {a b : List UInt8} {r : List (List UInt8)} {s : StP} (hc : o.isSome = true → a ≠ clsW) (hn : ∀ p, o = some p → namedB p.1 p.2 = true) (hh : o = none → headD a = 0)
    (hr : rightV (atL o a b).head a b = true) : textD o (a :: b :: endW :: r) s = textD o r (putS s (atL o a b)) := by
  have hl : lineB (atL o a b) = true := by
    rw [lineB_split]
    cases o with
    | none => unfold atL at hr ⊢; simp only [named_top, Bool.true_and]; exact hr
    | some p => obtain ⟨h, n⟩ := p; unfold atL at hr ⊢; simp only [hn _ rfl, Bool.true_and]; exact hr
  rw [textD.eq_def]
  simp only []
  rw [if_neg (fun h => hc h.1 h.2)]
  rw [if_neg (fun h => by
    have h1 : o = none := by simpa using h.1
    exact h.2.1 (hh h1))]
  rw [if_pos ⟨rightV_leaf hr, rightV_sign hr, trivial⟩, if_pos hl]
/-- what isn't a line ends it -/
theorem textD_noline {o : Option (Int × List UInt8)} {a : List UInt8} {r : List (List UInt8)} {s : StP} (hc : o.isSome = true → a ≠ clsW) (hh : o = none → headD a = 0)
    (hr : ∀ b c r2, r = b :: c :: r2 → c = endW → rightV (atL o a b).head a b = false) : textD o (a :: r) s = none := by
  rw [textD.eq_def]
  simp only []
  rw [if_neg (fun h => hc h.1 h.2)]
  match r with
  | [] => rfl
  | [b] => rfl
  | b :: c :: r2 =>
    simp only []
    rw [if_neg (fun h => by
      have h1 : o = none := by simpa using h.1
      exact h.2.1 (hh h1))]
    by_cases h3 : signW a = false ∧ signW b = false ∧ c = endW
    · rw [if_pos h3]
      have := hr b c r2 rfl h3.2.2
      rw [if_neg (by rw [lineB_split]; cases o with | none => unfold atL at this ⊢; simp [this] | some p => obtain ⟨h, n⟩ := p; unfold atL at this ⊢; simp [this])]
    · rw [if_neg h3]
theorem textD_block {a b : List UInt8} {r : List (List UInt8)} {s : StP} (hh : headD a ≠ 0) (hn : namedB (headD a) b = true) : textD none (a :: b :: opnW :: r) s = textD (some (headD a, b)) r s := by
  rw [textD.eq_def]
  simp only []
  rw [if_neg (fun h => by cases h.1)]
  rw [if_pos ⟨rfl, hh, trivial⟩, if_pos hn]
theorem textD_noblock {a : List UInt8} {r : List (List UInt8)} {s : StP} (hh : headD a ≠ 0) (hr : ∀ b c r2, r = b :: c :: r2 → c = opnW → namedB (headD a) b = false) : textD none (a :: r) s = none := by
  rw [textD.eq_def]
  simp only []
  rw [if_neg (fun h => by cases h.1)]
  match r with
  | [] => rfl
  | [b] => rfl
  | b :: c :: r2 =>
    simp only []
    by_cases hc : c = opnW
    · rw [if_pos ⟨rfl, hh, hc⟩, if_neg (by rw [hr b c r2 rfl hc]; simp)]
    · rw [if_neg (fun h => hc h.2.2)]
      by_cases h3 : signW a = false ∧ signW b = false ∧ c = endW
      · rw [if_pos h3, if_neg (by rw [top_nohead hh]; simp)]
      · rw [if_neg h3]
theorem putS_right {s : StP} {l : LineD} (hs : rightC s.1 = true) (hl : lineB l = true) : rightC (putS s l).1 = true := by
  unfold putS
  split
  · exact hs
  · split
    · rename_i h; exact right_setC hs hl h
    · exact hs
end Go.Proofs.YtdannodhlaaoiaaGreatDoor
/- The small functions of parse, walked: a word's verb, a word's head, a row that is there, a value that is right, a number. -/
namespace Go.Proofs.YtdannodhlaaoiaaGreatDoor
open Go.RowKit

theorem verbsInfo : (Tryz.prog.info? 172).map (·.size) = some 10 := by kernel_rfl
theorem cmdInfo : (Tryz.prog.info? 56).map (·.size) = some 6 := by kernel_rfl
/-- the table of verbs, in memory -/
def verbVals : List Value := verbsL.map strv
def VerbsOk (w : World) : Prop := w.rangeAt 0 0 verbVals
theorem idx_verb0 : ∀ w : World, (Instr.index 172 (.agg verbVals.toArray) (.int .i64 0)).run Tryz.prog w = .ok (strv []) w := fun _ => by kernel_rfl
theorem idx_verb1 : ∀ w : World, (Instr.index 172 (.agg verbVals.toArray) (.int .i64 1)).run Tryz.prog w = .ok (strv [115, 101, 116]) w := fun _ => by kernel_rfl
theorem idx_verb2 : ∀ w : World, (Instr.index 172 (.agg verbVals.toArray) (.int .i64 2)).run Tryz.prog w = .ok (strv [100, 101, 108, 101, 116, 101]) w := fun _ => by kernel_rfl
theorem idx_verb3 : ∀ w : World, (Instr.index 172 (.agg verbVals.toArray) (.int .i64 3)).run Tryz.prog w = .ok (strv [115, 104, 111, 119]) w := fun _ => by kernel_rfl
theorem idx_verb4 : ∀ w : World, (Instr.index 172 (.agg verbVals.toArray) (.int .i64 4)).run Tryz.prog w = .ok (strv [99, 111, 109, 112, 97, 114, 101]) w := fun _ => by kernel_rfl
theorem idx_verb5 : ∀ w : World, (Instr.index 172 (.agg verbVals.toArray) (.int .i64 5)).run Tryz.prog w = .ok (strv [99, 104, 101, 99, 107]) w := fun _ => by kernel_rfl
theorem idx_verb6 : ∀ w : World, (Instr.index 172 (.agg verbVals.toArray) (.int .i64 6)).run Tryz.prog w = .ok (strv [99, 111, 109, 109, 105, 116]) w := fun _ => by kernel_rfl
theorem idx_verb7 : ∀ w : World, (Instr.index 172 (.agg verbVals.toArray) (.int .i64 7)).run Tryz.prog w = .ok (strv [99, 111, 109, 109, 105, 116, 45, 99, 111, 110, 102, 105, 114, 109, 101, 100]) w := fun _ => by kernel_rfl
theorem idx_verb8 : ∀ w : World, (Instr.index 172 (.agg verbVals.toArray) (.int .i64 8)).run Tryz.prog w = .ok (strv [99, 111, 110, 102, 105, 114, 109]) w := fun _ => by kernel_rfl
theorem idx_verb9 : ∀ w : World, (Instr.index 172 (.agg verbVals.toArray) (.int .i64 9)).run Tryz.prog w = .ok (strv [114, 111, 108, 108, 98, 97, 99, 107]) w := fun _ => by kernel_rfl
set_option maxRecDepth 100000 in
theorem idx_verbs (k : Nat) (x : List UInt8) (h : verbsL[k]? = some x) (w : World) : (Instr.index 172 (.agg verbVals.toArray) (.int .i64 (k : Nat))).run Tryz.prog w = .ok (strv x) w := by
  have hk : k < 10 := (List.getElem?_eq_some_iff.1 h).1
  rcases (show k = 0 ∨ k = 1 ∨ k = 2 ∨ k = 3 ∨ k = 4 ∨ k = 5 ∨ k = 6 ∨ k = 7 ∨ k = 8 ∨ k = 9 by omega) with rfl | rfl | rfl | rfl | rfl | rfl | rfl | rfl | rfl | rfl <;> have h := Option.some.inj h <;> subst h
  · exact idx_verb0 w
  · exact idx_verb1 w
  · exact idx_verb2 w
  · exact idx_verb3 w
  · exact idx_verb4 w
  · exact idx_verb5 w
  · exact idx_verb6 w
  · exact idx_verb7 w
  · exact idx_verb8 w
  · exact idx_verb9 w
theorem VerbsOk.keep {w w' : World} (h : VerbsOk w) (k : Keeps (fun _ => False) w w') : VerbsOk w' := k.rangeAt h id
theorem cmd_one (a h : Int) (N F V : ByteArray) (n : Int) : (#[.int .i64 a, .int .i64 h, .string N, .string F, .string V, .int .i64 n] : Array Value).all (·.oneCell') = true := by simp; exact ⟨rfl, rfl, rfl, rfl, rfl, rfl⟩

theorem verb_yes {s : List UInt8} {k : Nat} {x : List UInt8} (hx : verbsL[k]? = some x) (hno : ∀ j, j < k → verbsL[j]? ≠ some s) (he : x = s) : verbD s = k := by
  have : verbsL.findIdx? (· == s) = some k := by
    rw [List.findIdx?_eq_some_iff_getElem]
    obtain ⟨hk, e⟩ := List.getElem?_eq_some_iff.1 hx
    refine ⟨hk, by simp [e, he], fun j hj => ?_⟩
    have := hno j hj
    rw [List.getElem?_eq_getElem (by omega)] at this
    simpa using fun e => this (by rw [e])
  unfold verbD; rw [this]; rfl
theorem verb_no {s : List UInt8} (hno : ∀ j, j < 10 → verbsL[j]? ≠ some s) : verbD s = 0 := by
  have : verbsL.findIdx? (· == s) = none := by
    rw [List.findIdx?_eq_none_iff]
    intro x hx
    obtain ⟨j, hj⟩ := List.getElem?_of_mem hx
    have := hno j (List.getElem?_eq_some_iff.1 hj).1
    rw [hj] at this
    simpa using fun e => this (by rw [e])
  unfold verbD; rw [this]; rfl

set_option maxRecDepth 100000 in
set_option maxHeartbeats 1000000 in
theorem verbOf_any (s : ByteArray) (r : Nat) (w : World) (hv : Hid (VerbsOk w)) (hr : Hid (verbD s.data.toList = r)) :
    Calls Tryz.prog 91 #[.string s] w fun e w' => e = .returned (.int .i64 r) ∧ w = w' := by
  go_enter Tryz.func91, Tryz.ntmps91
  go_wp2_with ((with_reducible refine at_slot 5 ?_); refine wpList_load_mid rfl 172 (.global 0) rfl 0 0 rfl verbVals _ hv.out Tryz.underlying172 rfl verbsInfo ?_)
  go_loop [6] (fun i => ∃ k : Nat, k ≤ 10 ∧ i = .int .i64 k ∧ Hid (∀ j, j < k → verbsL[j]? ≠ some s.data.toList)) (fun i => 10 - (intOf i).toNat)
  case atStart => exact ⟨0, by omega, rfl, Lib.hid (fun _ h => by omega)⟩
  case round =>
    obtain ⟨k, hk, rfl, hno⟩ := hrel
    by_cases hlt : k < 10
    · obtain ⟨x, hx⟩ : ∃ x, verbsL[k]? = some x := ⟨_, List.getElem?_eq_getElem (show k < verbsL.length from hlt)⟩
      obtain ⟨X, hX⟩ : ∃ X : ByteArray, X = ⟨x.toArray⟩ := ⟨_, rfl⟩
      have hi : ∀ w : World, (Instr.index 172 (.agg verbVals.toArray) (.int .i64 (k : Nat))).run Tryz.prog w = .ok (.string X) w := by rw [hX]; exact idx_verbs k x hx
      have hXl : X.toList = x := by rw [hX, Lib.toList_data]
      by_cases he : x = s.data.toList
      · have e1 : (X.toList == s.toList) = true := by rw [hXl, Lib.toList_data, he]; simp
        have hz : Hid (r = k) := Lib.hid (by rw [← hr.out]; exact verb_yes hx hno.out he)
        clear hX hXl hno he hx
        go_wp2
        go_ret
        exact ⟨by rw [hz.out]; rfl, rfl⟩
      · have e1 : (X.toList == s.toList) = false := by rw [hXl, Lib.toList_data]; simpa using he
        have hno' : Hid (∀ j, j < k + 1 → verbsL[j]? ≠ some s.data.toList) := Lib.hid (fun j hj => by
          by_cases e : j = k
          · subst e; rw [hx]; intro h; injection h with h; exact he h
          · exact hno.out j (by omega))
        clear hX hXl hno he hx
        go_wp2
        go_round
        case rel => exact ⟨k + 1, by omega, by go_num, hno'⟩
        case measure => simp [intOf]; omega
    · obtain rfl : k = 10 := by omega
      have hz : Hid (r = 0) := Lib.hid (by rw [← hr.out]; exact verb_no hno.out)
      clear hno
      go_wp2
      go_ret
      exact ⟨by rw [hz.out]; rfl, rfl⟩

set_option maxRecDepth 100000 in
theorem headOf_any (s : ByteArray) (r : Int) (w : World) (hr : Hid (headD s.data.toList = r)) :
    Calls Tryz.prog 69 #[.string s] w fun e w' => e = .returned (.tuple #[.int .i64 r, .bool (decide (r ≠ 0))]) ∧ w = w' := by
  have hq := hr.out
  unfold headD at hq
  by_cases h1 : s.data.toList = areaW
  · rw [if_pos h1] at hq
    have e1 : (s.toList == [97, 114, 101, 97]) = true := by rw [Lib.toList_data, h1]; rfl
    subst hq; clear hr h1
    go_enter Tryz.func69, Tryz.ntmps69
    go_wp2
    go_ret2
    exact ⟨rfl, rfl⟩
  · rw [if_neg h1] at hq
    have e1 : (s.toList == [97, 114, 101, 97]) = false := by rw [Lib.toList_data]; simpa [areaW] using h1
    by_cases h2 : s.data.toList = faceW
    · rw [if_pos h2] at hq
      have e2 : (s.toList == [105, 110, 116, 101, 114, 102, 97, 99, 101]) = true := by rw [Lib.toList_data, h2]; rfl
      subst hq; clear hr h1 h2
      go_enter Tryz.func69, Tryz.ntmps69
      go_wp2
      go_ret2
      exact ⟨rfl, rfl⟩
    · rw [if_neg h2] at hq
      have e2 : (s.toList == [105, 110, 116, 101, 114, 102, 97, 99, 101]) = false := by rw [Lib.toList_data]; simpa [faceW] using h2
      subst hq; clear hr h1 h2
      go_enter Tryz.func69, Tryz.ntmps69
      go_wp2
      go_ret2
      exact ⟨rfl, rfl⟩

theorem find0 (head : Int) (nm : ByteArray) (w : World) (h : Hid (findD head nm.data.toList = none)) :
    Calls Tryz.prog 126 #[.int .i64 head, .string nm] w fun e w' => e = .returned (.tuple #[.agg #[.int .i64 0, .string ⟨#[]⟩, .int .i64 0, .int .i64 0, .int .i64 0, .slice none 0 0, .string ⟨#[]⟩, .int .i64 0], .bool false]) ∧ Keeps (fun _ => False) w w' := find_any head nm none w h
theorem find1 (head : Int) (nm : ByteArray) (r : RowD) (N F : ByteArray) (w : World) (h : Hid (findD head nm.data.toList = some r)) (hN : Hid (N = ⟨r.name.toArray⟩)) (hF : Hid (F = ⟨r.df.toArray⟩)) :
    Calls Tryz.prog 126 #[.int .i64 head, .string nm] w fun e w' => ∃ p cc, e = .returned (.tuple #[.agg #[.int .i64 r.head, .string N, .int .i64 r.kind, .int .i64 r.lo, .int .i64 r.hi, .slice p r.cs.length cc, .string F, .int .i64 r.cl], .bool true]) ∧ StrsAt w' (.slice p r.cs.length cc) r.cs ∧ Keeps (fun _ => False) w w' := by
  rw [hN.out, hF.out]; exact find_any head nm (some r) w h

set_option maxRecDepth 100000 in
set_option maxHeartbeats 1000000 in
theorem hasRow_any (h : Int) (N F V : ByteArray) (r : Bool) (w : World) (hr : Hid ((findD h F.data.toList).isSome = r)) :
    Calls Tryz.prog 113 #[.agg #[.int .i64 h, .string N, .string F, .string V]] w (NewRes (.bool r) w) := by
  cases hf : findD h F.data.toList with
  | none =>
    obtain rfl : r = false := by rw [← hr.out, hf]; rfl
    have hf' := Lib.hid hf; clear hf hr
    go_enter Tryz.func113, Tryz.ntmps113
    go_wp2_with fail
    refine (find0 h F _ hf').mono ?_
    rintro e w2 ⟨rfl, k2⟩
    have k2' := Lib.hid k2; clear k2
    go_wp2_with ((with_reducible refine at_store 3 ?_); refine wpList_store_new rfl 155 (.tmp 3) (.tmp 11) rfl _ #[.int .i64 0, .string ⟨#[]⟩, .int .i64 0, .int .i64 0, .int .i64 0, .slice none 0 0, .string ⟨#[]⟩, .int .i64 0] rfl rfl rowInfo rfl (row_one _ _ _ _ _ _ _ _ _ _) ?_)
    go_ret
    exact ⟨rfl, (((Keeps.refl _ _).alloc _).trans k2'.out).alloc _⟩
  | some q =>
    obtain rfl : r = true := by rw [← hr.out, hf]; rfl
    have hf' := Lib.hid hf; clear hf hr
    obtain ⟨M, hM⟩ : ∃ M : ByteArray, M = ⟨q.name.toArray⟩ := ⟨_, rfl⟩
    obtain ⟨D, hD⟩ : ∃ D : ByteArray, D = ⟨q.df.toArray⟩ := ⟨_, rfl⟩
    have hM' := Lib.hid hM; have hD' := Lib.hid hD; clear hM hD
    go_enter Tryz.func113, Tryz.ntmps113
    go_wp2_with fail
    refine (find1 h F q M D _ hf' hM' hD').mono ?_
    rintro e w2 ⟨p, cc, rfl, hst, k2⟩
    have k2' := Lib.hid k2; clear k2 hst
    go_wp2_with ((with_reducible refine at_store 3 ?_); refine wpList_store_new rfl 155 (.tmp 3) (.tmp 11) rfl _ #[.int .i64 q.head, .string M, .int .i64 q.kind, .int .i64 q.lo, .int .i64 q.hi, .slice p q.cs.length cc, .string D, .int .i64 q.cl] rfl rfl rowInfo rfl (row_one _ _ _ _ _ _ _ _ _ _) ?_)
    go_ret
    exact ⟨rfl, (((Keeps.refl _ _).alloc _).trans k2'.out).alloc _⟩

theorem rows_short (r : RowD) {head : Int} {leaf : List UInt8} (h : findD head leaf = some r) : r.cs.length ≤ 1000 := by
  have : ∀ q ∈ tableD, q.cs.length ≤ 1000 := by decide
  exact this r (List.mem_of_find?_eq_some h)
set_option maxRecDepth 100000 in
set_option maxHeartbeats 1000000 in
theorem rightValue_any (h : Int) (N F V : ByteArray) (r : Bool) (w : World) (hs : V.size ≤ 9223372036854775807) (hr : Hid (rightV h F.data.toList V.data.toList = r)) :
    Calls Tryz.prog 101 #[.agg #[.int .i64 h, .string N, .string F, .string V]] w (NewRes (.bool r) w) := by
  have hq := hr.out
  unfold rightV at hq
  cases hf : findD h F.data.toList with
  | none =>
    obtain rfl : r = false := by rw [← hq, hf]
    have hf' := Lib.hid hf; clear hf hr hq
    go_enter Tryz.func101, Tryz.ntmps101
    go_wp2_with fail
    refine (find0 h F _ hf').mono ?_
    rintro e w2 ⟨rfl, k2⟩
    have k2' := Lib.hid k2; clear k2
    go_wp2_with ((with_reducible refine at_store 3 ?_); refine wpList_store_new rfl 155 (.tmp 3) (.tmp 11) rfl _ #[.int .i64 0, .string ⟨#[]⟩, .int .i64 0, .int .i64 0, .int .i64 0, .slice none 0 0, .string ⟨#[]⟩, .int .i64 0] rfl rfl rowInfo rfl (row_one _ _ _ _ _ _ _ _ _ _) ?_)
    go_ret
    exact ⟨rfl, (((Keeps.refl _ _).alloc _).trans k2'.out).alloc _⟩
  | some q =>
    rw [hf] at hq
    have hq' : Hid (rightB q.kind q.lo q.hi q.cs V.data.toList = r) := Lib.hid hq
    have hcl := rows_short q hf
    have hf' := Lib.hid hf; clear hf hr hq
    obtain ⟨M, hM⟩ : ∃ M : ByteArray, M = ⟨q.name.toArray⟩ := ⟨_, rfl⟩
    obtain ⟨D, hD⟩ : ∃ D : ByteArray, D = ⟨q.df.toArray⟩ := ⟨_, rfl⟩
    have hM' := Lib.hid hM; have hD' := Lib.hid hD; clear hM hD
    go_enter Tryz.func101, Tryz.ntmps101
    go_wp2_with fail
    refine (find1 h F q M D _ hf' hM' hD').mono ?_
    rintro e w2 ⟨p, cc, rfl, hst, k2⟩
    have hst' := Lib.hid (hst.alloc (.cells #[.int .i64 q.head, .string M, .int .i64 q.kind, .int .i64 q.lo, .int .i64 q.hi, .slice p q.cs.length cc, .string D, .int .i64 q.cl] 155))
    have hV0 : (w.alloc (.cells #[.int .i64 h, .string N, .string F, .string V] 50)).cell? ⟨w.heap.size, 3, none⟩ = some (.string V) := (BlkAt.new w 50 [.int .i64 h, .string N, .string F, .string V]).cell 3 _ rfl
    have hV2 : (w2.alloc (.cells #[.int .i64 q.head, .string M, .int .i64 q.kind, .int .i64 q.lo, .int .i64 q.hi, .slice p q.cs.length cc, .string D, .int .i64 q.cl] 155)).cell? ⟨w.heap.size, 3, none⟩ = some (.string V) :=
      ((BlkAt.new w 50 [.int .i64 h, .string N, .string F, .string V]).keep (k2.alloc _) id).cell 3 _ rfl
    have k2' := Lib.hid k2; clear k2 hst hV0
    go_wp2_with (first | ((with_reducible refine at_store 3 ?_); refine wpList_store_new rfl 155 (.tmp 3) (.tmp 11) rfl _ #[.int .i64 q.head, .string M, .int .i64 q.kind, .int .i64 q.lo, .int .i64 q.hi, .slice p q.cs.length cc, .string D, .int .i64 q.cl] rfl rfl rowInfo rfl (row_one _ _ _ _ _ _ _ _ _ _) ?_) | ((with_reducible refine at_slot 15 ?_); refine wpList_load_mid_gd (by rfl) 155 (.tmp 3) rfl w2.heap.size 0 rfl [.int .i64 q.head, .string M, .int .i64 q.kind, .int .i64 q.lo, .int .i64 q.hi, .slice p q.cs.length cc, .string D, .int .i64 q.cl] _ (new_rangeb _ _ _) Tryz.underlying155 rfl rowInfo ?_))
    refine (right_any q.head M D q.kind q.lo q.hi q.cl p cc q.cs V r _ hs hcl hst' hq').mono ?_
    rintro e w3 ⟨rfl, k3⟩
    have k3' := Lib.hid k3; clear k3
    go_wp2
    go_ret
    exact ⟨rfl, ((((Keeps.refl _ _).alloc _).trans k2'.out).alloc _).trans k3'.out⟩
end Go.Proofs.YtdannodhlaaoiaaGreatDoor
