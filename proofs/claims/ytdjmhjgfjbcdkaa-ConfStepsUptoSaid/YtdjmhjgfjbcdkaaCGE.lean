/- Right lines are short; a right configuration with a right line more is right, plain. -/
import Derived.Test.YtdjmhjgfjbcdkaaCGA
set_option linter.unusedVariables false
set_option linter.unusedSimpArgs false
namespace Go.Proofs.Ytdjmhjgfjbcdkaa
open Go.RowKit

theorem decL_len {l : List UInt8} {n : Nat} (h : decL l = some n) : l.length ≤ 9 := by
  unfold decL at h
  split at h
  · rename_i h'
    simp only [Bool.and_eq_true] at h'
    have := h'.1; unfold decShape at this; rw [decide_eq_true_eq] at this; exact this.2.1
  · cases h
theorem addrGo_len : ∀ (k n : Nat) (s : List UInt8) (m : Nat), 1 ≤ k → addrGo k n s = some m → s.length ≤ 10 * k := by
  intro k
  induction k with
  | zero => intro n s m h; omega
  | succ k ih =>
    intro n s m _ h
    by_cases hd : 46 ∈ s
    · rw [addrGo_yes hd] at h
      cases hb : decL (s.take (before 46 s)) with
      | none => rw [hb] at h; cases h
      | some b =>
        rw [hb] at h
        simp only at h
        split at h
        · rename_i hc
          have h1 := decL_len hb
          have h2 := ih _ _ _ (by omega) h
          rw [List.length_take] at h1
          rw [List.length_drop] at h2
          omega
        · cases h
    · rw [addrGo_no hd] at h
      cases hb : decL s with
      | none => rw [hb] at h; cases h
      | some b => have := decL_len hb; omega
theorem addrL_len {s : List UInt8} (h : (addrL s).isSome = true) : s.length ≤ 40 := by
  obtain ⟨m, hm⟩ := Option.isSome_iff_exists.1 h
  exact addrGo_len 4 0 s m (by omega) hm
theorem netL_len {s : List UInt8} (h : (netL s).isSome = true) : s.length ≤ 50 := by
  unfold netL at h
  split at h
  · cases ha : addrL (s.take (before 47 s)) with
    | none => rw [ha] at h; simp at h
    | some a =>
      cases hb : decL (s.drop (before 47 s + 1)) with
      | none => rw [ha, hb] at h; simp at h
      | some b =>
        have h1 := addrL_len (s := s.take (before 47 s)) (by rw [ha]; rfl)
        have h2 := decL_len hb
        rw [List.length_take] at h1
        rw [List.length_drop] at h2
        omega
  · cases h
theorem isWordB_len {s : List UInt8} (h : isWordB s = true) : s.length ≤ 31 := by
  unfold isWordB at h
  rw [Bool.and_eq_true, decide_eq_true_eq] at h
  exact h.1.2
theorem line_small {l : LineD} (h : lineB l = true) : l.name.length ≤ 100 ∧ l.leaf.length ≤ 100 ∧ l.value.length ≤ 100 := by
  unfold lineB at h
  cases hf : findD l.head l.leaf with
  | none => rw [hf] at h; cases h
  | some r =>
    rw [hf] at h
    simp only [Bool.and_eq_true] at h
    have hm : r ∈ tableD := List.mem_of_find?_eq_some hf
    have hp := List.find?_some hf
    rw [decide_eq_true_eq] at hp
    have hall : ∀ q ∈ tableD, q.name.length ≤ 30 ∧ ∀ c ∈ q.cs, c.length ≤ 30 := by decide
    obtain ⟨h1, h2⟩ := hall r hm
    refine ⟨?_, by rw [← hp.2]; omega, ?_⟩
    · have hn := h.1
      unfold namedB at hn
      split at hn
      · have : l.name = [] := by simpa using hn
        rw [this]; simp
      · split at hn
        · have := addrL_len hn; omega
        · split at hn
          · rw [Bool.and_eq_true] at hn
            have := isWordB_len hn.1; omega
          · cases hn
    · have hv := h.2
      unfold rightB at hv
      split at hv
      · have := addrL_len hv; omega
      · split at hv
        · have := netL_len hv; omega
        · split at hv
          · cases hd : decL l.value with
            | none => rw [hd] at hv; cases hv
            | some n => have := decL_len hd; omega
          · split at hv
            · have := h2 l.value (by simpa using hv); omega
            · split at hv
              · rw [Bool.and_eq_true] at hv
                have := isWordB_len hv.2; omega
              · cases hv
theorem riseB_line {ls : List LineD} : ∀ {k : Nat}, riseB ls k = true → ∀ i l, i < k → ls[i]? = some l → lineB l = true := by
  intro k
  induction k with
  | zero => intro _ i l hi; omega
  | succ k ih =>
    intro h i l hi hl
    rw [riseB, Bool.and_eq_true] at h
    by_cases e : i < k
    · exact ih h.1 i l e hl
    · obtain rfl : i = k := by omega
      have h2 := h.2
      rw [hl] at h2
      simp only [Bool.and_eq_true] at h2
      exact h2.1
theorem right_line {ls : List LineD} (h : rightC ls = true) : ∀ l ∈ ls, lineB l = true := fun l hl => by
  unfold rightC at h
  rw [Bool.and_eq_true] at h
  obtain ⟨i, hi⟩ := List.getElem?_of_mem hl
  exact riseB_line h.2 i l (List.getElem?_eq_some_iff.1 hi).1 hi
theorem right_len {ls : List LineD} (h : rightC ls = true) : ls.length ≤ 64 := by
  unfold rightC at h
  rw [Bool.and_eq_true, decide_eq_true_eq] at h
  exact h.1
theorem right_lt {ls : List LineD} (h : rightC ls = true) (m : Nat) (hm : 100 ≤ m) : LinesLt ls m := fun l hl => by
  have := line_small (right_line h l hl)
  omega
theorem rises_at {ls : List LineD} (h : rises ls) : ∀ i a b, ls[i]? = some a → ls[i + 1]? = some b → lessB a b = true := by
  induction ls with
  | nil => intro i a b ha; simp at ha
  | cons q ls ih =>
    intro i a b ha hb
    cases i with
    | zero =>
      simp at ha; subst ha
      exact rises_head h b (List.mem_of_getElem? (by simpa using hb))
    | succ i => exact ih (rises_tail h) i a b (by simpa using ha) (by simpa using hb)
theorem riseB_of {ls : List LineD} (h1 : ∀ l ∈ ls, lineB l = true) (h2 : rises ls) : ∀ k, k ≤ ls.length → riseB ls k = true := by
  intro k
  induction k with
  | zero => intro _; rfl
  | succ k ih =>
    intro hk
    rw [riseB, ih (by omega), Bool.true_and]
    have hq : ls[k]? = some ls[k] := List.getElem?_eq_getElem (by omega)
    rw [hq]
    simp only [h1 _ (List.getElem_mem _), Bool.true_and]
    cases k with
    | zero => rfl
    | succ j =>
      have hj : ls[j]? = some ls[j] := List.getElem?_eq_getElem (by omega)
      simp only [hj]
      exact rises_at h2 j _ _ hj hq
theorem right_of {ls : List LineD} (h1 : ∀ l ∈ ls, lineB l = true) (h2 : rises ls) (h3 : ls.length ≤ 64) : rightC ls = true := by
  unfold rightC
  rw [riseB_of h1 h2 _ (Nat.le_refl _)]
  simp [h3]
theorem setC_ahead {x q : LineD} {ls : List LineD} (h : lessB q x = true) : setC x (q :: ls) = q :: setC x ls := by
  have hp : posL x (q :: ls) = posL x ls + 1 := by rw [posL, if_pos h]
  have ht : thereB x (q :: ls) = thereB x ls := by unfold thereB; rw [hp]; simp
  unfold setC
  rw [hp, ht]
  split <;> simp [Nat.add_right_comm]
theorem setC_here {x q : LineD} {ls : List LineD} (h : lessB q x = false) (h2 : lessB x q = true) : setC x (q :: ls) = x :: q :: ls := by
  have hp : posL x (q :: ls) = 0 := by rw [posL, if_neg (by rw [h]; exact Bool.false_ne_true)]
  have ht : thereB x (q :: ls) = false := by unfold thereB; rw [hp]; simp [h2]
  unfold setC
  rw [hp, ht]; simp
theorem setC_same {x q : LineD} {ls : List LineD} (h : lessB q x = false) (h2 : lessB x q = false) : setC x (q :: ls) = x :: ls := by
  have hp : posL x (q :: ls) = 0 := by rw [posL, if_neg (by rw [h]; exact Bool.false_ne_true)]
  have ht : thereB x (q :: ls) = true := by unfold thereB; rw [hp]; simp [h2]
  unfold setC
  rw [hp, ht]; simp
theorem mem_setC {x l : LineD} : ∀ {ls : List LineD}, l ∈ setC x ls → l = x ∨ l ∈ ls := by
  intro ls h
  unfold setC at h
  rcases List.mem_append.1 h with h | h
  · exact .inr (List.mem_of_mem_take h)
  · rcases List.mem_cons.1 h with h | h
    · exact .inl h
    · exact .inr (List.mem_of_mem_drop h)
theorem rises_cons {a : LineD} {ls : List LineD} (h : ∀ b ∈ ls, lessB a b = true) (h2 : rises ls) : rises (a :: ls) := by
  cases ls with
  | nil => trivial
  | cons b ls => exact ⟨h b (List.mem_cons_self ..), h2⟩
theorem rises_setC {x : LineD} : ∀ {ls : List LineD}, rises ls → rises (setC x ls) := by
  intro ls
  induction ls with
  | nil => intro _; trivial
  | cons q ls ih =>
    intro h
    cases hq : lessB q x with
    | true =>
      rw [setC_ahead hq]
      refine rises_cons (fun b hb => ?_) (ih (rises_tail h))
      rcases mem_setC hb with rfl | hb
      · exact hq
      · exact rises_head h b hb
    | false =>
      cases hx : lessB x q with
      | true =>
        rw [setC_here hq hx]
        exact rises_cons (fun b hb => by
          rcases List.mem_cons.1 hb with rfl | hb
          · exact hx
          · exact less_trans hx (rises_head h b hb)) h
      | false =>
        rw [setC_same hq hx]
        exact rises_cons (fun b hb => le_trans_less hq (rises_head h b hb)) (rises_tail h)
theorem right_setC {x : LineD} {ls : List LineD} (h : rightC ls = true) (hx : lineB x = true) (hl : (setC x ls).length ≤ 64) : rightC (setC x ls) = true :=
  right_of (fun l hl => by
    rcases mem_setC hl with rfl | hl
    · exact hx
    · exact right_line h l hl) (rises_setC (right_rises h)) hl
/-- what Build makes -/
def stepB (c : List LineD) (x : LineD) : List LineD := if lineB x = true ∧ (setC x c).length ≤ 64 then setC x c else c
def buildC (ls : List LineD) : List LineD := (ls.take 100).foldl stepB []
theorem stepB_right {c : List LineD} (x : LineD) (h : rightC c = true) : rightC (stepB c x) = true := by
  unfold stepB
  split
  · rename_i h2; exact right_setC h h2.1 h2.2
  · exact h
theorem fold_right : ∀ (ls c : List LineD), rightC c = true → rightC (ls.foldl stepB c) = true := by
  intro ls
  induction ls with
  | nil => intro c h; exact h
  | cons x ls ih => intro c h; rw [List.foldl_cons]; exact ih _ (stepB_right x h)
theorem build_right (ls : List LineD) : rightC (buildC ls) = true := fold_right _ _ (by decide +kernel)
end Go.Proofs.Ytdjmhjgfjbcdkaa
