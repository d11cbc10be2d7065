/- What Set and Delete change, plain. -/
import Derived.Test.YtdjmhjgfjbcdkaaCGI
set_option linter.unusedVariables false
set_option linter.unusedSimpArgs false
namespace Go.Proofs.Ytdjmhjgfjbcdkaa
open Go.RowKit

def bareL (x : LineD) : LineD := ⟨x.head, x.name, x.leaf, []⟩
theorem posL_bare (x : LineD) : ∀ ls : List LineD, posL (bareL x) ls = posL x ls := by
  intro ls
  induction ls with
  | nil => rfl
  | cons q ls ih =>
    have e : lessB q (bareL x) = lessB q x := rfl
    rw [posL, posL, e, ih]
theorem thereB_bare (x : LineD) (ls : List LineD) : thereB (bareL x) ls = thereB x ls := by
  unfold thereB
  rw [posL_bare]
  cases ls[posL x ls]? <;> rfl
theorem less_irr (a : LineD) : lessB a a = false := by
  cases h : lessB a a with
  | false => rfl
  | true => have := less_asymm h; rw [h] at this; cases this
theorem key_eq {a b : LineD} (h1 : lessB a b = false) (h2 : lessB b a = false) : a.head = b.head ∧ a.name = b.name ∧ a.leaf = b.leaf := by
  have a1 := (not_congr (lessB_iff a b)).1 (by rw [h1]; exact Bool.false_ne_true)
  have a2 := (not_congr (lessB_iff b a)).1 (by rw [h2]; exact Bool.false_ne_true)
  have eh : a.head = b.head := by
    have : ¬ a.head < b.head := fun h' => a1 (.inl h')
    have : ¬ b.head < a.head := fun h' => a2 (.inl h')
    omega
  have en : a.name = b.name := bl_tri (Bool.eq_false_iff.2 fun h' => a1 (.inr ⟨eh, .inl h'⟩)) (Bool.eq_false_iff.2 fun h' => a2 (.inr ⟨eh.symm, .inl h'⟩))
  exact ⟨eh, en, bl_tri (Bool.eq_false_iff.2 fun h' => a1 (.inr ⟨eh, .inr ⟨en, h'⟩⟩)) (Bool.eq_false_iff.2 fun h' => a2 (.inr ⟨eh.symm, .inr ⟨en.symm, h'⟩⟩))⟩
theorem less_key {a b : LineD} (h : lessB a b = true) : ¬ (a.head = b.head ∧ a.name = b.name ∧ a.leaf = b.leaf) := by
  rintro ⟨h1, h2, h3⟩
  rw [lessB_iff] at h
  rw [h1, h2, h3] at h
  rcases h with h | ⟨_, h | ⟨_, h⟩⟩
  · omega
  · rw [bl_irr] at h; cases h
  · rw [bl_irr] at h; cases h
/-- each line stands at its place -/
theorem find_at {q : LineD} : ∀ {ls : List LineD}, rises ls → q ∈ ls → ls[posL q ls]? = some q := by
  intro ls
  induction ls with
  | nil => intro _ h; cases h
  | cons a ls ih =>
    intro h hq
    rcases List.mem_cons.1 hq with rfl | hq
    · rw [posL, if_neg (by rw [less_irr]; exact Bool.false_ne_true)]; rfl
    · rw [posL, if_pos (rises_head h q hq)]
      simpa using ih (rises_tail h) hq
theorem there_at {q : LineD} {ls : List LineD} (h : rises ls) (hq : q ∈ ls) : thereB q ls = true := by
  unfold thereB
  rw [find_at h hq]
  simp [less_irr]
theorem mem_self (x : LineD) (ls : List LineD) : x ∈ setC x ls := by
  unfold setC
  exact List.mem_append_right _ (List.mem_cons_self ..)
theorem setC_again {x : LineD} {ls : List LineD} (h : rises ls) : setC x (setC x ls) = setC x ls := by
  have hr := rises_setC (x := x) h
  have hm := mem_self x ls
  generalize setC x ls = d at hr hm
  have ht := there_at hr hm
  have hf := find_at hr hm
  obtain ⟨hk, e⟩ := List.getElem?_eq_some_iff.1 hf
  unfold setC
  rw [if_pos ht]
  have h1 : d.drop (posL x d) = x :: d.drop (posL x d + 1) := by rw [List.drop_eq_getElem_cons hk, e]
  rw [← h1, List.take_append_drop]
theorem mem_other {x q : LineD} : ∀ {ls : List LineD}, q ∈ ls → ¬ (q.head = x.head ∧ q.name = x.name ∧ q.leaf = x.leaf) → q ∈ setC x ls := by
  intro ls
  induction ls with
  | nil => intro h; cases h
  | cons a ls ih =>
    intro hq hk
    cases ha : lessB a x with
    | true =>
      rw [setC_ahead ha]
      rcases List.mem_cons.1 hq with rfl | hq
      · exact List.mem_cons_self ..
      · exact List.mem_cons_of_mem _ (ih hq hk)
    | false =>
      cases hx : lessB x a with
      | true => rw [setC_here ha hx]; exact List.mem_cons_of_mem _ hq
      | false =>
        rw [setC_same ha hx]
        rcases List.mem_cons.1 hq with rfl | hq
        · exact absurd (key_eq ha hx) hk
        · exact List.mem_cons_of_mem _ hq
theorem keep_not {x q : LineD} (hl : x.leaf ≠ []) (hk : ¬ (x.head = q.head ∧ x.name = q.name ∧ x.leaf = q.leaf)) : keepB x.head x.name x.leaf q = true := by
  unfold keepB
  by_cases a1 : q.head = x.head
  · by_cases a2 : q.name = x.name
    · have a3 : q.leaf ≠ x.leaf := fun e => hk ⟨a1.symm, a2.symm, e.symm⟩
      simp [hl, a3]
    · simp [a2]
  · simp [a1]
theorem keep_self (x : LineD) : keepB x.head x.name x.leaf x = false := by unfold keepB; simp
theorem del_len {x : LineD} (hl : x.leaf ≠ []) : ∀ {ls : List LineD}, rises ls → x ∈ ls → (delC x.head x.name x.leaf ls).length + 1 = ls.length := by
  intro ls
  induction ls with
  | nil => intro _ h; cases h
  | cons a ls ih =>
    intro h hx
    by_cases e : a = x
    · subst e
      have hall : ls.filter (keepB a.head a.name a.leaf) = ls := List.filter_eq_self.2 fun q hq => keep_not hl (less_key (rises_head h q hq))
      unfold delC
      rw [List.filter_cons, keep_self, hall]; rfl
    · have hx2 : x ∈ ls := by rcases List.mem_cons.1 hx with h' | h'; exact absurd h'.symm e; exact h'
      have hk : keepB x.head x.name x.leaf a = true := keep_not hl (fun ⟨e1, e2, e3⟩ => less_key (rises_head h x hx2) ⟨e1.symm, e2.symm, e3.symm⟩)
      have := ih (rises_tail h) hx2
      unfold delC at this ⊢
      rw [List.filter_cons, hk, if_pos rfl, List.length_cons, List.length_cons]; omega
theorem del_again (h : Int) (n l : List UInt8) (ls : List LineD) : delC h n l (delC h n l ls) = delC h n l ls := by unfold delC; rw [List.filter_filter]; simp
theorem rises_filter (f : LineD → Bool) : ∀ {ls : List LineD}, rises ls → rises (ls.filter f) := by
  intro ls
  induction ls with
  | nil => intro _; trivial
  | cons a ls ih =>
    intro h
    rw [List.filter_cons]
    split
    · exact rises_cons (fun b hb => rises_head h b ((List.mem_filter.1 hb).1)) (ih (rises_tail h))
    · exact ih (rises_tail h)
theorem right_del {h : Int} {n l : List UInt8} {ls : List LineD} (hr : rightC ls = true) : rightC (delC h n l ls) = true :=
  right_of (fun q hq => right_line hr q ((List.mem_filter.1 hq).1)) (rises_filter _ (right_rises hr)) (Nat.le_trans (List.length_filter_le _ _) (right_len hr))
theorem leaf_ne {x : LineD} (h : lineB x = true) : x.leaf ≠ [] := by
  unfold lineB at h
  cases hf : findD x.head x.leaf with
  | none => rw [hf] at h; cases h
  | some r =>
    have hm : r ∈ tableD := List.mem_of_find?_eq_some hf
    have hp := List.find?_some hf
    rw [decide_eq_true_eq] at hp
    have hall : ∀ q ∈ tableD, q.name ≠ [] := by decide
    rw [← hp.2]; exact hall r hm
end Go.Proofs.Ytdjmhjgfjbcdkaa
