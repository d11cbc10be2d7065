/- The order of lines; what the document's Set makes, plain. -/
import Derived.Test.YtdjmhjgfjbcdkaaCFG
set_option linter.unusedVariables false
set_option linter.unusedSimpArgs false
namespace Go.Proofs.Ytdjmhjgfjbcdkaa
open Go.RowKit

theorem bl_asymm : ∀ {a b : List UInt8}, Op.bytesLess a b = true → Op.bytesLess b a = false
  | [], [], h => by simp [Op.bytesLess] at h
  | [], _ :: _, _ => rfl
  | _ :: _, [], h => by simp [Op.bytesLess] at h
  | a :: x, b :: y, h => by
    simp only [Op.bytesLess, Bool.or_eq_true, Bool.and_eq_true, decide_eq_true_eq, beq_iff_eq] at h
    simp only [Op.bytesLess, Bool.or_eq_false_iff, Bool.and_eq_false_iff, decide_eq_false_iff_not, beq_eq_false_iff_ne]
    rcases h with h | ⟨rfl, h⟩
    · have := UInt8.lt_iff_toNat_lt.1 h
      refine ⟨fun h2 => ?_, .inl fun e => ?_⟩
      · have := UInt8.lt_iff_toNat_lt.1 h2; omega
      · subst e; omega
    · exact ⟨fun h2 => by have := UInt8.lt_iff_toNat_lt.1 h2; omega, .inr (bl_asymm h)⟩
theorem bl_tri : ∀ {a b : List UInt8}, Op.bytesLess a b = false → Op.bytesLess b a = false → a = b
  | [], [], _, _ => rfl
  | [], _ :: _, h, _ => by simp [Op.bytesLess] at h
  | _ :: _, [], _, h => by simp [Op.bytesLess] at h
  | a :: x, b :: y, h, h2 => by
    simp only [Op.bytesLess, Bool.or_eq_false_iff, Bool.and_eq_false_iff, decide_eq_false_iff_not, beq_eq_false_iff_ne] at h h2
    have e : a = b := by
      apply UInt8.toNat_inj.mp
      have h3 : ¬ a.toNat < b.toNat := fun h' => h.1 (UInt8.lt_iff_toNat_lt.2 h')
      have h4 : ¬ b.toNat < a.toNat := fun h' => h2.1 (UInt8.lt_iff_toNat_lt.2 h')
      omega
    subst e
    have h3 : Op.bytesLess x y = false := by rcases h.2 with h | h; exact absurd rfl h; exact h
    have h4 : Op.bytesLess y x = false := by rcases h2.2 with h | h; exact absurd rfl h; exact h
    exact congrArg (a :: ·) (bl_tri h3 h4)
theorem bl_trans : ∀ {a b c : List UInt8}, Op.bytesLess a b = true → Op.bytesLess b c = true → Op.bytesLess a c = true
  | _, [], _, h, _ => by simp [Op.bytesLess] at h
  | _, _ :: _, [], _, h => by simp [Op.bytesLess] at h
  | [], _ :: _, _ :: _, _, _ => rfl
  | a :: x, b :: y, c :: z, h, h2 => by
    simp only [Op.bytesLess, Bool.or_eq_true, Bool.and_eq_true, decide_eq_true_eq, beq_iff_eq] at h h2 ⊢
    rcases h with h | ⟨rfl, h⟩
    · rcases h2 with h2 | ⟨rfl, h2⟩
      · left
        have := UInt8.lt_iff_toNat_lt.1 h; have := UInt8.lt_iff_toNat_lt.1 h2
        exact UInt8.lt_iff_toNat_lt.2 (by omega)
      · exact .inl h
    · rcases h2 with h2 | ⟨rfl, h2⟩
      · exact .inl h2
      · exact .inr ⟨rfl, bl_trans h h2⟩
/-- as a proposition -/
theorem lessB_iff (a b : LineD) : lessB a b = true ↔ a.head < b.head ∨ (a.head = b.head ∧ (Op.bytesLess a.name b.name = true ∨ (a.name = b.name ∧ Op.bytesLess a.leaf b.leaf = true))) := by
  unfold lessB
  by_cases h : a.head = b.head
  · rw [if_pos h]
    by_cases n : a.name = b.name
    · rw [if_pos n]
      have e : Op.bytesLess a.name b.name = false := by rw [n]; cases hb : Op.bytesLess b.name b.name with
        | false => rfl
        | true => have := bl_asymm hb; rw [hb] at this; cases this
      simp [h, n]
      intro e2
      rw [n] at e
      rw [e] at e2; cases e2
    · rw [if_neg n]; simp [h, n]
  · rw [if_neg h]; simp [h]
theorem bl_irr (a : List UInt8) : Op.bytesLess a a = false := by
  cases hb : Op.bytesLess a a with
  | false => rfl
  | true => have := bl_asymm hb; rw [hb] at this; cases this
theorem less_asymm {a b : LineD} (h : lessB a b = true) : lessB b a = false := by
  rw [← Bool.not_eq_true]
  rw [lessB_iff] at h ⊢
  rintro h2
  rcases h with h | ⟨h, h3⟩
  · rcases h2 with h2 | ⟨h2, _⟩ <;> omega
  · rcases h2 with h2 | ⟨_, h4⟩
    · omega
    · rcases h3 with h3 | ⟨e, h3⟩
      · rcases h4 with h4 | ⟨e, h4⟩
        · rw [bl_asymm h3] at h4; cases h4
        · rw [e, bl_irr] at h3; cases h3
      · rcases h4 with h4 | ⟨_, h4⟩
        · rw [e, bl_irr] at h4; cases h4
        · rw [bl_asymm h3] at h4; cases h4
theorem less_trans {a b c : LineD} (h : lessB a b = true) (h2 : lessB b c = true) : lessB a c = true := by
  rw [lessB_iff] at h h2 ⊢
  rcases h with h | ⟨h, h3⟩
  · rcases h2 with h2 | ⟨h2, _⟩ <;> (left; omega)
  · rcases h2 with h2 | ⟨h2, h4⟩
    · left; omega
    · right
      refine ⟨by omega, ?_⟩
      rcases h3 with h3 | ⟨e, h3⟩
      · rcases h4 with h4 | ⟨e, h4⟩
        · exact .inl (bl_trans h3 h4)
        · exact .inl (by rw [← e]; exact h3)
      · rcases h4 with h4 | ⟨e2, h4⟩
        · exact .inl (by rw [e]; exact h4)
        · exact .inr ⟨by rw [e, e2], bl_trans h3 h4⟩
/-- not ahead, and ahead of a third one -/
theorem le_trans_less {x q r : LineD} (h : lessB q x = false) (h2 : lessB q r = true) : lessB x r = true := by
  cases hx : lessB x q with
  | true => exact less_trans hx h2
  | false =>
    have e : x.head = q.head ∧ x.name = q.name ∧ x.leaf = q.leaf := by
      have a1 := (not_congr (lessB_iff q x)).1 (by rw [h]; exact Bool.false_ne_true)
      have a2 := (not_congr (lessB_iff x q)).1 (by rw [hx]; exact Bool.false_ne_true)
      have eh : x.head = q.head := by
        have : ¬ q.head < x.head := fun h' => a1 (.inl h')
        have : ¬ x.head < q.head := fun h' => a2 (.inl h')
        omega
      have en : x.name = q.name := bl_tri (Bool.eq_false_iff.2 fun h' => a2 (.inr ⟨eh, .inl h'⟩)) (Bool.eq_false_iff.2 fun h' => a1 (.inr ⟨eh.symm, .inl h'⟩))
      exact ⟨eh, en, bl_tri (Bool.eq_false_iff.2 fun h' => a2 (.inr ⟨eh, .inr ⟨en, h'⟩⟩)) (Bool.eq_false_iff.2 fun h' => a1 (.inr ⟨eh.symm, .inr ⟨en.symm, h'⟩⟩))⟩
    rw [lessB_iff] at h2 ⊢
    rw [e.1, e.2.1, e.2.2]; exact h2

/-- each one is ahead of the next -/
def rises : List LineD → Prop
  | [] => True
  | [_] => True
  | a :: b :: ls => lessB a b = true ∧ rises (b :: ls)
theorem rises_head {a : LineD} : ∀ {ls : List LineD}, rises (a :: ls) → ∀ q ∈ ls, lessB a q = true := by
  intro ls
  induction ls generalizing a with
  | nil => intro _ q hq; cases hq
  | cons b ls ih =>
    intro h q hq
    rcases List.mem_cons.1 hq with rfl | hq
    · exact h.1
    · exact less_trans h.1 (ih h.2 q hq)
theorem rises_tail {a : LineD} {ls : List LineD} (h : rises (a :: ls)) : rises ls := by
  cases ls with
  | nil => trivial
  | cons b ls => exact h.2
/-- a round of the document's Set -/
def stepR (x : LineD) (s : List LineD × Bool) (q : LineD) : List LineD × Bool :=
  let t := if (!s.2 && !lessB q x) = true then (s.1 ++ [x], true) else s
  if (lessB q x || lessB x q) = true then (t.1 ++ [q], t.2) else t
theorem stepR_ahead {x q : LineD} (out : List LineD) (h : lessB q x = true) : stepR x (out, false) q = (out ++ [q], false) := by
  simp [stepR, h]
theorem stepR_behind {x q : LineD} (out : List LineD) (h : lessB x q = true) : stepR x (out, true) q = (out ++ [q], true) := by
  simp [stepR, h]
theorem fold_behind {x : LineD} : ∀ (ls out : List LineD), (∀ q ∈ ls, lessB x q = true) → ls.foldl (stepR x) (out, true) = (out ++ ls, true) := by
  intro ls
  induction ls with
  | nil => intro out _; simp
  | cons q ls ih =>
    intro out h
    rw [List.foldl_cons, stepR_behind out (h q (List.mem_cons_self ..)), ih _ (fun r hr => h r (List.mem_cons_of_mem _ hr)), List.append_assoc]; rfl
def endR (x : LineD) (s : List LineD × Bool) : List LineD := if s.2 = true then s.1 else s.1 ++ [x]
theorem fold_set {x : LineD} : ∀ (ls out : List LineD), rises ls → endR x (ls.foldl (stepR x) (out, false)) = out ++ setC x ls := by
  intro ls
  induction ls with
  | nil => intro out _; rfl
  | cons q ls ih =>
    intro out h
    by_cases hq : lessB q x = true
    · rw [List.foldl_cons, stepR_ahead out hq, ih _ (rises_tail h), List.append_assoc]
      congr 1
      have hp : posL x (q :: ls) = posL x ls + 1 := by rw [posL, if_pos hq]
      have ht : thereB x (q :: ls) = thereB x ls := by unfold thereB; rw [hp]; simp
      unfold setC
      rw [hp, ht]
      split <;> simp [Nat.add_right_comm]
    · have hq' : lessB q x = false := by simpa using hq
      have hp : posL x (q :: ls) = 0 := by rw [posL, if_neg hq]
      have hb : ∀ r ∈ ls, lessB x r = true := fun r hr => le_trans_less hq' (rises_head h r hr)
      rw [List.foldl_cons]
      cases hx : lessB x q with
      | true =>
        have e : stepR x (out, false) q = (out ++ [x] ++ [q], true) := by simp [stepR, hq', hx]
        have ht : thereB x (q :: ls) = false := by unfold thereB; rw [hp]; simp [hx]
        rw [e, fold_behind _ _ hb]
        unfold setC endR
        rw [hp, ht]; simp
      | false =>
        have e : stepR x (out, false) q = (out ++ [x], true) := by simp [stepR, hq', hx]
        have ht : thereB x (q :: ls) = true := by unfold thereB; rw [hp]; simp [hx]
        rw [e, fold_behind _ _ hb]
        unfold setC endR
        rw [hp, ht]; simp
theorem riseB_pre {ls : List LineD} : ∀ {k : Nat}, riseB ls k = true → k ≤ ls.length → ∀ i a b, i + 1 < k → ls[i]? = some a → ls[i + 1]? = some b → lessB a b = true := by
  intro k
  induction k with
  | zero => intro _ _ i a b hi; omega
  | succ k ih =>
    intro h hk i a b hi ha hb
    rw [riseB, Bool.and_eq_true] at h
    by_cases e : i + 1 < k
    · exact ih h.1 (by omega) i a b e ha hb
    · obtain rfl : k = i + 1 := by omega
      have h2 := h.2
      rw [hb] at h2
      simp only [Bool.and_eq_true] at h2
      rw [ha] at h2
      exact h2.2
theorem rises_of : ∀ {ls : List LineD}, (∀ i a b, ls[i]? = some a → ls[i + 1]? = some b → lessB a b = true) → rises ls := by
  intro ls
  induction ls with
  | nil => intro _; trivial
  | cons a ls ih =>
    intro h
    cases ls with
    | nil => trivial
    | cons b ls => exact ⟨h 0 a b rfl rfl, ih (fun i c d hc hd => h (i + 1) c d (by simpa using hc) (by simpa using hd))⟩
theorem right_rises {ls : List LineD} (h : rightC ls = true) : rises ls := by
  unfold rightC at h
  rw [Bool.and_eq_true] at h
  refine rises_of fun i a b ha hb => riseB_pre h.2 (Nat.le_refl _) i a b ?_ ha hb
  have := (List.getElem?_eq_some_iff.1 hb).1
  omega
/-- the document's Set makes the same -/
theorem set_fold {x : LineD} {ls : List LineD} (h : rightC ls = true) : endR x (ls.foldl (stepR x) ([], false)) = setC x ls := by
  rw [fold_set ls [] (right_rises h)]; rfl
end Go.Proofs.Ytdjmhjgfjbcdkaa
