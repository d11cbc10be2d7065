/- What Set and Delete change, plain. -/
import Derived.Test.YtdannodhlaaoiaaGreatDoorWT23
import Derived.Test.YtdannodhlaaoiaaGreatDoorWT17
import Derived.Test.YtdannodhlaaoiaaGreatDoorWT16
import Derived.Shelf.Strings.Builder1
import Derived.Test.YtdannodhlaaoiaaGreatDoorProg
set_option linter.unusedVariables false
set_option linter.unusedSimpArgs false
set_option linter.unusedVariables false
set_option linter.unusedSimpArgs false
namespace Go.Proofs.YtdannodhlaaoiaaGreatDoor
open Go.RowKit

def bareL (x : LineD) : LineD := ⟨x.head, x.name, x.leaf, []⟩
theorem posL_bare (x : LineD) : ∀ ls : List LineD, posL (bareL x) ls = posL x ls := by
  intro ls
  induction ls with
  | nil => rfl
  | cons q ls ih =>
    have e : lessB q (bareL x) = lessB q x := rfl
    rw [posL, posL, e, ih]
theorem thereB_bare (x : LineD) (ls : List LineD) : thereB (bareL x) ls = thereB x ls := by
  unfold thereB
  rw [posL_bare]
  cases ls[posL x ls]? <;> rfl
theorem less_irr (a : LineD) : lessB a a = false := by
  cases h : lessB a a with
  | false => rfl
  | true => have := less_asymm h; rw [h] at this; cases this
theorem key_eq {a b : LineD} (h1 : lessB a b = false) (h2 : lessB b a = false) : a.head = b.head ∧ a.name = b.name ∧ a.leaf = b.leaf := by
  have a1 := (not_congr (lessB_iff a b)).1 (by rw [h1]; exact Bool.false_ne_true)
  have a2 := (not_congr (lessB_iff b a)).1 (by rw [h2]; exact Bool.false_ne_true)
  have eh : a.head = b.head := by
    have : ¬ a.head < b.head := fun h' => a1 (.inl h')
    have : ¬ b.head < a.head := fun h' => a2 (.inl h')
    omega
  have en : a.name = b.name := bl_tri (Bool.eq_false_iff.2 fun h' => a1 (.inr ⟨eh, .inl h'⟩)) (Bool.eq_false_iff.2 fun h' => a2 (.inr ⟨eh.symm, .inl h'⟩))
  exact ⟨eh, en, bl_tri (Bool.eq_false_iff.2 fun h' => a1 (.inr ⟨eh, .inr ⟨en, h'⟩⟩)) (Bool.eq_false_iff.2 fun h' => a2 (.inr ⟨eh.symm, .inr ⟨en.symm, h'⟩⟩))⟩
theorem less_key {a b : LineD} (h : lessB a b = true) : ¬ (a.head = b.head ∧ a.name = b.name ∧ a.leaf = b.leaf) := by
  rintro ⟨h1, h2, h3⟩
  rw [lessB_iff] at h
  rw [h1, h2, h3] at h
  rcases h with h | ⟨_, h | ⟨_, h⟩⟩
  · omega
  · rw [bl_irr] at h; cases h
  · rw [bl_irr] at h; cases h
/-- each line stands at its place -/
theorem find_at {q : LineD} : ∀ {ls : List LineD}, rises ls → q ∈ ls → ls[posL q ls]? = some q := by
  intro ls
  induction ls with
  | nil => intro _ h; cases h
  | cons a ls ih =>
    intro h hq
    rcases List.mem_cons.1 hq with rfl | hq
    · rw [posL, if_neg (by rw [less_irr]; exact Bool.false_ne_true)]; rfl
    · rw [posL, if_pos (rises_head h q hq)]
      simpa using ih (rises_tail h) hq
theorem there_at {q : LineD} {ls : List LineD} (h : rises ls) (hq : q ∈ ls) : thereB q ls = true := by
  unfold thereB
  rw [find_at h hq]
  simp [less_irr]
theorem mem_self (x : LineD) (ls : List LineD) : x ∈ setC x ls := by
  unfold setC
  exact List.mem_append_right _ (List.mem_cons_self ..)
theorem setC_again {x : LineD} {ls : List LineD} (h : rises ls) : setC x (setC x ls) = setC x ls := by
  have hr := rises_setC (x := x) h
  have hm := mem_self x ls
  generalize setC x ls = d at hr hm
  have ht := there_at hr hm
  have hf := find_at hr hm
  obtain ⟨hk, e⟩ := List.getElem?_eq_some_iff.1 hf
  unfold setC
  rw [if_pos ht]
  have h1 : d.drop (posL x d) = x :: d.drop (posL x d + 1) := by rw [List.drop_eq_getElem_cons hk, e]
  rw [← h1, List.take_append_drop]
theorem mem_other {x q : LineD} : ∀ {ls : List LineD}, q ∈ ls → ¬ (q.head = x.head ∧ q.name = x.name ∧ q.leaf = x.leaf) → q ∈ setC x ls := by
  intro ls
  induction ls with
  | nil => intro h; cases h
  | cons a ls ih =>
    intro hq hk
    cases ha : lessB a x with
    | true =>
      rw [setC_ahead ha]
      rcases List.mem_cons.1 hq with rfl | hq
      · exact List.mem_cons_self ..
      · exact List.mem_cons_of_mem _ (ih hq hk)
    | false =>
      cases hx : lessB x a with
      | true => rw [setC_here ha hx]; exact List.mem_cons_of_mem _ hq
      | false =>
        rw [setC_same ha hx]
        rcases List.mem_cons.1 hq with rfl | hq
        · exact absurd (key_eq ha hx) hk
        · exact List.mem_cons_of_mem _ hq
theorem keep_not {x q : LineD} (hl : x.leaf ≠ []) (hk : ¬ (x.head = q.head ∧ x.name = q.name ∧ x.leaf = q.leaf)) : keepB x.head x.name x.leaf q = true := by
  unfold keepB
  by_cases a1 : q.head = x.head
  · by_cases a2 : q.name = x.name
    · have a3 : q.leaf ≠ x.leaf := fun e => hk ⟨a1.symm, a2.symm, e.symm⟩
      simp [hl, a3]
    · simp [a2]
  · simp [a1]
theorem keep_self (x : LineD) : keepB x.head x.name x.leaf x = false := by unfold keepB; simp
theorem del_len {x : LineD} (hl : x.leaf ≠ []) : ∀ {ls : List LineD}, rises ls → x ∈ ls → (delC x.head x.name x.leaf ls).length + 1 = ls.length := by
  intro ls
  induction ls with
  | nil => intro _ h; cases h
  | cons a ls ih =>
    intro h hx
    by_cases e : a = x
    · subst e
      have hall : ls.filter (keepB a.head a.name a.leaf) = ls := List.filter_eq_self.2 fun q hq => keep_not hl (less_key (rises_head h q hq))
      unfold delC
      rw [List.filter_cons, keep_self, hall]; rfl
    · have hx2 : x ∈ ls := by rcases List.mem_cons.1 hx with h' | h'; exact absurd h'.symm e; exact h'
      have hk : keepB x.head x.name x.leaf a = true := keep_not hl (fun ⟨e1, e2, e3⟩ => less_key (rises_head h x hx2) ⟨e1.symm, e2.symm, e3.symm⟩)
      have := ih (rises_tail h) hx2
      unfold delC at this ⊢
      rw [List.filter_cons, hk, if_pos rfl, List.length_cons, List.length_cons]; omega
theorem del_again (h : Int) (n l : List UInt8) (ls : List LineD) : delC h n l (delC h n l ls) = delC h n l ls := by unfold delC; rw [List.filter_filter]; simp
theorem rises_filter (f : LineD → Bool) : ∀ {ls : List LineD}, rises ls → rises (ls.filter f) := by
  intro ls
  induction ls with
  | nil => intro _; trivial
  | cons a ls ih =>
    intro h
    rw [List.filter_cons]
    split
    · exact rises_cons (fun b hb => rises_head h b ((List.mem_filter.1 hb).1)) (ih (rises_tail h))
    · exact ih (rises_tail h)
theorem right_del {h : Int} {n l : List UInt8} {ls : List LineD} (hr : rightC ls = true) : rightC (delC h n l ls) = true :=
  right_of (fun q hq => right_line hr q ((List.mem_filter.1 hq).1)) (rises_filter _ (right_rises hr)) (Nat.le_trans (List.length_filter_le _ _) (right_len hr))
theorem leaf_ne {x : LineD} (h : lineB x = true) : x.leaf ≠ [] := by
  unfold lineB at h
  cases hf : findD x.head x.leaf with
  | none => rw [hf] at h; cases h
  | some r =>
    have hm : r ∈ tableD := List.mem_of_find?_eq_some hf
    have hp := List.find?_some hf
    rw [decide_eq_true_eq] at hp
    have hall : ∀ q ∈ tableD, q.name ≠ [] := by decide
    rw [← hp.2]; exact hall r hm
end Go.Proofs.YtdannodhlaaoiaaGreatDoor
/- The document's Value, walked; it is the code's (gen_cgn.py). -/
set_option linter.unusedVariables false
set_option linter.unusedSimpArgs false
namespace Go.Proofs.YtdannodhlaaoiaaGreatDoor
open Go.RowKit

def keyB (h : Int) (n l : List UInt8) (q : LineD) : Bool := decide (q.head = h) && decide (q.name = n) && decide (q.leaf = l)
def valueR (ls : List LineD) (h : Int) (n l : List UInt8) : List UInt8 := match ls.find? (keyB h n l) with
  | some q => q.value
  | none => match findD h l with
    | some r => r.df
    | none => []
theorem find_first {ls : List LineD} {k : Nat} {q : LineD} {f : LineD → Bool} (hq : ls[k]? = some q) (hno : ∀ j r, j < k → ls[j]? = some r → f r = false) (h : f q = true) : ls.find? f = some q := by
  rw [List.find?_eq_some_iff_getElem]
  obtain ⟨hk, e⟩ := List.getElem?_eq_some_iff.1 hq
  exact ⟨h, k, hk, e, fun j hj => by
    have := hno j _ hj (List.getElem?_eq_getElem (by omega))
    simpa using this⟩
theorem find_nowhere {ls : List LineD} {f : LineD → Bool} (hno : ∀ j r, j < ls.length → ls[j]? = some r → f r = false) : ls.find? f = none := by
  rw [List.find?_eq_none]
  intro q hq
  obtain ⟨i, hi⟩ := List.getElem?_of_mem hq
  rw [hno i q (List.getElem?_eq_some_iff.1 hi).1 hi]; simp

end Go.Proofs.YtdannodhlaaoiaaGreatDoor
/- sameName and Value, walked. -/
set_option linter.unusedVariables false
set_option linter.unusedSimpArgs false
namespace Go.Proofs.YtdannodhlaaoiaaGreatDoor
open Go.RowKit

set_option maxRecDepth 100000 in
theorem sameName_any (h1 h2 : Int) (n1 l1 v1 n2 l2 v2 : ByteArray) (r : Bool) (w : World) (hr : Hid ((decide (h1 = h2) && decide (n1.data.toList = n2.data.toList)) = r)) :
    Calls Tryz.prog 28 #[.agg #[.int .i64 h1, .string n1, .string l1, .string v1], .agg #[.int .i64 h2, .string n2, .string l2, .string v2]] w (NewRes (.bool r) w) := by
  have hq := hr.out
  by_cases hh : h1 = h2
  · have e1 : (h1 == h2) = true := by simpa using hh
    by_cases hn : n1.data.toList = n2.data.toList
    · have e2 : (n1.toList == n2.toList) = true := by rw [Lib.toList_data, Lib.toList_data, hn]; simp
      obtain rfl : true = r := by rw [← hq]; simp [hh, hn]
      clear hq hr hh hn
      go_enter Tryz.func28, Tryz.ntmps28
      go_wp2
      go_ret
      exact ⟨rfl, ((Keeps.refl _ _).alloc _).alloc _⟩
    · have e2 : (n1.toList == n2.toList) = false := by rw [Lib.toList_data, Lib.toList_data]; simpa using hn
      obtain rfl : false = r := by rw [← hq]; simp [hn]
      clear hq hr hh hn
      go_enter Tryz.func28, Tryz.ntmps28
      go_wp2
      go_ret
      exact ⟨rfl, ((Keeps.refl _ _).alloc _).alloc _⟩
  · have e1 : (h1 == h2) = false := by simpa using hh
    obtain rfl : false = r := by rw [← hq]; simp [hh]
    clear hq hr hh
    go_enter Tryz.func28, Tryz.ntmps28
    go_wp2
    go_ret
    exact ⟨rfl, ((Keeps.refl _ _).alloc _).alloc _⟩

end Go.Proofs.YtdannodhlaaoiaaGreatDoor
/- conf.Names, walked (gen_cfk.py). -/
set_option linter.unusedVariables false
set_option linter.unusedSimpArgs false
namespace Go.Proofs.YtdannodhlaaoiaaGreatDoor
open Go.RowKit

def newName (h : Int) (p : Option LineD) (q : LineD) : Bool := decide (q.head = h) && (match p with | none => true | some p => !(decide (p.head = q.head) && decide (p.name = q.name)))
theorem namesFrom_snoc (h : Int) (q : LineD) : ∀ (ls : List LineD) (p : Option LineD), namesFrom h p (ls ++ [q]) = namesFrom h p ls ++ (if newName h (match ls.getLast? with | some r => some r | none => p) q = true then [q.name] else []) := by
  intro ls
  induction ls with
  | nil =>
    intro p
    simp only [List.nil_append, namesFrom, List.append_nil, List.getLast?_nil]
    congr 1
    unfold newName
    cases p <;> simp
  | cons r ls ih =>
    intro p
    simp only [List.cons_append, namesFrom]
    rw [ih, List.append_assoc]
    congr 3
    cases ls with
    | nil => simp
    | cons s ls =>
      rw [List.getLast?_cons_cons]
      cases hgl : (s :: ls).getLast? with
      | none => simp at hgl
      | some r => rfl
def prevOf (ls : List LineD) (k : Nat) : Option LineD := match k with | 0 => none | j + 1 => ls[j]?
theorem names_step {h : Int} {ls : List LineD} {k : Nat} {q : LineD} (hq : ls[k]? = some q) : namesFrom h none (ls.take (k + 1)) = namesFrom h none (ls.take k) ++ (if newName h (prevOf ls k) q = true then [q.name] else []) := by
  obtain ⟨hk, e⟩ := List.getElem?_eq_some_iff.1 hq
  rw [List.take_succ_eq_append_getElem hk, e, namesFrom_snoc]
  congr 3
  cases k with
  | zero => simp [prevOf]
  | succ j =>
    rw [List.getLast?_take]
    simp [prevOf, List.getElem?_eq_getElem (show j < ls.length by omega)]
def nv1 (l : List UInt8) : List Value := [strv l]
def NamesPost (xs : List (List UInt8)) (w : World) (e : Ending) (w' : World) : Prop :=
  ∃ p c, e = .returned (.slice p xs.length c) ∧ OwnR 9 1 nv1 w w' (.slice p xs.length c) xs ∧ Keeps (fun _ => False) w w'
theorem strAll : ∃ i, Tryz.prog.info? 9 = some i ∧ i.zero = some (.string ⟨#[]⟩) ∧ i.size = 1 ∧ i.bytes = 16 := by
  have h : (Tryz.prog.info? 9).map (fun i => (i.zero, i.size, i.bytes)) = some (some (.string ⟨#[]⟩), 1, 16) := by kernel_rfl
  obtain ⟨i, hi, e⟩ := Option.map_eq_some_iff.1 h
  injection e with e1 e; injection e with e2 e3
  exact ⟨i, hi, e1, e2, e3⟩
theorem ite_len (c : Prop) [Decidable c] (x : List UInt8) : (if c then [x] else ([] : List (List UInt8))).length ≤ 1 := by split <;> simp
theorem names_len_le (h : Int) : ∀ (ls : List LineD) (p : Option LineD), (namesFrom h p ls).length ≤ ls.length := by
  intro ls
  induction ls with
  | nil => intro p; simp [namesFrom]
  | cons r ls ih =>
    intro p
    simp only [namesFrom, List.length_append, List.length_cons]
    exact Nat.le_trans (Nat.add_le_add (ite_len _ _) (ih _)) (by omega)

end Go.Proofs.YtdannodhlaaoiaaGreatDoor
/- The code's Value is the document's. -/
set_option linter.unusedVariables false
set_option linter.unusedSimpArgs false
namespace Go.Proofs.YtdannodhlaaoiaaGreatDoor
open Go.RowKit

theorem posL_key {x q : LineD} (h : q.head = x.head ∧ q.name = x.name ∧ q.leaf = x.leaf) : ∀ ls : List LineD, posL q ls = posL x ls := by
  intro ls
  induction ls with
  | nil => rfl
  | cons a ls ih =>
    have e : lessB a q = lessB a x := by unfold lessB; rw [h.1, h.2.1, h.2.2]
    rw [posL, posL, e, ih]
theorem thereB_key {x q : LineD} (h : q.head = x.head ∧ q.name = x.name ∧ q.leaf = x.leaf) (ls : List LineD) : thereB q ls = thereB x ls := by
  unfold thereB
  rw [posL_key h]
  cases ls[posL x ls]? with
  | none => rfl
  | some a =>
    have e : lessB q a = lessB x a := by unfold lessB; rw [h.1, h.2.1, h.2.2]
    simp [e]
theorem keyB_iff {h : Int} {n l : List UInt8} {q : LineD} : keyB h n l q = true ↔ q.head = h ∧ q.name = n ∧ q.leaf = l := by
  unfold keyB
  simp [Bool.and_eq_true, and_assoc]
theorem find_there {h : Int} {n l : List UInt8} {ls : List LineD} (hr : rises ls) (ht : thereB ⟨h, n, l, []⟩ ls = true) : ∃ q, ls[posL ⟨h, n, l, []⟩ ls]? = some q ∧ ls.find? (keyB h n l) = some q := by
  have ht2 := ht
  unfold thereB at ht2
  cases hq : ls[posL ⟨h, n, l, []⟩ ls]? with
  | none => rw [hq] at ht2; cases ht2
  | some q =>
    rw [hq] at ht2
    have h1 : lessB ⟨h, n, l, []⟩ q = false := by simpa using ht2
    have h2 := posL_at hq
    have hk := key_eq h2 h1
    refine ⟨q, rfl, find_first hq (fun j r hj hjr => ?_) (keyB_iff.2 hk)⟩
    have h3 := posL_lt hj hjr
    rw [Bool.eq_false_iff]
    intro e
    exact less_key h3 (keyB_iff.1 e)
theorem find_not {h : Int} {n l : List UInt8} {ls : List LineD} (hr : rises ls) (ht : thereB ⟨h, n, l, []⟩ ls = false) : ls.find? (keyB h n l) = none := by
  rw [List.find?_eq_none]
  intro q hq e
  have hk := keyB_iff.1 e
  have h1 := there_at hr hq
  rw [thereB_key (x := ⟨h, n, l, []⟩) hk] at h1
  rw [ht] at h1; cases h1
end Go.Proofs.YtdannodhlaaoiaaGreatDoor
/- The document's Names, walked; they are the code's (gen_cgp.py). -/
set_option linter.unusedVariables false
set_option linter.unusedSimpArgs false
namespace Go.Proofs.YtdannodhlaaoiaaGreatDoor
open Go.RowKit

def stepN (h : Int) (o : List (List UInt8)) (q : LineD) : List (List UInt8) := if q.head = h ∧ o.getLast? ≠ some q.name then o ++ [q.name] else o
def nR (h : Int) (ls : List LineD) (k : Nat) : List (List UInt8) := (ls.take k).foldl (stepN h) []
theorem nR_step {h : Int} {q : LineD} {ls : List LineD} {k : Nat} (hq : ls[k]? = some q) : nR h ls (k + 1) = stepN h (nR h ls k) q := by
  obtain ⟨hk, e⟩ := List.getElem?_eq_some_iff.1 hq
  unfold nR
  rw [List.take_succ_eq_append_getElem hk, e, List.foldl_append]; rfl
theorem nR_len (h : Int) (ls : List LineD) : ∀ k, (nR h ls k).length ≤ k := by
  intro k
  induction k with
  | zero => simp [nR]
  | succ k ih =>
    by_cases hk : k < ls.length
    · rw [nR_step (List.getElem?_eq_getElem hk)]
      unfold stepN
      split
      · simp; omega
      · omega
    · have : nR h ls (k + 1) = nR h ls k := by unfold nR; rw [List.take_of_length_le (by omega), List.take_of_length_le (by omega)]
      rw [this]; omega

end Go.Proofs.YtdannodhlaaoiaaGreatDoor
/- Both Names are the same, plain. -/
set_option linter.unusedVariables false
set_option linter.unusedSimpArgs false
namespace Go.Proofs.YtdannodhlaaoiaaGreatDoor
open Go.RowKit

theorem less_head {a b : LineD} (h : lessB a b = true) : a.head ≤ b.head := by
  rw [lessB_iff] at h
  rcases h with h | ⟨h, _⟩ <;> omega
theorem names_both (h : Int) {ls : List LineD} (hr : rises ls) : ∀ k, k ≤ ls.length → nR h ls k = namesFrom h none (ls.take k) ∧
    (k = 0 → nR h ls k = []) ∧ ∀ j p, k = j + 1 → ls[j]? = some p → (p.head = h → (nR h ls k).getLast? = some p.name) ∧ (p.head < h → nR h ls k = []) := by
  intro k
  induction k with
  | zero => intro _; exact ⟨rfl, fun _ => rfl, fun j p e => by omega⟩
  | succ k ih =>
    intro hk
    obtain ⟨i1, i2, i3⟩ := ih (by omega)
    obtain ⟨q, hq⟩ : ∃ q, ls[k]? = some q := ⟨_, List.getElem?_eq_getElem (by omega)⟩
    have hs1 := nR_step (h := h) hq
    have hs2 := names_step (h := h) hq
    generalize nR h ls k = o at i1 i2 i3 hs1
    generalize nR h ls (k + 1) = o2 at hs1 ⊢
    subst hs1
    -- are both of one mind?
    have hmind : q.head = h → (newName h (prevOf ls k) q = true ↔ o.getLast? ≠ some q.name) := fun hh => by
      cases k with
      | zero =>
        have ho := i2 rfl
        subst ho
        simp [newName, prevOf, hh]
      | succ j =>
        obtain ⟨p, hp⟩ : ∃ p, ls[j]? = some p := ⟨_, List.getElem?_eq_getElem (by omega)⟩
        obtain ⟨j1, j2⟩ := i3 j p rfl hp
        have hle := less_head (rises_at hr j p q hp hq)
        have hpv : prevOf ls (j + 1) = some p := hp
        rw [hpv]
        by_cases e : p.head = h
        · rw [j1 e]
          unfold newName
          simp [hh, e]
        · have ho := j2 (by omega)
          subst ho
          unfold newName
          simp [hh, e]
    refine ⟨?_, fun e => by omega, fun j p e hp => ?_⟩
    · rw [hs2, ← i1]
      unfold stepN
      by_cases hh : q.head = h
      · by_cases hm : o.getLast? = some q.name
        · rw [if_neg (fun e => e.2 hm), if_neg (fun e => ((hmind hh).1 e) hm), List.append_nil]
        · rw [if_pos ⟨hh, hm⟩, if_pos ((hmind hh).2 hm)]
      · rw [if_neg (fun e => hh e.1), if_neg (by unfold newName; simp [hh]), List.append_nil]
    · obtain rfl : k = j := by omega
      rw [hq] at hp; injection hp with hp; subst hp
      unfold stepN
      refine ⟨fun hh => ?_, fun hlt => ?_⟩
      · by_cases hm : o.getLast? = some q.name
        · rw [if_neg (fun e => e.2 hm)]; exact hm
        · rw [if_pos ⟨hh, hm⟩]; simp
      · rw [if_neg (fun e => by have := e.1; omega)]
        cases k with
        | zero => exact i2 rfl
        | succ i =>
          obtain ⟨p, hp⟩ : ∃ p, ls[i]? = some p := ⟨_, List.getElem?_eq_getElem (by omega)⟩
          have hle := less_head (rises_at hr i p q hp hq)
          exact (i3 i p rfl hp).2 (by omega)
theorem names_same (h : Int) {ls : List LineD} (hr : rises ls) : nR h ls ls.length = namesFrom h none ls := by
  have := (names_both h hr ls.length (Nat.le_refl _)).1
  rwa [List.take_length] at this
end Go.Proofs.YtdannodhlaaoiaaGreatDoor
/- strings.Builder: copyCheck, WriteString, by hand; String by the shelf (ShelfB). -/
set_option linter.unusedVariables false
set_option linter.unusedSimpArgs false
namespace Go.Proofs.YtdannodhlaaoiaaGreatDoor
open Go.RowKit

theorem sizeB : (Tryz.prog.info? 74).map (·.size) = some 2 := by kernel_rfl
theorem liesB : liesAt Tryz.prog Tryz.prog.depth 74 (2 / Tryz.prog.cellsOf 74) 0 74 1 = true := by kernel_rfl
theorem infoB : (Tryz.prog.info? 5).map (fun i => (i.zero, i.size, i.bytes)) = some (some (.int .u8 0), 1, 1) := by kernel_rfl
set_option maxHeartbeats 1000000 in
set_option maxRecDepth 100000 in
theorem cc_used (b : Nat) (w : World) (h0 : w.cell? ⟨b, 0, none⟩ = some (.pointer (some ⟨b, 0, none⟩))) :
    Calls Tryz.prog 73 #[.pointer (some ⟨b, 0, none⟩)] w fun e w' => e = .returned (.tuple #[]) ∧ w' = w := by
  obtain ⟨j, hj, _⟩ := Option.map_eq_some_iff.1 sizeB
  go_enter Tryz.func73, Tryz.ntmps73
  go_wp2
  rw [Lib.run_neq_ptr_same w _ Tryz.underlying72 hj]
  go_wp2
  go_end0
  exact ⟨rfl, rfl⟩
set_option maxHeartbeats 1000000 in
set_option maxRecDepth 100000 in
theorem cc_fresh (b : Nat) (w : World) (h0 : w.cell? ⟨b, 0, none⟩ = some (.pointer none)) (hsh : w.shape? b = some (74, 2)) (hfz : w.frozen? ⟨b, 0, none⟩ = false) :
    Calls Tryz.prog 73 #[.pointer (some ⟨b, 0, none⟩)] w fun e w' => e = .returned (.tuple #[]) ∧ w' = w.setCell ⟨b, 0, none⟩ (.pointer (some ⟨b, 0, none⟩)) := by
  obtain ⟨j, hj, hjs⟩ := Option.map_eq_some_iff.1 sizeB
  go_enter Tryz.func73, Tryz.ntmps73
  go_wp2
  rw [Lib.run_to_unsafe w ⟨b, 0, none⟩ Tryz.underlying72 Tryz.underlying163 hj (by rw [hjs]; decide) hsh (Nat.zero_lt_succ 1)]
  simp only [Result.andThen]
  rw [Oper.upon_value]
  go_wp2
  rw [run_callFunc_extern Tryz.func103 (by kernel_rfl) (by kernel_rfl) (by kernel_rfl) (e := Extern.AbiNoEscape.same) (by kernel_rfl)]
  rw [Lib.run_noEscape]
  simp only [Result.andThen]
  rw [Oper.upon_value]
  go_wp2
  rw [Lib.run_from_unsafe w ⟨b, 0, none⟩ Tryz.underlying163 Tryz.underlying72 hj hsh liesB]
  simp only [Result.andThen]
  rw [Oper.upon_value]
  go_wp2
  go_end0
  exact ⟨rfl, rfl⟩
/-- what is older than B stays, and so do blocks of other types -/
structure KeepsT (B : Nat) (w w' : World) : Prop where
  k : Keeps (fun i => B ≤ i) w w'
  t : ∀ (x : Nat) (t : TypeId) (cs : Array Value), t ≠ 5 → t ≠ 74 → w.heap[x]? = some (.cells cs t (0, 0)) → w'.heap[x]? = some (.cells cs t (0, 0))
theorem KeepsT.trans {B : Nat} {a b c : World} (h : KeepsT B a b) (k : KeepsT B b c) : KeepsT B a c := ⟨h.k.trans k.k, fun x t cs h1 h2 h3 => k.t x t cs h1 h2 (h.t x t cs h1 h2 h3)⟩
theorem KeepsT.of {B : Nat} {w w' : World} (k : Keeps (fun _ => False) w w') : KeepsT B w w' := ⟨k.mono (fun _ e => e.elim), fun x t cs _ _ h => by
  have hx : x < w.heap.size := by
    rcases Nat.lt_or_ge x w.heap.size with h' | h'
    · exact h'
    · simp [Array.getElem?_eq_none h'] at h
  rw [k.block x hx id]; exact h⟩
theorem KeepsT.blk {B : Nat} {w w' : World} (k : KeepsT B w w') {x : Nat} {t : TypeId} {cs : List Value} (h : BlkAt w x t cs) (h1 : t ≠ 5) (h2 : t ≠ 74) : BlkAt w' x t cs := k.t x t _ h1 h2 h
def IsB (B b : Nat) (bs : List Value) (w : World) : Prop := Lib.IsBuilder 74 5 B b bs w
theorem cc_any (B b : Nat) (bs : List Value) (w : World) (h : IsB B b bs w) :
    Calls Tryz.prog 73 #[.pointer (some ⟨b, 0, none⟩)] w fun e w' => e = .returned (.tuple #[]) ∧ (Lib.BuilderAt 74 5 B b (.pointer (some ⟨b, 0, none⟩)) bs w' ∧ KeepsT B w w') := by
  rcases h with h | h
  · refine (cc_fresh b w h.cell0 h.shape h.frozen0).mono ?_
    rintro e w' ⟨rfl, rfl⟩
    obtain ⟨hB, v, hbk, hown, hne⟩ := h
    refine ⟨rfl, Lib.BuilderAt.used (p := .pointer none) ⟨hB, v, hbk, hown, hne⟩ _, (Keeps.refl _ _).setCell (p := ⟨b, 0, none⟩) (.inl hB) _, fun x t cs h1 h2 h3 => ?_⟩
    rw [heap_setCell_other _ _ _ _ (fun e => by
      have e : x = b := e
      subst e; rw [hbk] at h3; injection h3 with h3; injection h3 with h4 h5 h6; exact h2 h5.symm)]
    exact h3
  · refine (cc_used b w h.cell0).mono ?_
    rintro e w' ⟨rfl, rfl⟩
    exact ⟨rfl, h, KeepsT.of (Keeps.refl _ _)⟩
set_option maxHeartbeats 2000000 in
set_option maxRecDepth 100000 in
theorem writeString_any (B b : Nat) (l : List UInt8) (s : ByteArray) (w : World) (h : IsB B b (Lib.byteCells l) w) (hlen : l.length + s.size ≤ 1000000000) (hBw : B ≤ w.heap.size) :
    Calls Tryz.prog 26 #[.pointer (some ⟨b, 0, none⟩), .string s] w fun e w' => e = .returned (.tuple #[.int .i64 s.size, .nilIface]) ∧ (IsB B b (Lib.byteCells (l ++ s.data.toList)) w' ∧ KeepsT B w w') := by
  obtain ⟨i0, hi, hz0, hz1, hz2⟩ := info_parts infoB
  have hl : (Lib.byteCells l).length = l.length := Lib.byteCells_length l
  go_enter Tryz.func26, Tryz.ntmps26
  go_wp2_with fail
  refine (cc_any B b (Lib.byteCells l) _ h).mono ?_
  rintro e w1 ⟨rfl, h1, hb1⟩
  obtain ⟨hB, v, hbk, hown, hne⟩ := h1
  have c0 : w1.cell? ⟨b, 0, none⟩ = some (.pointer (some ⟨b, 0, none⟩)) := by rw [Lib.cell_of_heap hbk]; rfl
  have c1 : w1.cell? ⟨b, 1, none⟩ = some v := by rw [Lib.cell_of_heap hbk]; rfl
  go_wp2_with (at_builtin; refine Lib.wpList_append_own_string _ rfl _ _ 31 9 rfl B 5 i0 Tryz.underlying31 Tryz.underlying9 hi hz0 hz1 hz2 _ _ _ rfl hown s rfl ?c3 ?c4 ?c5 ?_)
  case c3 => unfold maxLen; omega
  case c4 => omega
  case c5 => have := hb1.k.size; omega
  intro v' w2 hown' hgrow _
  have hlt : b < w1.heap.size := by
    rcases Nat.lt_or_ge b w1.heap.size with h' | h'
    · exact h'
    · simp [Array.getElem?_eq_none h'] at hbk
  have hb2 : w2.heap[b]? = some (.cells #[.pointer (some ⟨b, 0, none⟩), v] 74 (0, 0)) := by
    rw [hgrow.block b hlt (fun e => hne e.symm)]
    exact hbk
  have d0 : w2.cell? ⟨b, 0, none⟩ = some (.pointer (some ⟨b, 0, none⟩)) := by rw [Lib.cell_of_heap hb2]; rfl
  have d1 : w2.cell? ⟨b, 1, none⟩ = some v := by rw [Lib.cell_of_heap hb2]; rfl
  have f1 : w2.frozen? ⟨b, 1, none⟩ = false := Lib.frozen_of_heap hb2 1
  obtain ⟨ao, n', cap, rfl⟩ : ∃ ao n' cap, v' = .slice ao n' cap := by
    rcases hown'.2 with ⟨hv, _⟩ | ⟨g, cap, cur, hv, _⟩
    · exact ⟨_, _, _, hv⟩
    · exact ⟨_, _, _, hv⟩
  go_wp2
  go_ret2
  refine ⟨rfl, .inr ?_, ?_⟩
  · have e : Lib.byteCells (l ++ s.data.toList) = Lib.byteCells l ++ Lib.strCells s := by simp [Lib.byteCells, Lib.strCells]
    rw [e]
    exact Lib.BuilderAt.put (T := 74) (e := 5) hB hb2 (bs' := Lib.byteCells l ++ Lib.strCells s) (by rw [List.length_append, Lib.strCells_length, hl]; exact hown') (by decide)
  · refine hb1.trans ⟨((Keeps.refl _ _).grown hgrow (fun k hk => .inl ((hown.lt k hk).1))).setCell (p := ⟨b, 1, none⟩) (.inl hB) _, fun x t cs h1 h2 h3 => ?_⟩
    have hx : x < w1.heap.size := by
      rcases Nat.lt_or_ge x w1.heap.size with h' | h'
      · exact h'
      · simp [Array.getElem?_eq_none h'] at h3
    rw [heap_setCell_other _ _ _ _ (fun e => by
      have e : x = b := e
      subst e; rw [hbk] at h3; injection h3 with h3; injection h3 with h4 h5 h6; exact h2 h5.symm)]
    rw [hgrow.block x hx (fun e => by
      rcases hown.2 with ⟨hv, _⟩ | ⟨g, cap, cur, hv, _, hg, _⟩
      · subst hv; cases e
      · subst hv
        simp only [Value.ownBlock, Option.some.injEq] at e
        subst e
        rw [hg] at h3; injection h3 with h3; injection h3 with h4 h5 h6; exact h1 h5.symm)]
    exact h3
end Go.Proofs.YtdannodhlaaoiaaGreatDoor
/- (*strings.Builder).String at this program, laid in plain words: laid by lay-shelf.mjs and lay-plain.mjs, then its numbers made names. -/
namespace Go.Proofs.YtdannodhlaaoiaaGreatDoor
open Go.Shelf
def Tryz.lays169_ren : Go.Shelf.Ren := ⟨fun | 169 => 30 | n => n, fun | 70 => 72 | 9 => 9 | 0 => 0 | 72 => 74 | 37 => 31 | 127 => 129 | 3 => 3 | 5 => 5 | n => n, fun | n => n⟩
theorem Tryz.lays169 : Go.Proofs.Lays.n169 Tryz.prog Tryz.lays169_ren := {
  mixed := by kernel_rfl
  f169 := Tryz.func30.trans (congrArg some (by kernel_rfl))
  t0 := Tryz.underlying0
  a0 := Tryz.isAgg0
  z0 := Tryz.sizeOf0
  v0 := Tryz.zeroValue0
  t3 := Tryz.underlying3
  a3 := Tryz.isAgg3
  z3 := Tryz.sizeOf3
  v3 := Tryz.zeroValue3
  t9 := Tryz.underlying9
  a9 := Tryz.isAgg9
  z9 := Tryz.sizeOf9
  v9 := Tryz.zeroValue9
  t37 := Tryz.underlying31
  a37 := Tryz.isAgg31
  z37 := Tryz.sizeOf31
  v37 := Tryz.zeroValue31
  t70 := Tryz.underlying72
  a70 := Tryz.isAgg72
  z70 := Tryz.sizeOf72
  v70 := Tryz.zeroValue72
  t72 := Tryz.underlying74
  a72 := Tryz.isAgg74
  z72 := Tryz.sizeOf74
  v72 := Tryz.zeroValue74
  t127 := Tryz.underlying129
  a127 := Tryz.isAgg129
  z127 := Tryz.sizeOf129
  v127 := Tryz.zeroValue129 }
theorem Tryz.Builder_Extra_169 : Builder.Extra Tryz.prog Tryz.lays169_ren := {
  sizeBuilder := by kernel_rfl
  liesBuilder := by kernel_rfl
  t5 := Tryz.underlying5
  a5 := Tryz.isAgg5
  z5 := Tryz.sizeOf5
  v5 := Tryz.zeroValue5
  infoByte := by kernel_rfl
  cellsByte := by kernel_rfl
  sizeByte := by kernel_rfl
  neB5 := by decide }
open Go.RowKit in
theorem Tryz.Builder_String (B b : Nat) (l : List UInt8) (w : World) (h : Lib.IsBuilder 74 5 B b (Lib.byteCells l) w) (h0 : l ≠ []) :
    Calls Tryz.prog 30 #[.pointer (some ⟨b, 0, none⟩)] w fun e w' => e = .returned (.string ⟨l.toArray⟩) ∧ Below B w w' := Any.Builder_String Tryz.lays169 Tryz.Builder_Extra_169 B b l w h h0
open Go.RowKit in
theorem Tryz.Builder_String_empty (B b : Nat) (w : World) (h : Lib.IsBuilder 74 5 B b [] w) (hBw : B ≤ w.heap.size) :
    Calls Tryz.prog 30 #[.pointer (some ⟨b, 0, none⟩)] w fun e w' => e = .returned (.string ⟨#[]⟩) ∧ Below B w w' := Any.Builder_String_empty Tryz.lays169 Tryz.Builder_Extra_169 B b w h hBw
open Go.RowKit in
theorem Tryz.Builder_String_any (B b : Nat) (l : List UInt8) (w : World) (h : Lib.IsBuilder 74 5 B b (Lib.byteCells l) w) (hBw : B ≤ w.heap.size) :
    Calls Tryz.prog 30 #[.pointer (some ⟨b, 0, none⟩)] w fun e w' => e = .returned (.string ⟨l.toArray⟩) ∧ Below B w w' := Any.Builder_String_any Tryz.lays169 Tryz.Builder_Extra_169 B b l w h hBw
end Go.Proofs.YtdannodhlaaoiaaGreatDoor
