/- Numbers and addresses as texts, plain. -/
import Derived.Test.YtljfeefhlbgopaaDoorU03
import Derived.Lib.ItoaNum
import Derived.Test.YtljfeefhlbgopaaDoorU06
import Derived.Test.YtljfeefhlbgopaaDoorU05
import Derived.Test.YtljfeefhlbgopaaDoorU04
set_option linter.unusedVariables false
set_option linter.unusedSimpArgs false
namespace Go.Proofs.YtljfeefhlbgopaaDoor

def digs (n : Nat) : List UInt8 := if n < 10 then [UInt8.ofNat (48 + n)] else digs (n / 10) ++ [UInt8.ofNat (48 + n % 10)]
termination_by n
decreasing_by omega
theorem digs_lt {n : Nat} (h : n < 10) : digs n = [UInt8.ofNat (48 + n)] := by rw [digs, if_pos h]
theorem digs_ge {n : Nat} (h : ¬ n < 10) : digs n = digs (n / 10) ++ [UInt8.ofNat (48 + n % 10)] := by rw [digs, if_neg h]
theorem dig_toNat {n : Nat} (h : n < 10) : (UInt8.ofNat (48 + n)).toNat = 48 + n := by simp; omega
theorem digs_ne (n : Nat) : digs n ≠ [] := by
  by_cases h : n < 10
  · rw [digs_lt h]; simp
  · rw [digs_ge h]; simp
theorem digs_all (k : Nat) : ∀ n, n ≤ k → (digs n).all digB = true := by
  induction k with
  | zero => intro n hn; obtain rfl : n = 0 := by omega
            rw [digs_lt (by omega)]; decide
  | succ k ih =>
    intro n hn
    by_cases h : n < 10
    · rw [digs_lt h]
      simp only [List.all_cons, List.all_nil, Bool.and_true, digB, decide_eq_true_eq, dig_toNat h]; omega
    · rw [digs_ge h, List.all_append, ih (n / 10) (by omega)]
      simp only [List.all_cons, List.all_nil, Bool.and_true, Bool.true_and, digB, decide_eq_true_eq, dig_toNat (show n % 10 < 10 by omega)]; omega
theorem digs_val (k : Nat) : ∀ n, n ≤ k → decVal (digs n) = n := by
  induction k with
  | zero => intro n hn; obtain rfl : n = 0 := by omega
            rw [digs_lt (by omega)]; decide
  | succ k ih =>
    intro n hn
    by_cases h : n < 10
    · rw [digs_lt h]
      show (0 * 10 + ((UInt8.ofNat (48 + n)).toNat - 48)) = n
      rw [dig_toNat h]; omega
    · rw [digs_ge h, decVal_snoc, ih (n / 10) (by omega), dig_toNat (by omega)]; omega
theorem digs_len (d : Nat) : ∀ n, n < 10 ^ d → 0 < d → (digs n).length ≤ d := by
  induction d with
  | zero => intro n _ h; omega
  | succ d ih =>
    intro n hn _
    by_cases h : n < 10
    · rw [digs_lt h]; simp
    · rw [digs_ge h]
      have hd : 0 < d := by
        rcases Nat.eq_zero_or_pos d with rfl | h'
        · simp at hn; omega
        · exact h'
      have := ih (n / 10) (by rw [Nat.pow_succ] at hn; omega) hd
      simp; omega
theorem digs_head (k : Nat) : ∀ n, n ≤ k → 10 ≤ n → (digs n).head? ≠ some 48 := by
  induction k with
  | zero => intro n h1 h2; omega
  | succ k ih =>
    intro n hn h10
    rw [digs_ge (by omega)]
    by_cases h : n / 10 < 10
    · rw [digs_lt h]
      simp only [List.cons_append, List.head?_cons]
      intro e
      injection e with e
      have := congrArg UInt8.toNat e
      rw [dig_toNat h] at this
      have e2 : (48 : UInt8).toNat = 48 := rfl
      omega
    · have := ih (n / 10) (by omega) (by omega)
      cases hd : digs (n / 10) with
      | nil => exact (digs_ne _ hd).elim
      | cons a l => rw [hd] at this; simpa using this
theorem decL_digs_eq {n : Nat} (h : n < 1000000000) : decL (digs n) = some n := by
  have h1 := digs_all n n (Nat.le_refl _)
  have h2 := digs_len 9 n (by omega) (by omega)
  have h3 : 1 ≤ (digs n).length := by
    cases hd : digs n with
    | nil => exact (digs_ne _ hd).elim
    | cons => simp
  have hs : decShape (digs n) = true := by
    unfold decShape
    rw [decide_eq_true_eq]
    refine ⟨h3, h2, fun ⟨a, b⟩ => ?_⟩
    by_cases h10 : n < 10
    · rw [digs_lt h10] at a; simp at a
    · exact digs_head n n (Nat.le_refl _) (by omega) b
  unfold decL
  rw [hs, h1, if_pos (by rfl), digs_val n n (Nat.le_refl _)]
theorem decL_nought (n : Nat) : decL (48 :: digs n) = none := by
  have h3 : 1 ≤ (digs n).length := by
    cases hd : digs n with
    | nil => exact (digs_ne _ hd).elim
    | cons => simp
  have hs : decShape (48 :: digs n) = false := by
    unfold decShape
    rw [decide_eq_false_iff_not]
    rintro ⟨_, _, h⟩
    exact h ⟨by simp; omega, rfl⟩
  unfold decL
  rw [hs, if_neg (by simp)]
theorem decL_plus (n : Nat) : decL (43 :: digs n) = none := by
  unfold decL
  rw [if_neg]
  simp [digB]
theorem digs_not (n : Nat) {c : UInt8} (hc : digB c = false) : c ∉ digs n := by
  intro hm
  have := List.all_eq_true.1 (digs_all n n (Nat.le_refl _)) c hm
  rw [hc] at this; cases this

/-- four numbers with dots between -/
def dottedOf (a b c d : Nat) : List UInt8 := digs a ++ [46] ++ digs b ++ [46] ++ digs c ++ [46] ++ digs d
def dotted (n : Nat) : List UInt8 := dottedOf (n / 16777216 % 256) (n / 65536 % 256) (n / 256 % 256) (n % 256)
theorem before_app {c : UInt8} {p : List UInt8} (h : c ∉ p) (r : List UInt8) : before c (p ++ c :: r) = p.length := by
  induction p with
  | nil => exact before_cons_eq
  | cons b p ih =>
    have hb : b ≠ c := by rintro rfl; exact h (by simp)
    rw [List.cons_append, before_cons_ne hb, ih (fun m => h (by simp [m]))]; simp
theorem partsL_app {c : UInt8} {p : List UInt8} (h : c ∉ p) (r : List UInt8) : partsL c (p ++ c :: r) = p :: partsL c r := by
  rw [partsL_yes (by simp), before_app h]
  simp [List.take_left, ← List.drop_drop]
theorem dotted_parts (a b c d : Nat) (r : List UInt8) : partsL 46 (digs a ++ [46] ++ digs b ++ [46] ++ digs c ++ [46] ++ r) = digs a :: digs b :: digs c :: partsL 46 r := by
  have e : digs a ++ [46] ++ digs b ++ [46] ++ digs c ++ [46] ++ r = digs a ++ 46 :: (digs b ++ 46 :: (digs c ++ 46 :: r)) := by simp
  rw [e, partsL_app (digs_not a (by decide)), partsL_app (digs_not b (by decide)), partsL_app (digs_not c (by decide))]
theorem addrL_dotted {n : Nat} (h : n < 4294967296) : addrL (dotted n) = some n := by
  rw [addrL_eq]
  unfold dotted dottedOf
  rw [dotted_parts _ _ _ 0, partsL_no (digs_not _ (by decide)), if_pos (by simp)]
  simp only [foldParts]
  rw [decL_digs_eq (by omega), decL_digs_eq (by omega), decL_digs_eq (by omega), decL_digs_eq (by omega)]
  simp only
  rw [if_pos (by omega), if_pos (by omega), if_pos (by omega), if_pos (by omega)]
  congr 1; omega
theorem addrL_dot (n : Nat) : addrL (dotted n ++ [46]) = none := by
  rw [addrL_eq]
  unfold dotted dottedOf
  rw [List.append_assoc, dotted_parts _ _ _ 0, partsL_app (digs_not _ (by decide)), if_neg (by simp [partsL])]
theorem slash_dotted (n : Nat) : (47 : UInt8) ∉ dotted n := by
  unfold dotted dottedOf
  simp only [List.mem_append, List.mem_singleton, not_or]
  refine ⟨⟨⟨⟨⟨⟨digs_not _ (by decide), by decide⟩, digs_not _ (by decide)⟩, by decide⟩, digs_not _ (by decide)⟩, by decide⟩, digs_not _ (by decide)⟩
theorem netL_dotted {n l : Nat} (h : n < 4294967296) (h1 : 1 ≤ l) (h2 : l ≤ 32) : netL (dotted n ++ [47] ++ digs l) = some (n, l) := by
  rw [netL_eq, List.append_assoc, List.singleton_append, partsL_app (slash_dotted n), partsL_no (digs_not _ (by decide))]
  simp only [netParts]
  rw [addrL_dotted h, decL_digs_eq (by omega)]
  simp only
  rw [if_pos ⟨h1, h2⟩]
theorem netL_slash (n : Nat) : netL (dotted n ++ [47]) = none := by
  rw [netL_eq, partsL_app (slash_dotted n)]
  simp only [netParts, partsL]
  rw [decL_nil]
  cases addrL (dotted n) <;> rfl
theorem digs_dec (k : Nat) : ∀ n, n ≤ k → Lib.decDigits n = digs n := by
  induction k with
  | zero => intro n hn; obtain rfl : n = 0 := by omega
            rw [digs_lt (by omega), Lib.decDigits_one (by omega)]
  | succ k ih =>
    intro n hn
    by_cases h : n < 10
    · rw [digs_lt h, Lib.decDigits_one h]
    · rw [digs_ge h, Lib.decDigits, dif_neg h, ih (n / 10) (by omega)]
theorem itoa_digs (n : Nat) : Lib.itoa (n : Int) = digs n := by
  unfold Lib.itoa
  rw [if_neg (by omega), Int.toNat_natCast, digs_dec n n (Nat.le_refl _)]
end Go.Proofs.YtljfeefhlbgopaaDoor
/- A line set, plain; the sixty-four lines of ConfFull. -/
set_option linter.unusedVariables false
set_option linter.unusedSimpArgs false
namespace Go.Proofs.YtljfeefhlbgopaaDoor
open Go.RowKit

/-- lines with one more, or another one in its place -/
def setC (x : LineD) (ls : List LineD) : List LineD := ls.take (posL x ls) ++ x :: ls.drop (posL x ls + if thereB x ls = true then 1 else 0)
theorem there_lt {x : LineD} {ls : List LineD} (h : thereB x ls = true) : posL x ls < ls.length := by
  unfold thereB at h
  cases hq : ls[posL x ls]? with
  | none => rw [hq] at h; cases h
  | some q => exact (List.getElem?_eq_some_iff.1 hq).1
theorem setC_len (x : LineD) (ls : List LineD) : (setC x ls).length = ls.length + if thereB x ls = true then 0 else 1 := by
  have h := posL_le x ls
  unfold setC
  rw [List.length_append, List.length_take, List.length_cons, List.length_drop]
  by_cases ht : thereB x ls = true
  · have := there_lt ht
    rw [if_pos ht, if_pos ht]; omega
  · rw [if_neg ht, if_neg ht]; omega
/-- a line's value, or the default -/
def valueC (ls : List LineD) (h : Int) (n l : List UInt8) : List UInt8 :=
  if rightC ls = true then
    (if thereB ⟨h, n, l, []⟩ ls = true then (match ls[posL ⟨h, n, l, []⟩ ls]? with | some q => q.value | none => []) else (match findD h l with | some r => r.df | none => []))
  else []
/-- the names of a head -/
def namesFrom (h : Int) : Option LineD → List LineD → List (List UInt8)
  | _, [] => []
  | p, q :: ls => (if q.head = h ∧ (match p with | none => true | some p => !(decide (p.head = q.head) && decide (p.name = q.name))) = true then [q.name] else []) ++ namesFrom h (some q) ls
def namesC (ls : List LineD) (h : Int) : List (List UInt8) := if h = 0 ∨ rightC ls = false then [] else namesFrom h none ls

def digs3 (n : Nat) : List UInt8 := if n < 10 then [UInt8.ofNat (48 + n)] else if n < 100 then [UInt8.ofNat (48 + n / 10), UInt8.ofNat (48 + n % 10)] else [UInt8.ofNat (48 + n / 100), UInt8.ofNat (48 + n / 10 % 10), UInt8.ofNat (48 + n % 10)]
theorem digs_3 {n : Nat} (h : n < 1000) : digs n = digs3 n := by
  unfold digs3
  by_cases h1 : n < 10
  · rw [if_pos h1, digs_lt h1]
  · rw [if_neg h1, digs_ge h1]
    by_cases h2 : n < 100
    · rw [if_pos h2, digs_lt (by omega)]; rfl
    · rw [if_neg h2, digs_ge (by omega), digs_lt (by omega)]
      have : n / 10 / 10 = n / 100 := by omega
      rw [this]; rfl
def lineI (k : Nat) (v : List UInt8) : LineD := ⟨1, [48, 46, 48, 46, 48, 46] ++ digs3 k, [99, 111, 115, 116], v⟩
def fullL : Nat → List LineD
  | 0 => []
  | k + 1 => setC (lineI k [53]) (fullL k)
end Go.Proofs.YtljfeefhlbgopaaDoor
/- The order of lines; what the document's Set makes, plain. -/
set_option linter.unusedVariables false
set_option linter.unusedSimpArgs false
namespace Go.Proofs.YtljfeefhlbgopaaDoor
open Go.RowKit

theorem bl_asymm : ∀ {a b : List UInt8}, Op.bytesLess a b = true → Op.bytesLess b a = false
  | [], [], h => by simp [Op.bytesLess] at h
  | [], _ :: _, _ => rfl
  | _ :: _, [], h => by simp [Op.bytesLess] at h
  | a :: x, b :: y, h => by
    simp only [Op.bytesLess, Bool.or_eq_true, Bool.and_eq_true, decide_eq_true_eq, beq_iff_eq] at h
    simp only [Op.bytesLess, Bool.or_eq_false_iff, Bool.and_eq_false_iff, decide_eq_false_iff_not, beq_eq_false_iff_ne]
    rcases h with h | ⟨rfl, h⟩
    · have := UInt8.lt_iff_toNat_lt.1 h
      refine ⟨fun h2 => ?_, .inl fun e => ?_⟩
      · have := UInt8.lt_iff_toNat_lt.1 h2; omega
      · subst e; omega
    · exact ⟨fun h2 => by have := UInt8.lt_iff_toNat_lt.1 h2; omega, .inr (bl_asymm h)⟩
theorem bl_tri : ∀ {a b : List UInt8}, Op.bytesLess a b = false → Op.bytesLess b a = false → a = b
  | [], [], _, _ => rfl
  | [], _ :: _, h, _ => by simp [Op.bytesLess] at h
  | _ :: _, [], _, h => by simp [Op.bytesLess] at h
  | a :: x, b :: y, h, h2 => by
    simp only [Op.bytesLess, Bool.or_eq_false_iff, Bool.and_eq_false_iff, decide_eq_false_iff_not, beq_eq_false_iff_ne] at h h2
    have e : a = b := by
      apply UInt8.toNat_inj.mp
      have h3 : ¬ a.toNat < b.toNat := fun h' => h.1 (UInt8.lt_iff_toNat_lt.2 h')
      have h4 : ¬ b.toNat < a.toNat := fun h' => h2.1 (UInt8.lt_iff_toNat_lt.2 h')
      omega
    subst e
    have h3 : Op.bytesLess x y = false := by rcases h.2 with h | h; exact absurd rfl h; exact h
    have h4 : Op.bytesLess y x = false := by rcases h2.2 with h | h; exact absurd rfl h; exact h
    exact congrArg (a :: ·) (bl_tri h3 h4)
theorem bl_trans : ∀ {a b c : List UInt8}, Op.bytesLess a b = true → Op.bytesLess b c = true → Op.bytesLess a c = true
  | _, [], _, h, _ => by simp [Op.bytesLess] at h
  | _, _ :: _, [], _, h => by simp [Op.bytesLess] at h
  | [], _ :: _, _ :: _, _, _ => rfl
  | a :: x, b :: y, c :: z, h, h2 => by
    simp only [Op.bytesLess, Bool.or_eq_true, Bool.and_eq_true, decide_eq_true_eq, beq_iff_eq] at h h2 ⊢
    rcases h with h | ⟨rfl, h⟩
    · rcases h2 with h2 | ⟨rfl, h2⟩
      · left
        have := UInt8.lt_iff_toNat_lt.1 h; have := UInt8.lt_iff_toNat_lt.1 h2
        exact UInt8.lt_iff_toNat_lt.2 (by omega)
      · exact .inl h
    · rcases h2 with h2 | ⟨rfl, h2⟩
      · exact .inl h2
      · exact .inr ⟨rfl, bl_trans h h2⟩
/-- as a proposition -/
theorem lessB_iff (a b : LineD) : lessB a b = true ↔ a.head < b.head ∨ (a.head = b.head ∧ (Op.bytesLess a.name b.name = true ∨ (a.name = b.name ∧ Op.bytesLess a.leaf b.leaf = true))) := by
  unfold lessB
  by_cases h : a.head = b.head
  · rw [if_pos h]
    by_cases n : a.name = b.name
    · rw [if_pos n]
      have e : Op.bytesLess a.name b.name = false := by rw [n]; cases hb : Op.bytesLess b.name b.name with
        | false => rfl
        | true => have := bl_asymm hb; rw [hb] at this; cases this
      simp [h, n]
      intro e2
      rw [n] at e
      rw [e] at e2; cases e2
    · rw [if_neg n]; simp [h, n]
  · rw [if_neg h]; simp [h]
theorem bl_irr (a : List UInt8) : Op.bytesLess a a = false := by
  cases hb : Op.bytesLess a a with
  | false => rfl
  | true => have := bl_asymm hb; rw [hb] at this; cases this
theorem less_asymm {a b : LineD} (h : lessB a b = true) : lessB b a = false := by
  rw [← Bool.not_eq_true]
  rw [lessB_iff] at h ⊢
  rintro h2
  rcases h with h | ⟨h, h3⟩
  · rcases h2 with h2 | ⟨h2, _⟩ <;> omega
  · rcases h2 with h2 | ⟨_, h4⟩
    · omega
    · rcases h3 with h3 | ⟨e, h3⟩
      · rcases h4 with h4 | ⟨e, h4⟩
        · rw [bl_asymm h3] at h4; cases h4
        · rw [e, bl_irr] at h3; cases h3
      · rcases h4 with h4 | ⟨_, h4⟩
        · rw [e, bl_irr] at h4; cases h4
        · rw [bl_asymm h3] at h4; cases h4
theorem less_trans {a b c : LineD} (h : lessB a b = true) (h2 : lessB b c = true) : lessB a c = true := by
  rw [lessB_iff] at h h2 ⊢
  rcases h with h | ⟨h, h3⟩
  · rcases h2 with h2 | ⟨h2, _⟩ <;> (left; omega)
  · rcases h2 with h2 | ⟨h2, h4⟩
    · left; omega
    · right
      refine ⟨by omega, ?_⟩
      rcases h3 with h3 | ⟨e, h3⟩
      · rcases h4 with h4 | ⟨e, h4⟩
        · exact .inl (bl_trans h3 h4)
        · exact .inl (by rw [← e]; exact h3)
      · rcases h4 with h4 | ⟨e2, h4⟩
        · exact .inl (by rw [e]; exact h4)
        · exact .inr ⟨by rw [e, e2], bl_trans h3 h4⟩
/-- not ahead, and ahead of a third one -/
theorem le_trans_less {x q r : LineD} (h : lessB q x = false) (h2 : lessB q r = true) : lessB x r = true := by
  cases hx : lessB x q with
  | true => exact less_trans hx h2
  | false =>
    have e : x.head = q.head ∧ x.name = q.name ∧ x.leaf = q.leaf := by
      have a1 := (not_congr (lessB_iff q x)).1 (by rw [h]; exact Bool.false_ne_true)
      have a2 := (not_congr (lessB_iff x q)).1 (by rw [hx]; exact Bool.false_ne_true)
      have eh : x.head = q.head := by
        have : ¬ q.head < x.head := fun h' => a1 (.inl h')
        have : ¬ x.head < q.head := fun h' => a2 (.inl h')
        omega
      have en : x.name = q.name := bl_tri (Bool.eq_false_iff.2 fun h' => a2 (.inr ⟨eh, .inl h'⟩)) (Bool.eq_false_iff.2 fun h' => a1 (.inr ⟨eh.symm, .inl h'⟩))
      exact ⟨eh, en, bl_tri (Bool.eq_false_iff.2 fun h' => a2 (.inr ⟨eh, .inr ⟨en, h'⟩⟩)) (Bool.eq_false_iff.2 fun h' => a1 (.inr ⟨eh.symm, .inr ⟨en.symm, h'⟩⟩))⟩
    rw [lessB_iff] at h2 ⊢
    rw [e.1, e.2.1, e.2.2]; exact h2

/-- each one is ahead of the next -/
def rises : List LineD → Prop
  | [] => True
  | [_] => True
  | a :: b :: ls => lessB a b = true ∧ rises (b :: ls)
theorem rises_head {a : LineD} : ∀ {ls : List LineD}, rises (a :: ls) → ∀ q ∈ ls, lessB a q = true := by
  intro ls
  induction ls generalizing a with
  | nil => intro _ q hq; cases hq
  | cons b ls ih =>
    intro h q hq
    rcases List.mem_cons.1 hq with rfl | hq
    · exact h.1
    · exact less_trans h.1 (ih h.2 q hq)
theorem rises_tail {a : LineD} {ls : List LineD} (h : rises (a :: ls)) : rises ls := by
  cases ls with
  | nil => trivial
  | cons b ls => exact h.2
/-- a round of the document's Set -/
def stepR (x : LineD) (s : List LineD × Bool) (q : LineD) : List LineD × Bool :=
  let t := if (!s.2 && !lessB q x) = true then (s.1 ++ [x], true) else s
  if (lessB q x || lessB x q) = true then (t.1 ++ [q], t.2) else t
theorem stepR_ahead {x q : LineD} (out : List LineD) (h : lessB q x = true) : stepR x (out, false) q = (out ++ [q], false) := by
  simp [stepR, h]
theorem stepR_behind {x q : LineD} (out : List LineD) (h : lessB x q = true) : stepR x (out, true) q = (out ++ [q], true) := by
  simp [stepR, h]
theorem fold_behind {x : LineD} : ∀ (ls out : List LineD), (∀ q ∈ ls, lessB x q = true) → ls.foldl (stepR x) (out, true) = (out ++ ls, true) := by
  intro ls
  induction ls with
  | nil => intro out _; simp
  | cons q ls ih =>
    intro out h
    rw [List.foldl_cons, stepR_behind out (h q (List.mem_cons_self ..)), ih _ (fun r hr => h r (List.mem_cons_of_mem _ hr)), List.append_assoc]; rfl
def endR (x : LineD) (s : List LineD × Bool) : List LineD := if s.2 = true then s.1 else s.1 ++ [x]
theorem fold_set {x : LineD} : ∀ (ls out : List LineD), rises ls → endR x (ls.foldl (stepR x) (out, false)) = out ++ setC x ls := by
  intro ls
  induction ls with
  | nil => intro out _; rfl
  | cons q ls ih =>
    intro out h
    by_cases hq : lessB q x = true
    · rw [List.foldl_cons, stepR_ahead out hq, ih _ (rises_tail h), List.append_assoc]
      congr 1
      have hp : posL x (q :: ls) = posL x ls + 1 := by rw [posL, if_pos hq]
      have ht : thereB x (q :: ls) = thereB x ls := by unfold thereB; rw [hp]; simp
      unfold setC
      rw [hp, ht]
      split <;> simp [Nat.add_right_comm]
    · have hq' : lessB q x = false := by simpa using hq
      have hp : posL x (q :: ls) = 0 := by rw [posL, if_neg hq]
      have hb : ∀ r ∈ ls, lessB x r = true := fun r hr => le_trans_less hq' (rises_head h r hr)
      rw [List.foldl_cons]
      cases hx : lessB x q with
      | true =>
        have e : stepR x (out, false) q = (out ++ [x] ++ [q], true) := by simp [stepR, hq', hx]
        have ht : thereB x (q :: ls) = false := by unfold thereB; rw [hp]; simp [hx]
        rw [e, fold_behind _ _ hb]
        unfold setC endR
        rw [hp, ht]; simp
      | false =>
        have e : stepR x (out, false) q = (out ++ [x], true) := by simp [stepR, hq', hx]
        have ht : thereB x (q :: ls) = true := by unfold thereB; rw [hp]; simp [hx]
        rw [e, fold_behind _ _ hb]
        unfold setC endR
        rw [hp, ht]; simp
theorem riseB_pre {ls : List LineD} : ∀ {k : Nat}, riseB ls k = true → k ≤ ls.length → ∀ i a b, i + 1 < k → ls[i]? = some a → ls[i + 1]? = some b → lessB a b = true := by
  intro k
  induction k with
  | zero => intro _ _ i a b hi; omega
  | succ k ih =>
    intro h hk i a b hi ha hb
    rw [riseB, Bool.and_eq_true] at h
    by_cases e : i + 1 < k
    · exact ih h.1 (by omega) i a b e ha hb
    · obtain rfl : k = i + 1 := by omega
      have h2 := h.2
      rw [hb] at h2
      simp only [Bool.and_eq_true] at h2
      rw [ha] at h2
      exact h2.2
theorem rises_of : ∀ {ls : List LineD}, (∀ i a b, ls[i]? = some a → ls[i + 1]? = some b → lessB a b = true) → rises ls := by
  intro ls
  induction ls with
  | nil => intro _; trivial
  | cons a ls ih =>
    intro h
    cases ls with
    | nil => trivial
    | cons b ls => exact ⟨h 0 a b rfl rfl, ih (fun i c d hc hd => h (i + 1) c d (by simpa using hc) (by simpa using hd))⟩
theorem right_rises {ls : List LineD} (h : rightC ls = true) : rises ls := by
  unfold rightC at h
  rw [Bool.and_eq_true] at h
  refine rises_of fun i a b ha hb => riseB_pre h.2 (Nat.le_refl _) i a b ?_ ha hb
  have := (List.getElem?_eq_some_iff.1 hb).1
  omega
/-- the document's Set makes the same -/
theorem set_fold {x : LineD} {ls : List LineD} (h : rightC ls = true) : endR x (ls.foldl (stepR x) ([], false)) = setC x ls := by
  rw [fold_set ls [] (right_rises h)]; rfl
end Go.Proofs.YtljfeefhlbgopaaDoor
/- Right lines are short; a right configuration with a right line more is right, plain. -/
set_option linter.unusedVariables false
set_option linter.unusedSimpArgs false
namespace Go.Proofs.YtljfeefhlbgopaaDoor
open Go.RowKit

theorem decL_len {l : List UInt8} {n : Nat} (h : decL l = some n) : l.length ≤ 9 := by
  unfold decL at h
  split at h
  · rename_i h'
    simp only [Bool.and_eq_true] at h'
    have := h'.1; unfold decShape at this; rw [decide_eq_true_eq] at this; exact this.2.1
  · cases h
theorem addrGo_len : ∀ (k n : Nat) (s : List UInt8) (m : Nat), 1 ≤ k → addrGo k n s = some m → s.length ≤ 10 * k := by
  intro k
  induction k with
  | zero => intro n s m h; omega
  | succ k ih =>
    intro n s m _ h
    by_cases hd : 46 ∈ s
    · rw [addrGo_yes hd] at h
      cases hb : decL (s.take (before 46 s)) with
      | none => rw [hb] at h; cases h
      | some b =>
        rw [hb] at h
        simp only at h
        split at h
        · rename_i hc
          have h1 := decL_len hb
          have h2 := ih _ _ _ (by omega) h
          rw [List.length_take] at h1
          rw [List.length_drop] at h2
          omega
        · cases h
    · rw [addrGo_no hd] at h
      cases hb : decL s with
      | none => rw [hb] at h; cases h
      | some b => have := decL_len hb; omega
theorem addrL_len {s : List UInt8} (h : (addrL s).isSome = true) : s.length ≤ 40 := by
  obtain ⟨m, hm⟩ := Option.isSome_iff_exists.1 h
  exact addrGo_len 4 0 s m (by omega) hm
theorem netL_len {s : List UInt8} (h : (netL s).isSome = true) : s.length ≤ 50 := by
  unfold netL at h
  split at h
  · cases ha : addrL (s.take (before 47 s)) with
    | none => rw [ha] at h; simp at h
    | some a =>
      cases hb : decL (s.drop (before 47 s + 1)) with
      | none => rw [ha, hb] at h; simp at h
      | some b =>
        have h1 := addrL_len (s := s.take (before 47 s)) (by rw [ha]; rfl)
        have h2 := decL_len hb
        rw [List.length_take] at h1
        rw [List.length_drop] at h2
        omega
  · cases h
theorem isWordB_len {s : List UInt8} (h : isWordB s = true) : s.length ≤ 31 := by
  unfold isWordB at h
  rw [Bool.and_eq_true, decide_eq_true_eq] at h
  exact h.1.2
theorem line_small {l : LineD} (h : lineB l = true) : l.name.length ≤ 100 ∧ l.leaf.length ≤ 100 ∧ l.value.length ≤ 100 := by
  unfold lineB at h
  cases hf : findD l.head l.leaf with
  | none => rw [hf] at h; cases h
  | some r =>
    rw [hf] at h
    simp only [Bool.and_eq_true] at h
    have hm : r ∈ tableD := List.mem_of_find?_eq_some hf
    have hp := List.find?_some hf
    rw [decide_eq_true_eq] at hp
    have hall : ∀ q ∈ tableD, q.name.length ≤ 30 ∧ ∀ c ∈ q.cs, c.length ≤ 30 := by decide
    obtain ⟨h1, h2⟩ := hall r hm
    refine ⟨?_, by rw [← hp.2]; omega, ?_⟩
    · have hn := h.1
      unfold namedB at hn
      split at hn
      · have : l.name = [] := by simpa using hn
        rw [this]; simp
      · split at hn
        · have := addrL_len hn; omega
        · split at hn
          · rw [Bool.and_eq_true] at hn
            have := isWordB_len hn.1; omega
          · cases hn
    · have hv := h.2
      unfold rightB at hv
      split at hv
      · have := addrL_len hv; omega
      · split at hv
        · have := netL_len hv; omega
        · split at hv
          · cases hd : decL l.value with
            | none => rw [hd] at hv; cases hv
            | some n => have := decL_len hd; omega
          · split at hv
            · have := h2 l.value (by simpa using hv); omega
            · split at hv
              · rw [Bool.and_eq_true] at hv
                have := isWordB_len hv.2; omega
              · cases hv
theorem riseB_line {ls : List LineD} : ∀ {k : Nat}, riseB ls k = true → ∀ i l, i < k → ls[i]? = some l → lineB l = true := by
  intro k
  induction k with
  | zero => intro _ i l hi; omega
  | succ k ih =>
    intro h i l hi hl
    rw [riseB, Bool.and_eq_true] at h
    by_cases e : i < k
    · exact ih h.1 i l e hl
    · obtain rfl : i = k := by omega
      have h2 := h.2
      rw [hl] at h2
      simp only [Bool.and_eq_true] at h2
      exact h2.1
theorem right_line {ls : List LineD} (h : rightC ls = true) : ∀ l ∈ ls, lineB l = true := fun l hl => by
  unfold rightC at h
  rw [Bool.and_eq_true] at h
  obtain ⟨i, hi⟩ := List.getElem?_of_mem hl
  exact riseB_line h.2 i l (List.getElem?_eq_some_iff.1 hi).1 hi
theorem right_len {ls : List LineD} (h : rightC ls = true) : ls.length ≤ 64 := by
  unfold rightC at h
  rw [Bool.and_eq_true, decide_eq_true_eq] at h
  exact h.1
theorem right_lt {ls : List LineD} (h : rightC ls = true) (m : Nat) (hm : 100 ≤ m) : LinesLt ls m := fun l hl => by
  have := line_small (right_line h l hl)
  omega
theorem rises_at {ls : List LineD} (h : rises ls) : ∀ i a b, ls[i]? = some a → ls[i + 1]? = some b → lessB a b = true := by
  induction ls with
  | nil => intro i a b ha; simp at ha
  | cons q ls ih =>
    intro i a b ha hb
    cases i with
    | zero =>
      simp at ha; subst ha
      exact rises_head h b (List.mem_of_getElem? (by simpa using hb))
    | succ i => exact ih (rises_tail h) i a b (by simpa using ha) (by simpa using hb)
theorem riseB_of {ls : List LineD} (h1 : ∀ l ∈ ls, lineB l = true) (h2 : rises ls) : ∀ k, k ≤ ls.length → riseB ls k = true := by
  intro k
  induction k with
  | zero => intro _; rfl
  | succ k ih =>
    intro hk
    rw [riseB, ih (by omega), Bool.true_and]
    have hq : ls[k]? = some ls[k] := List.getElem?_eq_getElem (by omega)
    rw [hq]
    simp only [h1 _ (List.getElem_mem _), Bool.true_and]
    cases k with
    | zero => rfl
    | succ j =>
      have hj : ls[j]? = some ls[j] := List.getElem?_eq_getElem (by omega)
      simp only [hj]
      exact rises_at h2 j _ _ hj hq
theorem right_of {ls : List LineD} (h1 : ∀ l ∈ ls, lineB l = true) (h2 : rises ls) (h3 : ls.length ≤ 64) : rightC ls = true := by
  unfold rightC
  rw [riseB_of h1 h2 _ (Nat.le_refl _)]
  simp [h3]
theorem setC_ahead {x q : LineD} {ls : List LineD} (h : lessB q x = true) : setC x (q :: ls) = q :: setC x ls := by
  have hp : posL x (q :: ls) = posL x ls + 1 := by rw [posL, if_pos h]
  have ht : thereB x (q :: ls) = thereB x ls := by unfold thereB; rw [hp]; simp
  unfold setC
  rw [hp, ht]
  split <;> simp [Nat.add_right_comm]
theorem setC_here {x q : LineD} {ls : List LineD} (h : lessB q x = false) (h2 : lessB x q = true) : setC x (q :: ls) = x :: q :: ls := by
  have hp : posL x (q :: ls) = 0 := by rw [posL, if_neg (by rw [h]; exact Bool.false_ne_true)]
  have ht : thereB x (q :: ls) = false := by unfold thereB; rw [hp]; simp [h2]
  unfold setC
  rw [hp, ht]; simp
theorem setC_same {x q : LineD} {ls : List LineD} (h : lessB q x = false) (h2 : lessB x q = false) : setC x (q :: ls) = x :: ls := by
  have hp : posL x (q :: ls) = 0 := by rw [posL, if_neg (by rw [h]; exact Bool.false_ne_true)]
  have ht : thereB x (q :: ls) = true := by unfold thereB; rw [hp]; simp [h2]
  unfold setC
  rw [hp, ht]; simp
theorem mem_setC {x l : LineD} : ∀ {ls : List LineD}, l ∈ setC x ls → l = x ∨ l ∈ ls := by
  intro ls h
  unfold setC at h
  rcases List.mem_append.1 h with h | h
  · exact .inr (List.mem_of_mem_take h)
  · rcases List.mem_cons.1 h with h | h
    · exact .inl h
    · exact .inr (List.mem_of_mem_drop h)
theorem rises_cons {a : LineD} {ls : List LineD} (h : ∀ b ∈ ls, lessB a b = true) (h2 : rises ls) : rises (a :: ls) := by
  cases ls with
  | nil => trivial
  | cons b ls => exact ⟨h b (List.mem_cons_self ..), h2⟩
theorem rises_setC {x : LineD} : ∀ {ls : List LineD}, rises ls → rises (setC x ls) := by
  intro ls
  induction ls with
  | nil => intro _; trivial
  | cons q ls ih =>
    intro h
    cases hq : lessB q x with
    | true =>
      rw [setC_ahead hq]
      refine rises_cons (fun b hb => ?_) (ih (rises_tail h))
      rcases mem_setC hb with rfl | hb
      · exact hq
      · exact rises_head h b hb
    | false =>
      cases hx : lessB x q with
      | true =>
        rw [setC_here hq hx]
        exact rises_cons (fun b hb => by
          rcases List.mem_cons.1 hb with rfl | hb
          · exact hx
          · exact less_trans hx (rises_head h b hb)) h
      | false =>
        rw [setC_same hq hx]
        exact rises_cons (fun b hb => le_trans_less hq (rises_head h b hb)) (rises_tail h)
theorem right_setC {x : LineD} {ls : List LineD} (h : rightC ls = true) (hx : lineB x = true) (hl : (setC x ls).length ≤ 64) : rightC (setC x ls) = true :=
  right_of (fun l hl => by
    rcases mem_setC hl with rfl | hl
    · exact hx
    · exact right_line h l hl) (rises_setC (right_rises h)) hl
/-- what Build makes -/
def stepB (c : List LineD) (x : LineD) : List LineD := if lineB x = true ∧ (setC x c).length ≤ 64 then setC x c else c
def buildC (ls : List LineD) : List LineD := (ls.take 100).foldl stepB []
theorem stepB_right {c : List LineD} (x : LineD) (h : rightC c = true) : rightC (stepB c x) = true := by
  unfold stepB
  split
  · rename_i h2; exact right_setC h h2.1 h2.2
  · exact h
theorem fold_right : ∀ (ls c : List LineD), rightC c = true → rightC (ls.foldl stepB c) = true := by
  intro ls
  induction ls with
  | nil => intro c h; exact h
  | cons x ls ih => intro c h; rw [List.foldl_cons]; exact ih _ (stepB_right x h)
theorem build_right (ls : List LineD) : rightC (buildC ls) = true := fold_right _ _ (by decide +kernel)
end Go.Proofs.YtljfeefhlbgopaaDoor
/- A whole text, plain: what parse.Text answers for words. -/
set_option linter.unusedVariables false
set_option linter.unusedSimpArgs false
namespace Go.Proofs.YtljfeefhlbgopaaDoor
open Go.RowKit

abbrev StP := List LineD × Bool
def putS (s : StP) (l : LineD) : StP := if s.2 = true then s else if (setC l s.1).length ≤ 64 then (setC l s.1, false) else (s.1, true)
def atL (o : Option (Int × List UInt8)) (a b : List UInt8) : LineD := match o with | none => ⟨0, [], a, b⟩ | some (h, n) => ⟨h, n, a, b⟩
def opnW : List UInt8 := [123]
def clsW : List UInt8 := [125]
def endW : List UInt8 := [59]
/-- what is set when these words are read to their end; none: they can't be -/
def textD (o : Option (Int × List UInt8)) (ws : List (List UInt8)) (s : StP) : Option StP :=
  match ws with
  | [] => if o.isSome then none else some s
  | a :: r =>
    if o.isSome ∧ a = clsW then textD none r s
    else match r with
      | b :: c :: r2 =>
        if o.isNone ∧ headD a ≠ 0 ∧ c = opnW then (if namedB (headD a) b = true then textD (some (headD a, b)) r2 s else none)
        else if signW a = false ∧ signW b = false ∧ c = endW then (if lineB (atL o a b) = true then textD o r2 (putS s (atL o a b)) else none)
        else none
      | _ => none
termination_by ws.length
def ansT (t : List UInt8) : List LineD × Nat := match lexL t with
  | .bad _ => ([], 3)
  | .ok ws => match textD none ws ([], false) with
    | none => ([], 3)
    | some (C, f) => if f = true then ([], 5) else (C, 0)

theorem textD_nil (s : StP) : textD none [] s = some s := by rw [textD.eq_def]; rfl
theorem textD_nilO (p : Int × List UInt8) (s : StP) : textD (some p) [] s = none := by rw [textD.eq_def]; rfl
theorem textD_close (p : Int × List UInt8) (r : List (List UInt8)) (s : StP) : textD (some p) (clsW :: r) s = textD none r s := by rw [textD.eq_def]; simp
theorem headD_pos {a : List UInt8} (h : headD a ≠ 0) : a = areaW ∨ a = faceW := by
  unfold headD at h
  by_cases h1 : a = areaW
  · exact .inl h1
  · rw [if_neg h1] at h
    by_cases h2 : a = faceW
    · exact .inr h2
    · rw [if_neg h2] at h; exact absurd rfl h
theorem headD_12 {a : List UInt8} (h : headD a ≠ 0) : headD a = 1 ∨ headD a = 2 := by
  rcases headD_pos h with rfl | rfl
  · exact .inl (by decide)
  · exact .inr (by decide)
theorem signW_head {a : List UInt8} (h : headD a ≠ 0) : signW a = false := by
  rcases headD_pos h with rfl | rfl <;> decide
/-- no line of Top begins with a head's word -/
theorem top_nohead {a v : List UInt8} (h : headD a ≠ 0) : lineB (atL none a v) = false := by
  have e : findD 0 a = none := by rcases headD_pos h with rfl | rfl <;> decide
  unfold lineB atL
  simp only [e]
theorem rightV_sign {h : Int} {f v : List UInt8} (hr : rightV h f v = true) : signW v = false := by
  unfold rightV at hr
  cases hf : findD h f with
  | none => rw [hf] at hr; cases hr
  | some q =>
    rw [hf] at hr
    have hq := List.mem_of_find?_eq_some hf
    have h3 : ∀ s ∈ ([[123], [125], [59]] : List (List UInt8)), ∀ q ∈ tableD, rightB q.kind q.lo q.hi q.cs s = false := by decide +kernel
    by_cases hs : v ∈ ([[123], [125], [59]] : List (List UInt8))
    · have := h3 v hs q hq
      simp only at hr
      rw [this] at hr; cases hr
    · simp only [List.mem_cons, List.not_mem_nil, or_false, not_or] at hs
      unfold signW
      simp [hs]
theorem findD_sign {h : Int} {f : List UInt8} {q : RowD} (hf : findD h f = some q) : signW f = false := by
  have hq := List.mem_of_find?_eq_some hf
  have hp := List.find?_some hf
  simp only [decide_eq_true_eq] at hp
  have h3 : ∀ q ∈ tableD, signW q.name = false := by decide +kernel
  rw [← hp.2]; exact h3 q hq
theorem rightV_leaf {h : Int} {f v : List UInt8} (hr : rightV h f v = true) : signW f = false := by
  unfold rightV at hr
  cases hf : findD h f with
  | none => rw [hf] at hr; cases hr
  | some q => exact findD_sign hf
theorem lineB_split (q : LineD) : lineB q = (namedB q.head q.name && rightV q.head q.leaf q.value) := by
  unfold lineB rightV
  cases findD q.head q.leaf with
  | none => simp
  | some r => rfl
theorem named_top : namedB 0 [] = true := by decide
/-- a line, as the code reads it -/
theorem textD_line {o : Option (Int × List UInt8)} {a b : List UInt8} {r : List (List UInt8)} {s : StP} (hc : o.isSome = true → a ≠ clsW) (hn : ∀ p, o = some p → namedB p.1 p.2 = true) (hh : o = none → headD a = 0)
    (hr : rightV (atL o a b).head a b = true) : textD o (a :: b :: endW :: r) s = textD o r (putS s (atL o a b)) := by
  have hl : lineB (atL o a b) = true := by
    rw [lineB_split]
    cases o with
    | none => unfold atL at hr ⊢; simp only [named_top, Bool.true_and]; exact hr
    | some p => obtain ⟨h, n⟩ := p; unfold atL at hr ⊢; simp only [hn _ rfl, Bool.true_and]; exact hr
  rw [textD.eq_def]
  simp only []
  rw [if_neg (fun h => hc h.1 h.2)]
  rw [if_neg (fun h => by
    have h1 : o = none := by simpa using h.1
    exact h.2.1 (hh h1))]
  rw [if_pos ⟨rightV_leaf hr, rightV_sign hr, trivial⟩, if_pos hl]
/-- what isn't a line ends it -/
theorem textD_noline {o : Option (Int × List UInt8)} {a : List UInt8} {r : List (List UInt8)} {s : StP} (hc : o.isSome = true → a ≠ clsW) (hh : o = none → headD a = 0)
    (hr : ∀ b c r2, r = b :: c :: r2 → c = endW → rightV (atL o a b).head a b = false) : textD o (a :: r) s = none := by
  rw [textD.eq_def]
  simp only []
  rw [if_neg (fun h => hc h.1 h.2)]
  match r with
  | [] => rfl
  | [b] => rfl
  | b :: c :: r2 =>
    simp only []
    rw [if_neg (fun h => by
      have h1 : o = none := by simpa using h.1
      exact h.2.1 (hh h1))]
    by_cases h3 : signW a = false ∧ signW b = false ∧ c = endW
    · rw [if_pos h3]
      have := hr b c r2 rfl h3.2.2
      rw [if_neg (by rw [lineB_split]; cases o with | none => unfold atL at this ⊢; simp [this] | some p => obtain ⟨h, n⟩ := p; unfold atL at this ⊢; simp [this])]
    · rw [if_neg h3]
theorem textD_block {a b : List UInt8} {r : List (List UInt8)} {s : StP} (hh : headD a ≠ 0) (hn : namedB (headD a) b = true) : textD none (a :: b :: opnW :: r) s = textD (some (headD a, b)) r s := by
  rw [textD.eq_def]
  simp only []
  rw [if_neg (fun h => by cases h.1)]
  rw [if_pos ⟨rfl, hh, trivial⟩, if_pos hn]
theorem textD_noblock {a : List UInt8} {r : List (List UInt8)} {s : StP} (hh : headD a ≠ 0) (hr : ∀ b c r2, r = b :: c :: r2 → c = opnW → namedB (headD a) b = false) : textD none (a :: r) s = none := by
  rw [textD.eq_def]
  simp only []
  rw [if_neg (fun h => by cases h.1)]
  match r with
  | [] => rfl
  | [b] => rfl
  | b :: c :: r2 =>
    simp only []
    by_cases hc : c = opnW
    · rw [if_pos ⟨rfl, hh, hc⟩, if_neg (by rw [hr b c r2 rfl hc]; simp)]
    · rw [if_neg (fun h => hc h.2.2)]
      by_cases h3 : signW a = false ∧ signW b = false ∧ c = endW
      · rw [if_pos h3, if_neg (by rw [top_nohead hh]; simp)]
      · rw [if_neg h3]
theorem putS_right {s : StP} {l : LineD} (hs : rightC s.1 = true) (hl : lineB l = true) : rightC (putS s l).1 = true := by
  unfold putS
  split
  · exact hs
  · split
    · rename_i h; exact right_setC hs hl h
    · exact hs
end Go.Proofs.YtljfeefhlbgopaaDoor
/- The small functions of parse, walked: a word's verb, a word's head, a row that is there, a value that is right, a number. -/
namespace Go.Proofs.YtljfeefhlbgopaaDoor
open Go.RowKit

theorem verbsInfo : (Tryd.prog.info? 92).map (·.size) = some 10 := by kernel_rfl
theorem cmdInfo : (Tryd.prog.info? 54).map (·.size) = some 6 := by kernel_rfl
/-- the table of verbs, in memory -/
def verbVals : List Value := verbsL.map strv
def VerbsOk (w : World) : Prop := w.rangeAt 0 0 verbVals
theorem idx_verb0 : ∀ w : World, (Instr.index 92 (.agg verbVals.toArray) (.int .i64 0)).run Tryd.prog w = .ok (strv []) w := fun _ => by kernel_rfl
theorem idx_verb1 : ∀ w : World, (Instr.index 92 (.agg verbVals.toArray) (.int .i64 1)).run Tryd.prog w = .ok (strv [115, 101, 116]) w := fun _ => by kernel_rfl
theorem idx_verb2 : ∀ w : World, (Instr.index 92 (.agg verbVals.toArray) (.int .i64 2)).run Tryd.prog w = .ok (strv [100, 101, 108, 101, 116, 101]) w := fun _ => by kernel_rfl
theorem idx_verb3 : ∀ w : World, (Instr.index 92 (.agg verbVals.toArray) (.int .i64 3)).run Tryd.prog w = .ok (strv [115, 104, 111, 119]) w := fun _ => by kernel_rfl
theorem idx_verb4 : ∀ w : World, (Instr.index 92 (.agg verbVals.toArray) (.int .i64 4)).run Tryd.prog w = .ok (strv [99, 111, 109, 112, 97, 114, 101]) w := fun _ => by kernel_rfl
theorem idx_verb5 : ∀ w : World, (Instr.index 92 (.agg verbVals.toArray) (.int .i64 5)).run Tryd.prog w = .ok (strv [99, 104, 101, 99, 107]) w := fun _ => by kernel_rfl
theorem idx_verb6 : ∀ w : World, (Instr.index 92 (.agg verbVals.toArray) (.int .i64 6)).run Tryd.prog w = .ok (strv [99, 111, 109, 109, 105, 116]) w := fun _ => by kernel_rfl
theorem idx_verb7 : ∀ w : World, (Instr.index 92 (.agg verbVals.toArray) (.int .i64 7)).run Tryd.prog w = .ok (strv [99, 111, 109, 109, 105, 116, 45, 99, 111, 110, 102, 105, 114, 109, 101, 100]) w := fun _ => by kernel_rfl
theorem idx_verb8 : ∀ w : World, (Instr.index 92 (.agg verbVals.toArray) (.int .i64 8)).run Tryd.prog w = .ok (strv [99, 111, 110, 102, 105, 114, 109]) w := fun _ => by kernel_rfl
theorem idx_verb9 : ∀ w : World, (Instr.index 92 (.agg verbVals.toArray) (.int .i64 9)).run Tryd.prog w = .ok (strv [114, 111, 108, 108, 98, 97, 99, 107]) w := fun _ => by kernel_rfl
set_option maxRecDepth 100000 in
theorem idx_verbs (k : Nat) (x : List UInt8) (h : verbsL[k]? = some x) (w : World) : (Instr.index 92 (.agg verbVals.toArray) (.int .i64 (k : Nat))).run Tryd.prog w = .ok (strv x) w := by
  have hk : k < 10 := (List.getElem?_eq_some_iff.1 h).1
  rcases (show k = 0 ∨ k = 1 ∨ k = 2 ∨ k = 3 ∨ k = 4 ∨ k = 5 ∨ k = 6 ∨ k = 7 ∨ k = 8 ∨ k = 9 by omega) with rfl | rfl | rfl | rfl | rfl | rfl | rfl | rfl | rfl | rfl <;> have h := Option.some.inj h <;> subst h
  · exact idx_verb0 w
  · exact idx_verb1 w
  · exact idx_verb2 w
  · exact idx_verb3 w
  · exact idx_verb4 w
  · exact idx_verb5 w
  · exact idx_verb6 w
  · exact idx_verb7 w
  · exact idx_verb8 w
  · exact idx_verb9 w
theorem VerbsOk.keep {w w' : World} (h : VerbsOk w) (k : Keeps (fun _ => False) w w') : VerbsOk w' := k.rangeAt h id
theorem cmd_one (a h : Int) (N F V : ByteArray) (n : Int) : (#[.int .i64 a, .int .i64 h, .string N, .string F, .string V, .int .i64 n] : Array Value).all (·.oneCell') = true := by simp; exact ⟨rfl, rfl, rfl, rfl, rfl, rfl⟩

theorem verb_yes {s : List UInt8} {k : Nat} {x : List UInt8} (hx : verbsL[k]? = some x) (hno : ∀ j, j < k → verbsL[j]? ≠ some s) (he : x = s) : verbD s = k := by
  have : verbsL.findIdx? (· == s) = some k := by
    rw [List.findIdx?_eq_some_iff_getElem]
    obtain ⟨hk, e⟩ := List.getElem?_eq_some_iff.1 hx
    refine ⟨hk, by simp [e, he], fun j hj => ?_⟩
    have := hno j hj
    rw [List.getElem?_eq_getElem (by omega)] at this
    simpa using fun e => this (by rw [e])
  unfold verbD; rw [this]; rfl
theorem verb_no {s : List UInt8} (hno : ∀ j, j < 10 → verbsL[j]? ≠ some s) : verbD s = 0 := by
  have : verbsL.findIdx? (· == s) = none := by
    rw [List.findIdx?_eq_none_iff]
    intro x hx
    obtain ⟨j, hj⟩ := List.getElem?_of_mem hx
    have := hno j (List.getElem?_eq_some_iff.1 hj).1
    rw [hj] at this
    simpa using fun e => this (by rw [e])
  unfold verbD; rw [this]; rfl

set_option maxRecDepth 100000 in
set_option maxHeartbeats 1000000 in
theorem verbOf_any (s : ByteArray) (r : Nat) (w : World) (hv : Hid (VerbsOk w)) (hr : Hid (verbD s.data.toList = r)) :
    Calls Tryd.prog 45 #[.string s] w fun e w' => e = .returned (.int .i64 r) ∧ w = w' := by
  go_enter Tryd.func45, Tryd.ntmps45
  go_wp2_with ((with_reducible refine at_slot 5 ?_); refine wpList_load_mid rfl 92 (.global 0) rfl 0 0 rfl verbVals _ hv.out Tryd.underlying92 rfl verbsInfo ?_)
  go_loop [6] (fun i => ∃ k : Nat, k ≤ 10 ∧ i = .int .i64 k ∧ Hid (∀ j, j < k → verbsL[j]? ≠ some s.data.toList)) (fun i => 10 - (intOf i).toNat)
  case atStart => exact ⟨0, by omega, rfl, Lib.hid (fun _ h => by omega)⟩
  case round =>
    obtain ⟨k, hk, rfl, hno⟩ := hrel
    by_cases hlt : k < 10
    · obtain ⟨x, hx⟩ : ∃ x, verbsL[k]? = some x := ⟨_, List.getElem?_eq_getElem (show k < verbsL.length from hlt)⟩
      obtain ⟨X, hX⟩ : ∃ X : ByteArray, X = ⟨x.toArray⟩ := ⟨_, rfl⟩
      have hi : ∀ w : World, (Instr.index 92 (.agg verbVals.toArray) (.int .i64 (k : Nat))).run Tryd.prog w = .ok (.string X) w := by rw [hX]; exact idx_verbs k x hx
      have hXl : X.toList = x := by rw [hX, Lib.toList_data]
      by_cases he : x = s.data.toList
      · have e1 : (X.toList == s.toList) = true := by rw [hXl, Lib.toList_data, he]; simp
        have hz : Hid (r = k) := Lib.hid (by rw [← hr.out]; exact verb_yes hx hno.out he)
        clear hX hXl hno he hx
        go_wp2
        go_ret
        exact ⟨by rw [hz.out]; rfl, rfl⟩
      · have e1 : (X.toList == s.toList) = false := by rw [hXl, Lib.toList_data]; simpa using he
        have hno' : Hid (∀ j, j < k + 1 → verbsL[j]? ≠ some s.data.toList) := Lib.hid (fun j hj => by
          by_cases e : j = k
          · subst e; rw [hx]; intro h; injection h with h; exact he h
          · exact hno.out j (by omega))
        clear hX hXl hno he hx
        go_wp2
        go_round
        case rel => exact ⟨k + 1, by omega, by go_num, hno'⟩
        case measure => simp [intOf]; omega
    · obtain rfl : k = 10 := by omega
      have hz : Hid (r = 0) := Lib.hid (by rw [← hr.out]; exact verb_no hno.out)
      clear hno
      go_wp2
      go_ret
      exact ⟨by rw [hz.out]; rfl, rfl⟩

set_option maxRecDepth 100000 in
theorem headOf_any (s : ByteArray) (r : Int) (w : World) (hr : Hid (headD s.data.toList = r)) :
    Calls Tryd.prog 27 #[.string s] w fun e w' => e = .returned (.tuple #[.int .i64 r, .bool (decide (r ≠ 0))]) ∧ w = w' := by
  have hq := hr.out
  unfold headD at hq
  by_cases h1 : s.data.toList = areaW
  · rw [if_pos h1] at hq
    have e1 : (s.toList == [97, 114, 101, 97]) = true := by rw [Lib.toList_data, h1]; rfl
    subst hq; clear hr h1
    go_enter Tryd.func27, Tryd.ntmps27
    go_wp2
    go_ret2
    exact ⟨rfl, rfl⟩
  · rw [if_neg h1] at hq
    have e1 : (s.toList == [97, 114, 101, 97]) = false := by rw [Lib.toList_data]; simpa [areaW] using h1
    by_cases h2 : s.data.toList = faceW
    · rw [if_pos h2] at hq
      have e2 : (s.toList == [105, 110, 116, 101, 114, 102, 97, 99, 101]) = true := by rw [Lib.toList_data, h2]; rfl
      subst hq; clear hr h1 h2
      go_enter Tryd.func27, Tryd.ntmps27
      go_wp2
      go_ret2
      exact ⟨rfl, rfl⟩
    · rw [if_neg h2] at hq
      have e2 : (s.toList == [105, 110, 116, 101, 114, 102, 97, 99, 101]) = false := by rw [Lib.toList_data]; simpa [faceW] using h2
      subst hq; clear hr h1 h2
      go_enter Tryd.func27, Tryd.ntmps27
      go_wp2
      go_ret2
      exact ⟨rfl, rfl⟩

theorem find0 (head : Int) (nm : ByteArray) (w : World) (h : Hid (findD head nm.data.toList = none)) :
    Calls Tryd.prog 52 #[.int .i64 head, .string nm] w fun e w' => e = .returned (.tuple #[.agg #[.int .i64 0, .string ⟨#[]⟩, .int .i64 0, .int .i64 0, .int .i64 0, .slice none 0 0, .string ⟨#[]⟩, .int .i64 0], .bool false]) ∧ Keeps (fun _ => False) w w' := find_any head nm none w h
theorem find1 (head : Int) (nm : ByteArray) (r : RowD) (N F : ByteArray) (w : World) (h : Hid (findD head nm.data.toList = some r)) (hN : Hid (N = ⟨r.name.toArray⟩)) (hF : Hid (F = ⟨r.df.toArray⟩)) :
    Calls Tryd.prog 52 #[.int .i64 head, .string nm] w fun e w' => ∃ p cc, e = .returned (.tuple #[.agg #[.int .i64 r.head, .string N, .int .i64 r.kind, .int .i64 r.lo, .int .i64 r.hi, .slice p r.cs.length cc, .string F, .int .i64 r.cl], .bool true]) ∧ StrsAt w' (.slice p r.cs.length cc) r.cs ∧ Keeps (fun _ => False) w w' := by
  rw [hN.out, hF.out]; exact find_any head nm (some r) w h

set_option maxRecDepth 100000 in
set_option maxHeartbeats 1000000 in
theorem hasRow_any (h : Int) (N F V : ByteArray) (r : Bool) (w : World) (hr : Hid ((findD h F.data.toList).isSome = r)) :
    Calls Tryd.prog 55 #[.agg #[.int .i64 h, .string N, .string F, .string V]] w (NewRes (.bool r) w) := by
  cases hf : findD h F.data.toList with
  | none =>
    obtain rfl : r = false := by rw [← hr.out, hf]; rfl
    have hf' := Lib.hid hf; clear hf hr
    go_enter Tryd.func55, Tryd.ntmps55
    go_wp2_with fail
    refine (find0 h F _ hf').mono ?_
    rintro e w2 ⟨rfl, k2⟩
    have k2' := Lib.hid k2; clear k2
    go_wp2_with ((with_reducible refine at_store 3 ?_); refine wpList_store_new rfl 87 (.tmp 3) (.tmp 11) rfl _ #[.int .i64 0, .string ⟨#[]⟩, .int .i64 0, .int .i64 0, .int .i64 0, .slice none 0 0, .string ⟨#[]⟩, .int .i64 0] rfl rfl rowInfo rfl (row_one _ _ _ _ _ _ _ _ _ _) ?_)
    go_ret
    exact ⟨rfl, (((Keeps.refl _ _).alloc _).trans k2'.out).alloc _⟩
  | some q =>
    obtain rfl : r = true := by rw [← hr.out, hf]; rfl
    have hf' := Lib.hid hf; clear hf hr
    obtain ⟨M, hM⟩ : ∃ M : ByteArray, M = ⟨q.name.toArray⟩ := ⟨_, rfl⟩
    obtain ⟨D, hD⟩ : ∃ D : ByteArray, D = ⟨q.df.toArray⟩ := ⟨_, rfl⟩
    have hM' := Lib.hid hM; have hD' := Lib.hid hD; clear hM hD
    go_enter Tryd.func55, Tryd.ntmps55
    go_wp2_with fail
    refine (find1 h F q M D _ hf' hM' hD').mono ?_
    rintro e w2 ⟨p, cc, rfl, hst, k2⟩
    have k2' := Lib.hid k2; clear k2 hst
    go_wp2_with ((with_reducible refine at_store 3 ?_); refine wpList_store_new rfl 87 (.tmp 3) (.tmp 11) rfl _ #[.int .i64 q.head, .string M, .int .i64 q.kind, .int .i64 q.lo, .int .i64 q.hi, .slice p q.cs.length cc, .string D, .int .i64 q.cl] rfl rfl rowInfo rfl (row_one _ _ _ _ _ _ _ _ _ _) ?_)
    go_ret
    exact ⟨rfl, (((Keeps.refl _ _).alloc _).trans k2'.out).alloc _⟩

theorem rows_short (r : RowD) {head : Int} {leaf : List UInt8} (h : findD head leaf = some r) : r.cs.length ≤ 1000 := by
  have : ∀ q ∈ tableD, q.cs.length ≤ 1000 := by decide
  exact this r (List.mem_of_find?_eq_some h)
set_option maxRecDepth 100000 in
set_option maxHeartbeats 1000000 in
theorem rightValue_any (h : Int) (N F V : ByteArray) (r : Bool) (w : World) (hs : V.size ≤ 9223372036854775807) (hr : Hid (rightV h F.data.toList V.data.toList = r)) :
    Calls Tryd.prog 40 #[.agg #[.int .i64 h, .string N, .string F, .string V]] w (NewRes (.bool r) w) := by
  have hq := hr.out
  unfold rightV at hq
  cases hf : findD h F.data.toList with
  | none =>
    obtain rfl : r = false := by rw [← hq, hf]
    have hf' := Lib.hid hf; clear hf hr hq
    go_enter Tryd.func40, Tryd.ntmps40
    go_wp2_with fail
    refine (find0 h F _ hf').mono ?_
    rintro e w2 ⟨rfl, k2⟩
    have k2' := Lib.hid k2; clear k2
    go_wp2_with ((with_reducible refine at_store 3 ?_); refine wpList_store_new rfl 87 (.tmp 3) (.tmp 11) rfl _ #[.int .i64 0, .string ⟨#[]⟩, .int .i64 0, .int .i64 0, .int .i64 0, .slice none 0 0, .string ⟨#[]⟩, .int .i64 0] rfl rfl rowInfo rfl (row_one _ _ _ _ _ _ _ _ _ _) ?_)
    go_ret
    exact ⟨rfl, (((Keeps.refl _ _).alloc _).trans k2'.out).alloc _⟩
  | some q =>
    rw [hf] at hq
    have hq' : Hid (rightB q.kind q.lo q.hi q.cs V.data.toList = r) := Lib.hid hq
    have hcl := rows_short q hf
    have hf' := Lib.hid hf; clear hf hr hq
    obtain ⟨M, hM⟩ : ∃ M : ByteArray, M = ⟨q.name.toArray⟩ := ⟨_, rfl⟩
    obtain ⟨D, hD⟩ : ∃ D : ByteArray, D = ⟨q.df.toArray⟩ := ⟨_, rfl⟩
    have hM' := Lib.hid hM; have hD' := Lib.hid hD; clear hM hD
    go_enter Tryd.func40, Tryd.ntmps40
    go_wp2_with fail
    refine (find1 h F q M D _ hf' hM' hD').mono ?_
    rintro e w2 ⟨p, cc, rfl, hst, k2⟩
    have hst' := Lib.hid (hst.alloc (.cells #[.int .i64 q.head, .string M, .int .i64 q.kind, .int .i64 q.lo, .int .i64 q.hi, .slice p q.cs.length cc, .string D, .int .i64 q.cl] 87))
    have hV0 : (w.alloc (.cells #[.int .i64 h, .string N, .string F, .string V] 52)).cell? ⟨w.heap.size, 3, none⟩ = some (.string V) := (BlkAt.new w 52 [.int .i64 h, .string N, .string F, .string V]).cell 3 _ rfl
    have hV2 : (w2.alloc (.cells #[.int .i64 q.head, .string M, .int .i64 q.kind, .int .i64 q.lo, .int .i64 q.hi, .slice p q.cs.length cc, .string D, .int .i64 q.cl] 87)).cell? ⟨w.heap.size, 3, none⟩ = some (.string V) :=
      ((BlkAt.new w 52 [.int .i64 h, .string N, .string F, .string V]).keep (k2.alloc _) id).cell 3 _ rfl
    have k2' := Lib.hid k2; clear k2 hst hV0
    go_wp2_with (first | ((with_reducible refine at_store 3 ?_); refine wpList_store_new rfl 87 (.tmp 3) (.tmp 11) rfl _ #[.int .i64 q.head, .string M, .int .i64 q.kind, .int .i64 q.lo, .int .i64 q.hi, .slice p q.cs.length cc, .string D, .int .i64 q.cl] rfl rfl rowInfo rfl (row_one _ _ _ _ _ _ _ _ _ _) ?_) | ((with_reducible refine at_slot 15 ?_); refine wpList_load_mid_gd (by rfl) 87 (.tmp 3) rfl w2.heap.size 0 rfl [.int .i64 q.head, .string M, .int .i64 q.kind, .int .i64 q.lo, .int .i64 q.hi, .slice p q.cs.length cc, .string D, .int .i64 q.cl] _ (new_rangeb _ _ _) Tryd.underlying87 rfl rowInfo ?_))
    refine (right_any q.head M D q.kind q.lo q.hi q.cl p cc q.cs V r _ hs hcl hst' hq').mono ?_
    rintro e w3 ⟨rfl, k3⟩
    have k3' := Lib.hid k3; clear k3
    go_wp2
    go_ret
    exact ⟨rfl, ((((Keeps.refl _ _).alloc _).trans k2'.out).alloc _).trans k3'.out⟩
end Go.Proofs.YtljfeefhlbgopaaDoor
