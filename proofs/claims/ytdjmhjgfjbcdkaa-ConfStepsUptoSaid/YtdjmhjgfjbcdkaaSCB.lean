/- Numbers, addresses and nets, as plain lists of bytes. -/
import Derived.Test.YtdjmhjgfjbcdkaaSCA
namespace Go.Proofs.Ytdjmhjgfjbcdkaa

def digB (c : UInt8) : Bool := decide (48 ≤ c.toNat ∧ c.toNat ≤ 57)
def decVal (l : List UInt8) : Nat := l.foldl (fun n c => n * 10 + (c.toNat - 48)) 0
theorem decVal_snoc (l : List UInt8) (c : UInt8) : decVal (l ++ [c]) = decVal l * 10 + (c.toNat - 48) := by unfold decVal; rw [List.foldl_append]; rfl
theorem decVal_lt (n : Nat) : ∀ l : List UInt8, l.length = n → l.all digB = true → decVal l < 10 ^ n := by
  induction n with
  | zero => intro l hl _; have : l = [] := List.eq_nil_of_length_eq_zero hl; subst this; simp [decVal]
  | succ n ih =>
    intro l hl ha
    have hne : l ≠ [] := by rintro rfl; simp at hl
    have e := List.dropLast_concat_getLast hne
    rw [← e] at ha ⊢
    rw [List.all_append] at ha
    simp only [Bool.and_eq_true] at ha
    have h1 := ih l.dropLast (by simp [hl]) ha.1
    have h2 : digB (l.getLast hne) = true := by simpa using ha.2
    unfold digB at h2
    rw [decide_eq_true_eq] at h2
    rw [decVal_snoc, Nat.pow_succ]; omega
/-- may this be a number: its length, and no needless nought -/
def decShape (l : List UInt8) : Bool := decide (1 ≤ l.length ∧ l.length ≤ 9 ∧ ¬ (1 < l.length ∧ l.head? = some 48))
def decL (l : List UInt8) : Option Nat := if decShape l && l.all digB then some (decVal l) else none
theorem decL_lt {l : List UInt8} {n : Nat} (h : decL l = some n) : n < 1000000000 := by
  unfold decL at h
  split at h
  · rename_i h'
    simp only [Bool.and_eq_true] at h'
    have h1 := decVal_lt _ l rfl h'.2
    have h2 : l.length ≤ 9 := by have := h'.1; unfold decShape at this; rw [decide_eq_true_eq] at this; exact this.2.1
    injection h with h; subst h
    have : (10 : Nat) ^ l.length ≤ 10 ^ 9 := Nat.pow_le_pow_right (by omega) h2
    omega
  · cases h
theorem decL_digs {l : List UInt8} {n : Nat} (h : decL l = some n) : l.all digB = true := by
  unfold decL at h
  split at h
  · rename_i h'; simp only [Bool.and_eq_true] at h'; exact h'.2
  · cases h
theorem decL_no {l : List UInt8} {n : Nat} (h : decL l = some n) {c : UInt8} (hc : digB c = false) : c ∉ l := by
  intro hm
  have := List.all_eq_true.1 (decL_digs h) c hm
  rw [hc] at this; cases this

/-- the parts of a text at a sign -/
def partsL (c : UInt8) : List UInt8 → List (List UInt8)
  | [] => [[]]
  | b :: l => if b = c then [] :: partsL c l else match partsL c l with
    | p :: ps => (b :: p) :: ps
    | [] => [[b]]
theorem partsL_ne (c : UInt8) (l : List UInt8) : partsL c l ≠ [] := by
  cases l with
  | nil => simp [partsL]
  | cons b l =>
    unfold partsL
    split
    · simp
    · split <;> simp
theorem before_cons_ne {c b : UInt8} {l : List UInt8} (h : b ≠ c) : before c (b :: l) = before c l + 1 := by
  unfold before; rw [List.takeWhile_cons, if_pos (by simpa using h)]; rfl
theorem before_cons_eq {c : UInt8} {l : List UInt8} : before c (c :: l) = 0 := by
  unfold before; rw [List.takeWhile_cons, if_neg (by simp)]; rfl
theorem partsL_no {c : UInt8} {l : List UInt8} (h : c ∉ l) : partsL c l = [l] := by
  induction l with
  | nil => rfl
  | cons b l ih =>
    have hb : b ≠ c := by rintro rfl; exact h (by simp)
    have hl : c ∉ l := fun m => h (by simp [m])
    unfold partsL
    rw [if_neg hb, ih hl]
theorem partsL_yes {c : UInt8} {l : List UInt8} (h : c ∈ l) : partsL c l = l.take (before c l) :: partsL c (l.drop (before c l + 1)) := by
  induction l with
  | nil => cases h
  | cons b l ih =>
    by_cases hb : b = c
    · subst hb
      rw [before_cons_eq]
      simp [partsL]
    · have hl : c ∈ l := by rcases List.mem_cons.1 h with h | h; exact (hb h.symm).elim; exact h
      rw [before_cons_ne hb, show partsL c (b :: l) = (if b = c then [] :: partsL c l else match partsL c l with
        | p :: ps => (b :: p) :: ps
        | [] => [[b]]) from rfl, if_neg hb, ih hl]
      simp
/-- the parts of a text with one byte more -/
def pushLast (b : UInt8) : List (List UInt8) → List (List UInt8)
  | [] => [[b]]
  | [p] => [p ++ [b]]
  | p :: q :: ps => p :: pushLast b (q :: ps)
theorem pushLast_snoc (b : UInt8) (ps : List (List UInt8)) (p : List UInt8) : pushLast b (ps ++ [p]) = ps ++ [p ++ [b]] := by
  induction ps with
  | nil => rfl
  | cons q ps ih =>
    cases ps with
    | nil => rfl
    | cons r ps => show q :: pushLast b (r :: ps ++ [p]) = _; rw [ih]; rfl
theorem partsL_snoc (c b : UInt8) (l : List UInt8) : partsL c (l ++ [b]) = if b = c then partsL c l ++ [[]] else pushLast b (partsL c l) := by
  induction l with
  | nil =>
    by_cases h : b = c
    · subst h; simp [partsL]
    · simp [partsL, h, pushLast]
  | cons a l ih =>
    rw [List.cons_append]
    have hne := partsL_ne c l
    by_cases ha : a = c
    · subst ha
      unfold partsL
      rw [if_pos rfl, if_pos rfl, ih]
      by_cases h : b = a
      · rw [if_pos h, if_pos h]; rfl
      · rw [if_neg h, if_neg h]
        cases hp : partsL a l with
        | nil => exact (hne hp).elim
        | cons p ps => rfl
    · unfold partsL
      rw [if_neg ha, if_neg ha, ih]
      cases hp : partsL c l with
      | nil => exact (hne hp).elim
      | cons p ps =>
        by_cases h : b = c
        · rw [if_pos h, if_pos h]; rfl
        · rw [if_neg h, if_neg h]
          cases ps with
          | nil => rfl
          | cons q ps => rfl

/-- a number of parts, each from 0 to 255 -/
def foldParts (n : Nat) : List (List UInt8) → Option Nat
  | [] => some n
  | p :: ps => match decL p with
    | some b => if b ≤ 255 then foldParts (n * 256 + b) ps else none
    | none => none
/-- as the code reads it: k parts are to come -/
def addrGo : Nat → Nat → List UInt8 → Option Nat
  | 0, n, _ => some n
  | k + 1, n, s => match decL (if 46 ∈ s then s.take (before 46 s) else s) with
    | some b => if b ≤ 255 ∧ (46 ∈ s ↔ k ≠ 0) then addrGo k (n * 256 + b) (if 46 ∈ s then s.drop (before 46 s + 1) else []) else none
    | none => none
def addrL (l : List UInt8) : Option Nat := addrGo 4 0 l
theorem addrGo_yes {k n : Nat} {s : List UInt8} (h : 46 ∈ s) : addrGo (k + 1) n s = match decL (s.take (before 46 s)) with
    | some b => if b ≤ 255 ∧ k ≠ 0 then addrGo k (n * 256 + b) (s.drop (before 46 s + 1)) else none
    | none => none := by
  rw [addrGo]; simp only [h, if_true, true_iff]
theorem addrGo_no {k n : Nat} {s : List UInt8} (h : 46 ∉ s) : addrGo (k + 1) n s = match decL s with
    | some b => if b ≤ 255 ∧ k = 0 then addrGo k (n * 256 + b) [] else none
    | none => none := by
  rw [addrGo]; simp only [h, if_false, false_iff, Decidable.not_not]
theorem addrGo_eq (k : Nat) : ∀ (n : Nat) (s : List UInt8), addrGo (k + 1) n s = if (partsL 46 s).length = k + 1 then foldParts n (partsL 46 s) else none := by
  induction k with
  | zero =>
    intro n s
    by_cases h : 46 ∈ s
    · have e := partsL_yes h
      have hne := partsL_ne 46 (s.drop (before 46 s + 1))
      have hl : (partsL 46 s).length ≠ 0 + 1 := by
        rw [e]; cases hq : partsL 46 (s.drop (before 46 s + 1)) with | nil => exact (hne hq).elim | cons => simp
      rw [addrGo_yes h, if_neg hl]
      cases decL (s.take (before 46 s)) <;> simp
    · rw [addrGo_no h, partsL_no h, if_pos (by simp)]
      cases hd : decL s <;> simp [foldParts, hd, addrGo]
  | succ k ih =>
    intro n s
    by_cases h : 46 ∈ s
    · have e := partsL_yes h
      rw [addrGo_yes h, e]
      cases hd : decL (s.take (before 46 s)) with
      | none => simp [foldParts, hd]
      | some b =>
        simp only [foldParts, hd, List.length_cons]
        by_cases hb : b ≤ 255
        · rw [if_pos ⟨hb, by omega⟩, if_pos hb, ih]
          by_cases hl : (partsL 46 (s.drop (before 46 s + 1))).length = k + 1
          · rw [if_pos hl, if_pos (by omega)]
          · rw [if_neg hl, if_neg (by omega)]
        · rw [if_neg (fun x => hb x.1), if_neg hb]; simp
    · rw [addrGo_no h, partsL_no h, if_neg (by simp)]
      cases decL s <;> simp
theorem addrL_eq (l : List UInt8) : addrL l = if (partsL 46 l).length = 4 then foldParts 0 (partsL 46 l) else none := addrGo_eq 3 0 l
theorem foldParts_lt : ∀ (ps : List (List UInt8)) (n m : Nat), foldParts n ps = some m → m < (n + 1) * 256 ^ ps.length := by
  intro ps
  induction ps with
  | nil => intro n m h; simp [foldParts] at h; subst h; simp
  | cons p ps ih =>
    intro n m h
    unfold foldParts at h
    cases hd : decL p with
    | none => rw [hd] at h; cases h
    | some b =>
      rw [hd] at h
      simp only at h
      split at h
      · have := ih _ _ h
        refine Nat.lt_of_lt_of_le this ?_
        rw [List.length_cons, Nat.pow_succ, Nat.mul_comm (256 ^ ps.length), ← Nat.mul_assoc]
        exact Nat.mul_le_mul_right _ (by omega)
      · cases h
theorem addrL_lt {l : List UInt8} {n : Nat} (h : addrL l = some n) : n < 4294967296 := by
  rw [addrL_eq] at h
  split at h
  · rename_i hl
    have h1 := foldParts_lt _ _ _ h
    have h2 : (0 + 1) * 256 ^ (partsL 46 l).length = 4294967296 := by rw [hl]
    rw [h2] at h1
    exact h1
  · cases h

/-- an address and a length -/
def netL (l : List UInt8) : Option (Nat × Nat) :=
  if 47 ∈ l then match addrL (l.take (before 47 l)), decL (l.drop (before 47 l + 1)) with
    | some a, some n => if 1 ≤ n ∧ n ≤ 32 then some (a, n) else none
    | _, _ => none
  else none
/-- as the document reads it -/
def netParts : List (List UInt8) → Option (Nat × Nat)
  | [p, q] => match addrL p, decL q with
    | some a, some n => if 1 ≤ n ∧ n ≤ 32 then some (a, n) else none
    | _, _ => none
  | _ => none
theorem netL_eq (l : List UInt8) : netL l = netParts (partsL 47 l) := by
  unfold netL
  by_cases h : 47 ∈ l
  · rw [if_pos h, partsL_yes h]
    by_cases h2 : 47 ∈ l.drop (before 47 l + 1)
    · have hd : decL (l.drop (before 47 l + 1)) = none := by
        cases hd : decL (l.drop (before 47 l + 1)) with
        | none => rfl
        | some n => exact (decL_no hd (c := 47) (by decide) h2).elim
      rw [hd, partsL_yes h2]
      have hne := partsL_ne 47 ((l.drop (before 47 l + 1)).drop (before 47 (l.drop (before 47 l + 1)) + 1))
      cases hq : partsL 47 ((l.drop (before 47 l + 1)).drop (before 47 (l.drop (before 47 l + 1)) + 1)) with
      | nil => exact (hne hq).elim
      | cons a b => cases addrL (l.take (before 47 l)) <;> rfl
    · rw [partsL_no h2]; rfl
  · rw [if_neg h, partsL_no h]; rfl
end Go.Proofs.Ytdjmhjgfjbcdkaa
