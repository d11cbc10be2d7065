/- Words of a text, as plain lists of bytes. -/
namespace Go.Proofs.Ytdjmhjgfjbcdkaa

def blankB (c : UInt8) : Bool := c == 32 || c == 9 || c == 10
def signB (c : UInt8) : Bool := c == 123 || c == 125 || c == 59
def wordB (c : UInt8) : Bool := (97 ≤ c && c ≤ 122) || (65 ≤ c && c ≤ 90) || (48 ≤ c && c ≤ 57) || c == 46 || c == 47 || c == 45 || c == 95
/-- how many bytes of a word stand ahead -/
def wlen (l : List UInt8) : Nat := (l.takeWhile wordB).length
/-- how many bytes stand ahead of a line's end -/
def clen (l : List UInt8) : Nat := (l.takeWhile (fun c => c != 10)).length

theorem wlen_le (l : List UInt8) : wlen l ≤ l.length := (List.takeWhile_sublist _).length_le
theorem clen_le (l : List UInt8) : clen l ≤ l.length := (List.takeWhile_sublist _).length_le

/-- words, or how many bytes are left at the first that can't stand there -/
inductive LexR where
  | ok (l : List (List UInt8))
  | bad (rest : Nat)
def LexR.app (xs : List (List UInt8)) : LexR → LexR
  | .ok l => .ok (xs ++ l)
  | .bad n => .bad n
theorem LexR.app_nil (r : LexR) : r.app [] = r := by cases r <;> rfl
theorem LexR.app_app (xs ys : List (List UInt8)) (r : LexR) : (r.app ys).app xs = r.app (xs ++ ys) := by cases r <;> simp [LexR.app]

def lexL : List UInt8 → LexR
  | [] => .ok []
  | c :: r =>
    if blankB c then lexL r
    else if c = 35 then lexL (r.drop (clen r))
    else if signB c then (lexL r).app [[c]]
    else if h : 1 ≤ wlen (c :: r) ∧ wlen (c :: r) ≤ 31 then (lexL ((c :: r).drop (wlen (c :: r)))).app [(c :: r).take (wlen (c :: r))]
    else .bad (r.length + 1)
termination_by l => l.length
decreasing_by
  all_goals simp
  all_goals omega

theorem lexL_nil : lexL [] = .ok [] := by rw [lexL]
theorem lexL_blank {c : UInt8} {r : List UInt8} (h : blankB c = true) : lexL (c :: r) = lexL r := by rw [lexL, if_pos h]
theorem lexL_hash {r : List UInt8} : lexL (35 :: r) = lexL (r.drop (clen r)) := by rw [lexL, if_neg (by decide), if_pos rfl]
theorem lexL_sign {c : UInt8} {r : List UInt8} (h : signB c = true) : lexL (c :: r) = (lexL r).app [[c]] := by
  have e : c = 123 ∨ c = 125 ∨ c = 59 := by simpa [signB, or_assoc] using h
  rw [lexL, if_neg (by rcases e with rfl | rfl | rfl <;> decide), if_neg (by rcases e with rfl | rfl | rfl <;> decide), if_pos h]
theorem lexL_word {c : UInt8} {r : List UInt8} (h1 : blankB c = false) (h2 : c ≠ 35) (h3 : signB c = false) (h : 1 ≤ wlen (c :: r)) (h' : wlen (c :: r) ≤ 31) :
    lexL (c :: r) = (lexL ((c :: r).drop (wlen (c :: r)))).app [(c :: r).take (wlen (c :: r))] := by
  rw [lexL, if_neg (by simp [h1]), if_neg h2, if_neg (by simp [h3]), dif_pos ⟨h, h'⟩]
theorem lexL_bad {c : UInt8} {r : List UInt8} (h1 : blankB c = false) (h2 : c ≠ 35) (h3 : signB c = false) (h : ¬ (1 ≤ wlen (c :: r) ∧ wlen (c :: r) ≤ 31)) :
    lexL (c :: r) = .bad (r.length + 1) := by
  rw [lexL, if_neg (by simp [h1]), if_neg h2, if_neg (by simp [h3]), dif_neg h]

theorem wordB_kind {c : UInt8} (h : wordB c = true) : blankB c = false ∧ c ≠ 35 ∧ signB c = false := by
  have key : ∀ n : Nat, n < 256 → wordB (UInt8.ofNat n) = true → blankB (UInt8.ofNat n) = false ∧ UInt8.ofNat n ≠ 35 ∧ signB (UInt8.ofNat n) = false := by decide +kernel
  have := key c.toNat c.toNat_lt
  rw [UInt8.ofNat_toNat] at this
  exact this h
theorem wlen_cons {c : UInt8} {r : List UInt8} (h : wordB c = true) : wlen (c :: r) = wlen r + 1 := by unfold wlen; rw [List.takeWhile_cons, if_pos h]; rfl
theorem wlen_cons_no {c : UInt8} {r : List UInt8} (h : wordB c = false) : wlen (c :: r) = 0 := by unfold wlen; rw [List.takeWhile_cons, if_neg (by simp [h])]; rfl
theorem clen_cons {c : UInt8} {r : List UInt8} (h : c ≠ 10) : clen (c :: r) = clen r + 1 := by unfold clen; rw [List.takeWhile_cons, if_pos (by simpa using h)]; rfl
theorem clen_cons_no {r : List UInt8} : clen (10 :: r) = 0 := by unfold clen; rw [List.takeWhile_cons, if_neg (by simp)]; rfl

/-- what lex.Words answers -/
def lexWords (t : List UInt8) : List (List UInt8) × Nat × Nat :=
  match lexL t with
  | .ok l => (l, t.length, 0)
  | .bad n => ([], t.length - n, 3)
/-- what lex.IsWord answers -/
def isWordB (s : List UInt8) : Bool := decide (1 ≤ s.length ∧ s.length ≤ 31) && s.all wordB

theorem all_of_wlen {s : List UInt8} (h : wlen s = s.length) : s.all wordB = true := by
  induction s with
  | nil => rfl
  | cons c r ih =>
    by_cases hc : wordB c = true
    · rw [wlen_cons hc] at h; simp at h; simp [hc, ih h]
    · rw [wlen_cons_no (by simpa using hc)] at h; simp at h
theorem wlen_of_all {s : List UInt8} (h : s.all wordB = true) (r : List UInt8) : wlen (s ++ r) = s.length + wlen r := by
  induction s with
  | nil => simp
  | cons c s ih =>
    simp only [List.all_cons, Bool.and_eq_true] at h
    rw [List.cons_append, wlen_cons h.1, ih h.2]; simp; omega
theorem isWord_iff {s : List UInt8} : isWordB s = decide (1 ≤ s.length ∧ s.length ≤ 31 ∧ wlen s = s.length) := by
  unfold isWordB
  rw [Bool.eq_iff_iff]
  simp only [Bool.and_eq_true, decide_eq_true_eq]
  constructor
  · rintro ⟨⟨h1, h2⟩, h3⟩
    have := wlen_of_all h3 []
    simp [wlen] at this
    exact ⟨h1, h2, by unfold wlen; simpa using this⟩
  · rintro ⟨h1, h2, h3⟩
    exact ⟨⟨h1, h2⟩, all_of_wlen h3⟩

/-- the bytes of words together -/
def total (l : List (List UInt8)) : Nat := (l.map List.length).sum
theorem lexL_total : ∀ (n : Nat) (t : List UInt8), t.length ≤ n → ∀ l, lexL t = .ok l → total l ≤ t.length ∧ ∀ w ∈ l, (isWordB w = true ∨ ∃ c, w = [c] ∧ signB c = true) := by
  intro n
  induction n with
  | zero =>
    intro t ht l hl
    have : t = [] := List.eq_nil_of_length_eq_zero (by omega)
    subst this
    rw [lexL_nil] at hl
    injection hl with hl; subst hl
    simp [total]
  | succ n ih =>
    intro t ht l hl
    cases t with
    | nil =>
      rw [lexL_nil] at hl
      injection hl with hl; subst hl
      simp [total]
    | cons c r =>
      simp only [List.length_cons] at ht
      by_cases hb : blankB c = true
      · rw [lexL_blank hb] at hl
        have := ih r (by omega) l hl
        simp only [List.length_cons]
        exact ⟨by omega, this.2⟩
      have hb' : blankB c = false := by simpa using hb
      by_cases hc : c = 35
      · subst hc
        rw [lexL_hash] at hl
        have := ih _ (by simp; omega) l hl
        simp only [List.length_drop] at this
        simp only [List.length_cons]
        exact ⟨by omega, this.2⟩
      by_cases hs : signB c = true
      · rw [lexL_sign hs] at hl
        cases hr : lexL r with
        | bad m => rw [hr] at hl; simp [LexR.app] at hl
        | ok l' =>
          rw [hr] at hl
          simp only [LexR.app, LexR.ok.injEq] at hl
          subst hl
          have := ih r (by omega) l' hr
          simp only [List.length_cons, List.singleton_append, total, List.map_cons, List.sum_cons, List.length_nil] at *
          refine ⟨by omega, fun w hw => ?_⟩
          rcases List.mem_cons.1 hw with rfl | hw
          · exact .inr ⟨c, rfl, hs⟩
          · exact this.2 w hw
      have hs' : signB c = false := by simpa using hs
      by_cases hw : 1 ≤ wlen (c :: r) ∧ wlen (c :: r) ≤ 31
      · rw [lexL_word hb' hc hs' hw.1 hw.2] at hl
        have hle := wlen_le (c :: r)
        cases hr : lexL ((c :: r).drop (wlen (c :: r))) with
        | bad m => rw [hr] at hl; simp [LexR.app] at hl
        | ok l' =>
          rw [hr] at hl
          simp only [LexR.app, LexR.ok.injEq] at hl
          have := ih _ (by simp only [List.length_drop, List.length_cons]; omega) l' hr
          have htk : ((c :: r).take (wlen (c :: r))).length = wlen (c :: r) := by rw [List.length_take]; omega
          subst hl
          simp only [List.length_drop] at this
          simp only [List.singleton_append, total, List.map_cons, List.sum_cons] at *
          refine ⟨by omega, fun w hw2 => ?_⟩
          rcases List.mem_cons.1 hw2 with rfl | hw2
          · left
            have e : (c :: r).take (wlen (c :: r)) = (c :: r).takeWhile wordB := by
              exact (List.prefix_iff_eq_take.1 (List.takeWhile_prefix _)).symm
            unfold isWordB
            rw [htk]
            simp only [Bool.and_eq_true, decide_eq_true_eq]
            refine ⟨hw, ?_⟩
            rw [e]
            exact List.all_takeWhile
          · exact this.2 w hw2
      · rw [lexL_bad hb' hc hs' hw] at hl
        cases hl

theorem lexL_isWord {s : List UInt8} (h : isWordB s = true) (r : List UInt8) (hr : wlen r = 0) : lexL (s ++ r) = (lexL r).app [s] := by
  have h' := h
  rw [isWord_iff, decide_eq_true_eq] at h'
  unfold isWordB at h
  simp only [Bool.and_eq_true] at h
  have hw := wlen_of_all h.2 r
  cases s with
  | nil => simp at h'
  | cons c s =>
    have hc : wordB c = true := by have := h.2; simp only [List.all_cons, Bool.and_eq_true] at this; exact this.1
    obtain ⟨k1, k2, k3⟩ := wordB_kind hc
    rw [hr, Nat.add_zero] at hw
    rw [List.cons_append] at hw ⊢
    rw [lexL_word k1 k2 k3 (by rw [hw]; exact h'.1) (by rw [hw]; exact h'.2.1), hw, ← List.cons_append]
    rw [List.drop_left, List.take_left]
theorem lexL_one {s : List UInt8} : (lexL s = .ok [s] ∧ ∀ c, s = [c] → signB c = false) ↔ isWordB s = true := by
  constructor
  · rintro ⟨h, hn⟩
    have := (lexL_total s.length s (Nat.le_refl _) _ h).2 s (by simp)
    rcases this with h1 | ⟨c, rfl, h2⟩
    · exact h1
    · rw [hn c rfl] at h2; cases h2
  · intro h
    refine ⟨?_, ?_⟩
    · have := lexL_isWord h [] rfl
      rw [List.append_nil, lexL_nil] at this
      exact this
    · rintro c rfl
      unfold isWordB at h
      simp only [Bool.and_eq_true, List.all_cons] at h
      exact (wordB_kind h.2.1).2.2

/-- words with a blank ahead of each -/
def spaced (l : List (List UInt8)) : List UInt8 := (l.map fun w => 32 :: w).flatten
theorem spaced_cons (w : List UInt8) (l : List (List UInt8)) : spaced (w :: l) = 32 :: (w ++ spaced l) := by simp [spaced]
theorem spaced_snoc (l : List (List UInt8)) (w : List UInt8) : spaced (l ++ [w]) = spaced l ++ 32 :: w := by simp [spaced]
theorem wlen_spaced (l : List (List UInt8)) : wlen (spaced l) = 0 := by
  cases l with
  | nil => rfl
  | cons w l => rw [spaced_cons]; exact wlen_cons_no (by decide)
theorem lexL_spaced (l : List (List UInt8)) (h : ∀ w ∈ l, isWordB w = true ∨ ∃ c, w = [c] ∧ signB c = true) : lexL (spaced l) = .ok l := by
  induction l with
  | nil => exact lexL_nil
  | cons w l ih =>
    have ih := ih (fun x hx => h x (List.mem_cons_of_mem _ hx))
    rw [spaced_cons, lexL_blank (by decide)]
    rcases h w (by simp) with h1 | ⟨c, rfl, h2⟩
    · rw [lexL_isWord h1 _ (wlen_spaced l), ih]; rfl
    · rw [List.singleton_append, lexL_sign h2, ih]; rfl

/-- the document's row of bytes that may stand in a word -/
def wordRow : List UInt8 := "abcdefghijklmnopqrstuvwxyzABCDEFGHIJKLMNOPQRSTUVWXYZ0123456789./-_".toUTF8.data.toList
theorem wordRow_has (c : UInt8) : wordRow.contains c = wordB c := by
  have key : ∀ n : Nat, n < 256 → wordRow.contains (UInt8.ofNat n) = wordB (UInt8.ofNat n) := by decide +kernel
  have := key c.toNat c.toNat_lt
  rwa [UInt8.ofNat_toNat] at this
end Go.Proofs.Ytdjmhjgfjbcdkaa
