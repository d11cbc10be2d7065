/- Words of a text, as plain lists of bytes. -/
import Derived.Test.YtialookpnoaogaaGreatZZ01
import Derived.WalkLawsBesides
import Derived.Lib.Strings
import Derived.Test.YtialookpnoaogaaGreatZZ04
import Derived.Lib.Bytealg
import Derived.Laws.Externs
import Derived.Deep.Draws
set_option linter.unusedVariables false
set_option linter.unusedSimpArgs false
namespace Go.Proofs.YtialookpnoaogaaGreat

def blankB (c : UInt8) : Bool := c == 32 || c == 9 || c == 10
def signB (c : UInt8) : Bool := c == 123 || c == 125 || c == 59
def wordB (c : UInt8) : Bool := (97 ≤ c && c ≤ 122) || (65 ≤ c && c ≤ 90) || (48 ≤ c && c ≤ 57) || c == 46 || c == 47 || c == 45 || c == 95
/-- how many bytes of a word stand ahead -/
def wlen (l : List UInt8) : Nat := (l.takeWhile wordB).length
/-- how many bytes stand ahead of a line's end -/
def clen (l : List UInt8) : Nat := (l.takeWhile (fun c => c != 10)).length

theorem wlen_le (l : List UInt8) : wlen l ≤ l.length := (List.takeWhile_sublist _).length_le
theorem clen_le (l : List UInt8) : clen l ≤ l.length := (List.takeWhile_sublist _).length_le

/-- words, or how many bytes are left at the first that can't stand there -/
inductive LexR where
  | ok (l : List (List UInt8))
  | bad (rest : Nat)
def LexR.app (xs : List (List UInt8)) : LexR → LexR
  | .ok l => .ok (xs ++ l)
  | .bad n => .bad n
theorem LexR.app_nil (r : LexR) : r.app [] = r := by cases r <;> rfl
theorem LexR.app_app (xs ys : List (List UInt8)) (r : LexR) : (r.app ys).app xs = r.app (xs ++ ys) := by cases r <;> simp [LexR.app]

def lexL : List UInt8 → LexR
  | [] => .ok []
  | c :: r =>
    if blankB c then lexL r
    else if c = 35 then lexL (r.drop (clen r))
    else if signB c then (lexL r).app [[c]]
    else if h : 1 ≤ wlen (c :: r) ∧ wlen (c :: r) ≤ 31 then (lexL ((c :: r).drop (wlen (c :: r)))).app [(c :: r).take (wlen (c :: r))]
    else .bad (r.length + 1)
termination_by l => l.length
decreasing_by
  all_goals simp
  all_goals omega

theorem lexL_nil : lexL [] = .ok [] := by rw [lexL]
theorem lexL_blank {c : UInt8} {r : List UInt8} (h : blankB c = true) : lexL (c :: r) = lexL r := by rw [lexL, if_pos h]
theorem lexL_hash {r : List UInt8} : lexL (35 :: r) = lexL (r.drop (clen r)) := by rw [lexL, if_neg (by decide), if_pos rfl]
theorem lexL_sign {c : UInt8} {r : List UInt8} (h : signB c = true) : lexL (c :: r) = (lexL r).app [[c]] := by
  have e : c = 123 ∨ c = 125 ∨ c = 59 := by simpa [signB, or_assoc] using h
  rw [lexL, if_neg (by rcases e with rfl | rfl | rfl <;> decide), if_neg (by rcases e with rfl | rfl | rfl <;> decide), if_pos h]
theorem lexL_word {c : UInt8} {r : List UInt8} (h1 : blankB c = false) (h2 : c ≠ 35) (h3 : signB c = false) (h : 1 ≤ wlen (c :: r)) (h' : wlen (c :: r) ≤ 31) :
    lexL (c :: r) = (lexL ((c :: r).drop (wlen (c :: r)))).app [(c :: r).take (wlen (c :: r))] := by
  rw [lexL, if_neg (by simp [h1]), if_neg h2, if_neg (by simp [h3]), dif_pos ⟨h, h'⟩]
theorem lexL_bad {c : UInt8} {r : List UInt8} (h1 : blankB c = false) (h2 : c ≠ 35) (h3 : signB c = false) (h : ¬ (1 ≤ wlen (c :: r) ∧ wlen (c :: r) ≤ 31)) :
    lexL (c :: r) = .bad (r.length + 1) := by
  rw [lexL, if_neg (by simp [h1]), if_neg h2, if_neg (by simp [h3]), dif_neg h]

theorem wordB_kind {c : UInt8} (h : wordB c = true) : blankB c = false ∧ c ≠ 35 ∧ signB c = false := by
  have key : ∀ n : Nat, n < 256 → wordB (UInt8.ofNat n) = true → blankB (UInt8.ofNat n) = false ∧ UInt8.ofNat n ≠ 35 ∧ signB (UInt8.ofNat n) = false := by decide +kernel
  have := key c.toNat c.toNat_lt
  rw [UInt8.ofNat_toNat] at this
  exact this h
theorem wlen_cons {c : UInt8} {r : List UInt8} (h : wordB c = true) : wlen (c :: r) = wlen r + 1 := by unfold wlen; rw [List.takeWhile_cons, if_pos h]; rfl
theorem wlen_cons_no {c : UInt8} {r : List UInt8} (h : wordB c = false) : wlen (c :: r) = 0 := by unfold wlen; rw [List.takeWhile_cons, if_neg (by simp [h])]; rfl
theorem clen_cons {c : UInt8} {r : List UInt8} (h : c ≠ 10) : clen (c :: r) = clen r + 1 := by unfold clen; rw [List.takeWhile_cons, if_pos (by simpa using h)]; rfl
theorem clen_cons_no {r : List UInt8} : clen (10 :: r) = 0 := by unfold clen; rw [List.takeWhile_cons, if_neg (by simp)]; rfl

/-- what lex.Words answers -/
def lexWords (t : List UInt8) : List (List UInt8) × Nat × Nat :=
  match lexL t with
  | .ok l => (l, t.length, 0)
  | .bad n => ([], t.length - n, 3)
/-- what lex.IsWord answers -/
def isWordB (s : List UInt8) : Bool := decide (1 ≤ s.length ∧ s.length ≤ 31) && s.all wordB

theorem all_of_wlen {s : List UInt8} (h : wlen s = s.length) : s.all wordB = true := by
  induction s with
  | nil => rfl
  | cons c r ih =>
    by_cases hc : wordB c = true
    · rw [wlen_cons hc] at h; simp at h; simp [hc, ih h]
    · rw [wlen_cons_no (by simpa using hc)] at h; simp at h
theorem wlen_of_all {s : List UInt8} (h : s.all wordB = true) (r : List UInt8) : wlen (s ++ r) = s.length + wlen r := by
  induction s with
  | nil => simp
  | cons c s ih =>
    simp only [List.all_cons, Bool.and_eq_true] at h
    rw [List.cons_append, wlen_cons h.1, ih h.2]; simp; omega
theorem isWord_iff {s : List UInt8} : isWordB s = decide (1 ≤ s.length ∧ s.length ≤ 31 ∧ wlen s = s.length) := by
  unfold isWordB
  rw [Bool.eq_iff_iff]
  simp only [Bool.and_eq_true, decide_eq_true_eq]
  constructor
  · rintro ⟨⟨h1, h2⟩, h3⟩
    have := wlen_of_all h3 []
    simp [wlen] at this
    exact ⟨h1, h2, by unfold wlen; simpa using this⟩
  · rintro ⟨h1, h2, h3⟩
    exact ⟨⟨h1, h2⟩, all_of_wlen h3⟩

/-- the bytes of words together -/
def total (l : List (List UInt8)) : Nat := (l.map List.length).sum
theorem lexL_total : ∀ (n : Nat) (t : List UInt8), t.length ≤ n → ∀ l, lexL t = .ok l → total l ≤ t.length ∧ ∀ w ∈ l, (isWordB w = true ∨ ∃ c, w = [c] ∧ signB c = true) := by
  intro n
  induction n with
  | zero =>
    intro t ht l hl
    have : t = [] := List.eq_nil_of_length_eq_zero (by omega)
    subst this
    rw [lexL_nil] at hl
    injection hl with hl; subst hl
    simp [total]
  | succ n ih =>
    intro t ht l hl
    cases t with
    | nil =>
      rw [lexL_nil] at hl
      injection hl with hl; subst hl
      simp [total]
    | cons c r =>
      simp only [List.length_cons] at ht
      by_cases hb : blankB c = true
      · rw [lexL_blank hb] at hl
        have := ih r (by omega) l hl
        simp only [List.length_cons]
        exact ⟨by omega, this.2⟩
      have hb' : blankB c = false := by simpa using hb
      by_cases hc : c = 35
      · subst hc
        rw [lexL_hash] at hl
        have := ih _ (by simp; omega) l hl
        simp only [List.length_drop] at this
        simp only [List.length_cons]
        exact ⟨by omega, this.2⟩
      by_cases hs : signB c = true
      · rw [lexL_sign hs] at hl
        cases hr : lexL r with
        | bad m => rw [hr] at hl; simp [LexR.app] at hl
        | ok l' =>
          rw [hr] at hl
          simp only [LexR.app, LexR.ok.injEq] at hl
          subst hl
          have := ih r (by omega) l' hr
          simp only [List.length_cons, List.singleton_append, total, List.map_cons, List.sum_cons, List.length_nil] at *
          refine ⟨by omega, fun w hw => ?_⟩
          rcases List.mem_cons.1 hw with rfl | hw
          · exact .inr ⟨c, rfl, hs⟩
          · exact this.2 w hw
      have hs' : signB c = false := by simpa using hs
      by_cases hw : 1 ≤ wlen (c :: r) ∧ wlen (c :: r) ≤ 31
      · rw [lexL_word hb' hc hs' hw.1 hw.2] at hl
        have hle := wlen_le (c :: r)
        cases hr : lexL ((c :: r).drop (wlen (c :: r))) with
        | bad m => rw [hr] at hl; simp [LexR.app] at hl
        | ok l' =>
          rw [hr] at hl
          simp only [LexR.app, LexR.ok.injEq] at hl
          have := ih _ (by simp only [List.length_drop, List.length_cons]; omega) l' hr
          have htk : ((c :: r).take (wlen (c :: r))).length = wlen (c :: r) := by rw [List.length_take]; omega
          subst hl
          simp only [List.length_drop] at this
          simp only [List.singleton_append, total, List.map_cons, List.sum_cons] at *
          refine ⟨by omega, fun w hw2 => ?_⟩
          rcases List.mem_cons.1 hw2 with rfl | hw2
          · left
            have e : (c :: r).take (wlen (c :: r)) = (c :: r).takeWhile wordB := by
              exact (List.prefix_iff_eq_take.1 (List.takeWhile_prefix _)).symm
            unfold isWordB
            rw [htk]
            simp only [Bool.and_eq_true, decide_eq_true_eq]
            refine ⟨hw, ?_⟩
            rw [e]
            exact List.all_takeWhile
          · exact this.2 w hw2
      · rw [lexL_bad hb' hc hs' hw] at hl
        cases hl

theorem lexL_isWord {s : List UInt8} (h : isWordB s = true) (r : List UInt8) (hr : wlen r = 0) : lexL (s ++ r) = (lexL r).app [s] := by
  have h' := h
  rw [isWord_iff, decide_eq_true_eq] at h'
  unfold isWordB at h
  simp only [Bool.and_eq_true] at h
  have hw := wlen_of_all h.2 r
  cases s with
  | nil => simp at h'
  | cons c s =>
    have hc : wordB c = true := by have := h.2; simp only [List.all_cons, Bool.and_eq_true] at this; exact this.1
    obtain ⟨k1, k2, k3⟩ := wordB_kind hc
    rw [hr, Nat.add_zero] at hw
    rw [List.cons_append] at hw ⊢
    rw [lexL_word k1 k2 k3 (by rw [hw]; exact h'.1) (by rw [hw]; exact h'.2.1), hw, ← List.cons_append]
    rw [List.drop_left, List.take_left]
theorem lexL_one {s : List UInt8} : (lexL s = .ok [s] ∧ ∀ c, s = [c] → signB c = false) ↔ isWordB s = true := by
  constructor
  · rintro ⟨h, hn⟩
    have := (lexL_total s.length s (Nat.le_refl _) _ h).2 s (by simp)
    rcases this with h1 | ⟨c, rfl, h2⟩
    · exact h1
    · rw [hn c rfl] at h2; cases h2
  · intro h
    refine ⟨?_, ?_⟩
    · have := lexL_isWord h [] rfl
      rw [List.append_nil, lexL_nil] at this
      exact this
    · rintro c rfl
      unfold isWordB at h
      simp only [Bool.and_eq_true, List.all_cons] at h
      exact (wordB_kind h.2.1).2.2

/-- words with a blank ahead of each -/
def spaced (l : List (List UInt8)) : List UInt8 := (l.map fun w => 32 :: w).flatten
theorem spaced_cons (w : List UInt8) (l : List (List UInt8)) : spaced (w :: l) = 32 :: (w ++ spaced l) := by simp [spaced]
theorem spaced_snoc (l : List (List UInt8)) (w : List UInt8) : spaced (l ++ [w]) = spaced l ++ 32 :: w := by simp [spaced]
theorem wlen_spaced (l : List (List UInt8)) : wlen (spaced l) = 0 := by
  cases l with
  | nil => rfl
  | cons w l => rw [spaced_cons]; exact wlen_cons_no (by decide)
theorem lexL_spaced (l : List (List UInt8)) (h : ∀ w ∈ l, isWordB w = true ∨ ∃ c, w = [c] ∧ signB c = true) : lexL (spaced l) = .ok l := by
  induction l with
  | nil => exact lexL_nil
  | cons w l ih =>
    have ih := ih (fun x hx => h x (List.mem_cons_of_mem _ hx))
    rw [spaced_cons, lexL_blank (by decide)]
    rcases h w (by simp) with h1 | ⟨c, rfl, h2⟩
    · rw [lexL_isWord h1 _ (wlen_spaced l), ih]; rfl
    · rw [List.singleton_append, lexL_sign h2, ih]; rfl

/-- the document's row of bytes that may stand in a word -/
def wordRow : List UInt8 := "abcdefghijklmnopqrstuvwxyzABCDEFGHIJKLMNOPQRSTUVWXYZ0123456789./-_".toUTF8.data.toList
theorem wordRow_has (c : UInt8) : wordRow.contains c = wordB c := by
  have key : ∀ n : Nat, n < 256 → wordRow.contains (UInt8.ofNat n) = wordB (UInt8.ofNat n) := by decide +kernel
  have := key c.toNat c.toNat_lt
  rwa [UInt8.ofNat_toNat] at this
end Go.Proofs.YtialookpnoaogaaGreat
/- lex: the small functions, and Words, as the code has them. -/
namespace Go.Proofs.YtialookpnoaogaaGreat
open Go.RowKit

theorem u8_eq (c : UInt8) (n : Nat) (hn : n < 256) : (c == UInt8.ofNat n) = decide (c.toNat = n) := by
  rw [Bool.eq_iff_iff]
  simp only [beq_iff_eq, decide_eq_true_eq]
  constructor
  · rintro rfl; simp; omega
  · rintro rfl; simp
theorem blank_dec (c : UInt8) : blankB c = decide (c.toNat = 32 ∨ c.toNat = 9 ∨ c.toNat = 10) := by
  unfold blankB
  rw [show (32 : UInt8) = UInt8.ofNat 32 from rfl, show (9 : UInt8) = UInt8.ofNat 9 from rfl, show (10 : UInt8) = UInt8.ofNat 10 from rfl, u8_eq _ _ (by omega), u8_eq _ _ (by omega), u8_eq _ _ (by omega)]
  simp [Bool.or_assoc]
theorem sign_dec (c : UInt8) : signB c = decide (c.toNat = 123 ∨ c.toNat = 125 ∨ c.toNat = 59) := by
  unfold signB
  rw [show (123 : UInt8) = UInt8.ofNat 123 from rfl, show (125 : UInt8) = UInt8.ofNat 125 from rfl, show (59 : UInt8) = UInt8.ofNat 59 from rfl, u8_eq _ _ (by omega), u8_eq _ _ (by omega), u8_eq _ _ (by omega)]
  simp [Bool.or_assoc]
theorem word_dec (c : UInt8) : wordB c = decide ((97 ≤ c.toNat ∧ c.toNat ≤ 122) ∨ (65 ≤ c.toNat ∧ c.toNat ≤ 90) ∨ (48 ≤ c.toNat ∧ c.toNat ≤ 57) ∨ c.toNat = 46 ∨ c.toNat = 47 ∨ c.toNat = 45 ∨ c.toNat = 95) := by
  have key : ∀ n : Nat, n < 256 → wordB (UInt8.ofNat n) = decide ((97 ≤ (UInt8.ofNat n).toNat ∧ (UInt8.ofNat n).toNat ≤ 122) ∨ (65 ≤ (UInt8.ofNat n).toNat ∧ (UInt8.ofNat n).toNat ≤ 90) ∨ (48 ≤ (UInt8.ofNat n).toNat ∧ (UInt8.ofNat n).toNat ≤ 57) ∨ (UInt8.ofNat n).toNat = 46 ∨ (UInt8.ofNat n).toNat = 47 ∨ (UInt8.ofNat n).toNat = 45 ∨ (UInt8.ofNat n).toNat = 95) := by decide +kernel
  have := key c.toNat c.toNat_lt
  rwa [UInt8.ofNat_toNat] at this

theorem fits_any (n : Int) (w : World) (h0 : 0 ≤ n) :
    Calls Tryz.prog 146 #[.int .i64 n] w fun e w' => e = .returned (.bool (decide (1 ≤ n ∧ n ≤ 31))) ∧ w = w' := by
  by_cases h1 : 1 ≤ n
  · by_cases h2 : n ≤ 31
    · have hr : decide (1 ≤ n ∧ n ≤ 31) = true := by simp; omega
      rw [hr]; clear hr
      go_enter Tryz.func146, Tryz.ntmps146
      go_wp2
      go_ret
      exact ⟨rfl, rfl⟩
    · have hr : decide (1 ≤ n ∧ n ≤ 31) = false := by simp; omega
      rw [hr]; clear hr
      go_enter Tryz.func146, Tryz.ntmps146
      go_wp2
      go_ret
      exact ⟨rfl, rfl⟩
  · obtain rfl : n = 0 := by omega
    go_enter Tryz.func146, Tryz.ntmps146
    go_wp2
    go_ret
    exact ⟨rfl, rfl⟩

def wordN (c : Nat) : Bool := decide ((97 ≤ c ∧ c ≤ 122) ∨ (65 ≤ c ∧ c ≤ 90) ∨ (48 ≤ c ∧ c ≤ 57) ∨ c = 46 ∨ c = 47 ∨ c = 45 ∨ c = 95)
theorem isOfWord_any (c : Nat) (w : World) (hc : c < 256) :
    Calls Tryz.prog 152 #[.int .u8 c] w fun e w' => e = .returned (.bool (wordN c)) ∧ w = w' := by
  rcases (show (97 ≤ c ∧ c ≤ 122) ∨ (65 ≤ c ∧ c ≤ 90) ∨ (48 ≤ c ∧ c ≤ 57) ∨ (c < 48 ∨ (57 < c ∧ c < 65) ∨ (90 < c ∧ c < 97) ∨ 122 < c) by omega) with ⟨h1, h2⟩ | ⟨h1, h2⟩ | ⟨h1, h2⟩ | h
  · have hr : wordN c = true := by unfold wordN; simp; omega
    rw [hr]; clear hr
    go_enter Tryz.func152, Tryz.ntmps152
    go_wp2
    go_ret
    exact ⟨rfl, rfl⟩
  · have hr : wordN c = true := by unfold wordN; simp; omega
    rw [hr]; clear hr
    go_enter Tryz.func152, Tryz.ntmps152
    go_wp2
    go_ret
    exact ⟨rfl, rfl⟩
  · have hr : wordN c = true := by unfold wordN; simp; omega
    rw [hr]; clear hr
    go_enter Tryz.func152, Tryz.ntmps152
    go_wp2
    go_ret
    exact ⟨rfl, rfl⟩
  · have hw : wordN c = decide (c = 46 ∨ c = 47 ∨ c = 45 ∨ c = 95) := by unfold wordN; rw [decide_eq_decide]; omega
    rw [hw]; clear hw
    rcases (show c = 46 ∨ c = 47 ∨ c = 45 ∨ c = 95 ∨ (c ≠ 46 ∧ c ≠ 47 ∧ c ≠ 45 ∧ c ≠ 95) by omega) with rfl | rfl | rfl | rfl | ⟨k1, k2, k3, k4⟩
    any_goals
      clear h
      go_enter Tryz.func152, Tryz.ntmps152
      go_wp2
      go_ret
      exact ⟨rfl, rfl⟩
    have d1 : ((c : Int) == 46) = false := by rw [beq_eq_false_iff_ne]; omega
    have d2 : ((c : Int) == 47) = false := by rw [beq_eq_false_iff_ne]; omega
    have d3 : ((c : Int) == 45) = false := by rw [beq_eq_false_iff_ne]; omega
    have d4 : ((c : Int) == 95) = false := by rw [beq_eq_false_iff_ne]; omega
    have hr : decide (c = 46 ∨ c = 47 ∨ c = 45 ∨ c = 95) = false := by simp; omega
    rw [hr]; clear hr k1 k2 k3 k4
    rcases h with h | ⟨h1, h2⟩ | ⟨h1, h2⟩ | h
    all_goals
      go_enter Tryz.func152, Tryz.ntmps152
      go_wp2
      go_ret
      exact ⟨rfl, rfl⟩

theorem wordN_eq (c : UInt8) : wordN c.toNat = wordB c := by rw [word_dec]; rfl
theorem isOfWord_r (c : UInt8) (r : Bool) (w : World) (hr : Hid (wordB c = r)) :
    Calls Tryz.prog 152 #[.int .u8 (c.toNat : Nat)] w fun e w' => e = .returned (.bool r) ∧ w = w' :=
  (isOfWord_any c.toNat w c.toNat_lt).mono fun e w' ⟨he, hw⟩ => ⟨by rw [he, wordN_eq, hr.out], hw⟩
theorem drop_at (s : ByteArray) (j : Nat) (h : j < s.size) : s.data.toList.drop j = s[j] :: s.data.toList.drop (j + 1) := by
  have hl : j < s.data.toList.length := by simpa using h
  rw [List.drop_eq_getElem_cons hl, Array.getElem_toList]; rfl
theorem drop_end (s : ByteArray) : s.data.toList.drop s.size = [] := List.drop_of_length_le (by simp)

theorem ret_nat {k : IntKind} {a b : Nat} (h : a = b) : Ending.returned (.int k (a : Int)) = .returned (.int k (b : Int)) := by rw [h]
/-- the place behind the word that begins at k -/
theorem wordEnd_any (s : ByteArray) (k r : Nat) (w : World) (hr : Hid (k + wlen (s.data.toList.drop k) = r)) (hs : s.size ≤ 9223372036854775807) (hk : k ≤ s.size) :
    Calls Tryz.prog 147 #[.string s, .int .i64 k] w fun e w' => e = .returned (.int .i64 (r : Nat)) ∧ w = w' := by
  go_enter Tryz.func147, Tryz.ntmps147
  go_wp2
  go_loop [1] (fun i => ∃ j : Nat, k ≤ j ∧ j ≤ s.size ∧ i = .int .i64 j ∧ Hid (j + wlen (s.data.toList.drop j) = r)) (fun i => s.size - (intOf i).toNat)
  case atStart => exact ⟨k, by omega, hk, rfl, hr⟩
  case round =>
    obtain ⟨j, hj1, hj2, rfl, hrel⟩ := hrel
    by_cases hlt : j < s.size
    · have hd := drop_at s j hlt
      by_cases hw : wordB s[j] = true
      · have hrel' : Hid (j + 1 + wlen (s.data.toList.drop (j + 1)) = r) := by
          have := hrel.out
          rw [hd, wlen_cons hw] at this
          exact Lib.hid (by omega)
        clear hrel hd
        have hN := Lib.hid hw; clear hw
        go_wp2_with (go_at_call 152; refine (isOfWord_r _ true _ hN).mono ?_; rintro e w' ⟨rfl, rfl⟩)
        go_round
        case rel => exact ⟨j + 1, by omega, by omega, by go_num, hrel'⟩
        case measure => simp [intOf]; omega
      · have hrel' : Hid (j = r) := by
          have := hrel.out
          rw [hd, wlen_cons_no (by simpa using hw)] at this
          exact Lib.hid (by omega)
        clear hrel hd
        have hN := Lib.hid (show wordB s[j] = false by simpa using hw); clear hw
        go_wp2_with (go_at_call 152; refine (isOfWord_r _ false _ hN).mono ?_; rintro e w' ⟨rfl, rfl⟩)
        go_ret
        exact ⟨ret_nat hrel'.out, rfl⟩
    · have hrel' : Hid (j = r) := by
        have := hrel.out
        obtain rfl : j = s.size := by omega
        rw [drop_end] at this
        exact Lib.hid (by simpa [wlen] using this)
      clear hrel
      go_wp2
      go_ret
      exact ⟨ret_nat hrel'.out, rfl⟩

end Go.Proofs.YtialookpnoaogaaGreat
/- lex.Words, walked. -/
namespace Go.Proofs.YtialookpnoaogaaGreat
open Go.RowKit

def strv (l : List UInt8) : Value := .string ⟨l.toArray⟩
theorem strv_one (xs : List (List UInt8)) : ∀ v ∈ xs.map strv, v.oneCell' = true := by
  intro v hv; obtain ⟨x, _, rfl⟩ := List.mem_map.1 hv; rfl
theorem strInfoAll : (Tryz.prog.info? 9).map (fun i => (i.zero, i.size, i.bytes)) = some (some (.string ⟨#[]⟩), 1, 16) := by kernel_rfl
theorem extract_strv (s : ByteArray) (a b : Nat) : Value.string (s.extract a b) = strv ((s.data.toList.drop a).take (b - a)) := by
  unfold strv; rw [Lib.extract_eq]

/-- a row of texts of the call's own: no older block is part of it -/
def OwnStrs (w0 w : World) (v : Value) (xs : List (List UInt8)) : Prop :=
  w.ownsRow 0 9 1 v xs.length (xs.map strv) ∧ ∀ k, v.ownBlock = some k → w0.heap.size ≤ k
theorem OwnStrs.nil (w0 w : World) : OwnStrs w0 w (.slice none 0 0) [] := ⟨⟨rfl, .inl ⟨rfl, rfl⟩⟩, by simp [Value.ownBlock]⟩
theorem OwnStrs.slice {w0 w : World} {v : Value} {xs : List (List UInt8)} (h : OwnStrs w0 w v xs) : ∃ p c, v = .slice p xs.length c := ownsRow_slice h.1
/-- what an append to it leaves -/
theorem OwnStrs.push {w0 wr wb w1 : World} {v : Value} {xs : List (List UInt8)} (h : OwnStrs w0 wr v xs) (x : List UInt8) {p : Option Addr} {c : Nat} (hk : Keeps (fun _ => False) w0 wb)
    (ho : wb.grownBy w1 v.ownBlock) (h2 : w1.ownsRow 0 9 1 (.slice p (xs.length + 1) c) (xs.length + 1) (xs.map strv ++ [strv x]))
    (hs : ∀ k, (Value.slice p (xs.length + 1) c).ownBlock = some k → v.ownBlock = some k ∨ wb.heap.size ≤ k) :
    OwnStrs w0 w1 (.slice p (xs.length + 1) c) (xs ++ [x]) ∧ Keeps (fun _ => False) w0 w1 := by
  refine ⟨⟨by simpa using h2, fun k e => ?_⟩, hk.grown ho (fun k e => .inr (h.2 k e))⟩
  rcases hs k e with e | e
  · exact h.2 k e
  · have := hk.size; omega

/-- what Words answers -/
def WordsPost (t : List UInt8) (w0 : World) (e : Ending) (w' : World) : Prop :=
  ∃ p c, e = .returned (.tuple #[.slice p (lexWords t).1.length c, .int .i64 ((lexWords t).2.1 : Nat), .int .i64 ((lexWords t).2.2 : Nat)]) ∧ OwnStrs w0 w' (.slice p (lexWords t).1.length c) (lexWords t).1 ∧ Keeps (fun _ => False) w0 w'

theorem WordsPost.good {t : List UInt8} {l : List (List UInt8)} (h : lexL t = .ok l) {n : Nat} (hn : n = t.length) {w0 w' : World} {v : Value} (ho : OwnStrs w0 w' v l) (hk : Keeps (fun _ => False) w0 w') :
    WordsPost t w0 (.returned (.tuple #[v, .int .i64 (n : Nat), .int .i64 0])) w' := by
  obtain ⟨p, c, rfl⟩ := ho.slice
  have e : lexWords t = (l, t.length, 0) := by unfold lexWords; rw [h]
  refine ⟨p, c, ?_, ?_, hk⟩
  · rw [e]; simp [hn]
  · rw [e]; exact ho
theorem WordsPost.bad {t : List UInt8} {m : Nat} (h : lexL t = .bad m) {n : Nat} (hn : n = t.length - m) {w0 w' : World} (hk : Keeps (fun _ => False) w0 w') :
    WordsPost t w0 (.returned (.tuple #[.slice none 0 0, .int .i64 (n : Nat), .int .i64 3])) w' := by
  have e : lexWords t = ([], t.length - m, 3) := by unfold lexWords; rw [h]
  refine ⟨none, 0, ?_, ?_, hk⟩
  · rw [e]; simp [hn]
  · rw [e]; exact OwnStrs.nil _ _

theorem fits_r (n : Int) (r : Bool) (w : World) (h0 : 0 ≤ n) (hr : Hid (decide (1 ≤ n ∧ n ≤ 31) = r)) :
    Calls Tryz.prog 146 #[.int .i64 n] w fun e w' => e = .returned (.bool r) ∧ w = w' :=
  (fits_any n w h0).mono fun e w' ⟨he, hw⟩ => ⟨by rw [he, hr.out], hw⟩
theorem lexL_hash' {c : UInt8} {r : List UInt8} (h : c = 35) : lexL (c :: r) = lexL (r.drop (clen r)) := by subst h; exact lexL_hash
end Go.Proofs.YtialookpnoaogaaGreat
/- Of adv: an interface's numbers, as it is set and as it stands. -/
set_option linter.unusedVariables false
set_option linter.unusedSimpArgs false
namespace Go.Proofs.YtialookpnoaogaaGreat
open Go.RowKit

theorem setInfo : (Tryz.prog.info? 45).map (·.size) = some 10 := by kernel_rfl
structure SetD where
  area : Nat
  addr : Nat
  mask : Nat
  cost : Nat
  hello : Nat
  dead : Nat
  again : Nat
  prio : Nat
  two : Bool
  auth : List UInt8
def setVals (s : SetD) : List Value := [.int .u32 s.area, .int .u32 s.addr, .int .u32 s.mask, .int .i64 s.cost, .int .i64 s.hello, .int .i64 s.dead, .int .i64 s.again, .int .i64 s.prio, .bool s.two, strv s.auth]
end Go.Proofs.YtialookpnoaogaaGreat
/- strings.Index, Contains, Cut at a separator of one byte. -/
namespace Go.Proofs.YtialookpnoaogaaGreat
open Go.RowKit

/-- how many bytes stand ahead of the first c -/
def before (c : UInt8) (l : List UInt8) : Nat := (l.takeWhile (fun x => x != c)).length
theorem before_le (c : UInt8) (l : List UInt8) : before c l ≤ l.length := (List.takeWhile_sublist _).length_le
theorem before_lt {c : UInt8} {l : List UInt8} (h : c ∈ l) : before c l < l.length := by
  induction l with
  | nil => cases h
  | cons b l ih =>
    unfold before
    rw [List.takeWhile_cons]
    by_cases e : b = c
    · subst e; simp
    · rw [if_pos (by simpa using e)]
      have := ih (by rcases List.mem_cons.1 h with h | h; exact (e h.symm).elim; exact h)
      unfold before at this
      simp; omega
theorem indexByte_eq (l : List UInt8) (c : UInt8) : Lib.indexByte l c = if c ∈ l then ((before c l : Nat) : Int) else -1 := by
  induction l with
  | nil => simp [Lib.indexByte]
  | cons b l ih =>
    unfold Lib.indexByte
    by_cases h : b = c
    · subst h; simp [before]
    · have h1 : (b == c) = false := by simpa using h
      rw [h1, ih]
      have hb : before c (b :: l) = before c l + 1 := by unfold before; rw [List.takeWhile_cons, if_pos (by simpa using h)]; rfl
      by_cases hm : c ∈ l
      · have : c ∈ b :: l := by simp [hm]
        rw [if_pos hm, if_pos this, hb]
        have : (((before c l : Nat) : Int) == -1) = false := by rw [beq_eq_false_iff_ne]; omega
        simp [this]
      · have : ¬ c ∈ b :: l := by simp [hm, Ne.symm h]
        rw [if_neg hm, if_neg this]; simp

set_option maxRecDepth 100000 in
theorem sliteIndexByte_any (s : ByteArray) (c : UInt8) (w : World) :
    Calls Tryz.prog 141 #[.string s, .int .u8 (c.toNat : Nat)] w fun e w' => e = .returned (.int .i64 (Lib.indexByte s.data.toList c)) ∧ w = w' := by
  have hc : ((c.toNat : Nat) : Int).toNat.toUInt8 = c := by simp
  have hc' := Lib.hid hc; clear hc
  go_enter Tryz.func141, Tryz.ntmps141
  go_wp2
  rw [run_callFunc_extern Tryz.func150 (by kernel_rfl) (by kernel_rfl) (by kernel_rfl) (e := Extern.BytealgIndexByte.indexByte) (by kernel_rfl), Lib.run_indexByteString, hc'.out]
  simp only [Result.andThen]
  rw [Oper.upon_value]
  go_wp2
  go_ret
  exact ⟨rfl, rfl⟩

set_option maxRecDepth 100000 in
set_option maxHeartbeats 1000000 in
theorem sliteIndex_one (s : ByteArray) (c : UInt8) (r : Int) (w : World) (hr : Hid (Lib.indexByte s.data.toList c = r)) :
    Calls Tryz.prog 131 #[.string s, .string ⟨#[c]⟩] w fun e w' => e = .returned (.int .i64 r) ∧ w = w' := by
  go_enter Tryz.func131, Tryz.ntmps131
  go_wp2_with (go_at_call 141; refine (sliteIndexByte_any s c _).mono ?_; rintro e w' ⟨rfl, rfl⟩)
  · have h : ([c] == s.toList) = true := by assumption
    have e : s.data.toList = [c] := by rw [← Lib.toList_data]; exact (beq_iff_eq.1 h).symm
    have hr0 : (0 : Int) = r := by rw [← hr.out, e]; simp [Lib.indexByte]
    go_ret
    exact ⟨ret_int hr0, rfl⟩
  · go_ret
    exact ⟨ret_int hr.out, rfl⟩
theorem stringsIndex_one (s : ByteArray) (c : UInt8) (r : Int) (w : World) (hr : Hid (Lib.indexByte s.data.toList c = r)) :
    Calls Tryz.prog 148 #[.string s, .string ⟨#[c]⟩] w fun e w' => e = .returned (.int .i64 r) ∧ w = w' := by
  go_enter Tryz.func148, Tryz.ntmps148
  go_wp2_with (go_at_call 131; refine (sliteIndex_one s c r _ hr).mono ?_; rintro e w' ⟨rfl, rfl⟩)
  go_ret
  exact ⟨rfl, rfl⟩
theorem stringsContains_one (s : ByteArray) (c : UInt8) (w : World) (b : Bool) (hb : Hid (decide (c ∈ s.data.toList) = b)) :
    Calls Tryz.prog 135 #[.string s, .string ⟨#[c]⟩] w fun e w' => e = .returned (.bool b) ∧ w = w' := by
  have he := indexByte_eq s.data.toList c
  cases b with
  | true =>
    have hm : c ∈ s.data.toList := by simpa using hb.out
    rw [if_pos hm] at he
    have he' := Lib.hid he; clear he hm hb
    go_enter Tryz.func135, Tryz.ntmps135
    go_wp2_with (go_at_call 148; refine (stringsIndex_one s c _ _ he').mono ?_; rintro e w' ⟨rfl, rfl⟩)
    go_ret
    exact ⟨rfl, rfl⟩
  | false =>
    have hm : ¬ c ∈ s.data.toList := by simpa using hb.out
    rw [if_neg hm] at he
    have he' := Lib.hid he; clear he hm hb
    go_enter Tryz.func135, Tryz.ntmps135
    go_wp2_with (go_at_call 148; refine (stringsIndex_one s c _ _ he').mono ?_; rintro e w' ⟨rfl, rfl⟩)
    go_ret
    exact ⟨rfl, rfl⟩
set_option maxRecDepth 100000 in
theorem sliteCut_no (s : ByteArray) (c : UInt8) (w : World) (hm : Hid (c ∉ s.data.toList)) :
    Calls Tryz.prog 106 #[.string s, .string ⟨#[c]⟩] w fun e w' => e = .returned (.tuple #[.string s, .string ⟨#[]⟩, .bool false]) ∧ w = w' := by
  have he := indexByte_eq s.data.toList c
  rw [if_neg hm.out] at he
  have he' := Lib.hid he; clear he
  go_enter Tryz.func106, Tryz.ntmps106
  go_wp2_with (go_at_call 131; refine (sliteIndex_one s c _ _ he').mono ?_; rintro e w' ⟨rfl, rfl⟩)
  go_ret3
  exact ⟨rfl, rfl⟩
set_option maxRecDepth 100000 in
theorem sliteCut_yes (s : ByteArray) (c : UInt8) (k : Nat) (w : World) (hs : s.size ≤ 9223372036854775807) (hm : Hid (c ∈ s.data.toList)) (hk : Hid (before c s.data.toList = k)) :
    Calls Tryz.prog 106 #[.string s, .string ⟨#[c]⟩] w fun e w' => e = .returned (.tuple #[.string (s.extract 0 k), .string (s.extract (k + 1) s.size), .bool true]) ∧ ∃ n, w' = w.drewN n := by
  have he := indexByte_eq s.data.toList c
  rw [if_pos hm.out, hk.out] at he
  have he' := Lib.hid he; clear he
  have hlt : k < s.size := by
    have := before_lt hm.out
    rw [hk.out] at this
    simpa using this
  go_enter Tryz.func106, Tryz.ntmps106
  go_wp2_with (go_at_call 131; refine (sliteIndex_one s c _ _ he').mono ?_; rintro e w' ⟨rfl, rfl⟩)
  go_quiet (fail)
  go_wp2
  go_ret3
  exact ⟨rfl, _, rfl⟩
theorem stringsCut_no (s : ByteArray) (c : UInt8) (w : World) (hm : Hid (c ∉ s.data.toList)) :
    Calls Tryz.prog 70 #[.string s, .string ⟨#[c]⟩] w fun e w' => e = .returned (.tuple #[.string s, .string ⟨#[]⟩, .bool false]) ∧ w = w' := by
  go_enter Tryz.func70, Tryz.ntmps70
  go_wp2_with (go_at_call 106; refine (sliteCut_no s c _ hm).mono ?_; rintro e w' ⟨rfl, rfl⟩)
  go_ret3
  exact ⟨rfl, rfl⟩
theorem stringsCut_yes (s : ByteArray) (c : UInt8) (k : Nat) (w : World) (hs : s.size ≤ 9223372036854775807) (hm : Hid (c ∈ s.data.toList)) (hk : Hid (before c s.data.toList = k)) :
    Calls Tryz.prog 70 #[.string s, .string ⟨#[c]⟩] w fun e w' => e = .returned (.tuple #[.string (s.extract 0 k), .string (s.extract (k + 1) s.size), .bool true]) ∧ ∃ n, w' = w.drewN n := by
  go_enter Tryz.func70, Tryz.ntmps70
  go_wp2_with (go_at_call 106; refine (sliteCut_yes s c k _ hs hm hk).mono ?_; rintro e w' ⟨rfl, n, rfl⟩)
  go_ret3
  exact ⟨rfl, n, rfl⟩
/-- what stands ahead of the first c, and behind it -/
def CutAt (c : UInt8) (s X Y : ByteArray) : Prop := c ∈ s.data.toList ∧ X.data.toList = s.data.toList.take (before c s.data.toList) ∧ Y.data.toList = s.data.toList.drop (before c s.data.toList + 1) ∧ X.size ≤ s.size ∧ Y.size ≤ s.size
theorem cutAt_ex {c : UInt8} {s : ByteArray} (h : c ∈ s.data.toList) : ∃ X Y, CutAt c s X Y ∧ X = s.extract 0 (before c s.data.toList) ∧ Y = s.extract (before c s.data.toList + 1) s.size :=
  ⟨_, _, ⟨h, by rw [Lib.extract_data]; simp, by rw [Lib.extract_data]; exact List.take_of_length_le (by simp), by rw [ByteArray.size_extract]; omega, by rw [ByteArray.size_extract]; omega⟩, rfl, rfl⟩
theorem cutAt_eq {c : UInt8} {s X Y : ByteArray} (h : CutAt c s X Y) : X = s.extract 0 (before c s.data.toList) ∧ Y = s.extract (before c s.data.toList + 1) s.size := by
  obtain ⟨X', Y', h', hX, hY⟩ := cutAt_ex h.1
  have e : ∀ a b : ByteArray, a.data.toList = b.data.toList → a = b := fun a b e => by
    cases a with | mk a => cases b with | mk b => simp at e; rw [e]
  exact ⟨(e _ _ (h.2.1.trans h'.2.1.symm)).trans hX, (e _ _ (h.2.2.1.trans h'.2.2.1.symm)).trans hY⟩
theorem stringsCut_at (s : ByteArray) (c : UInt8) (X Y : ByteArray) (w : World) (hs : s.size ≤ 9223372036854775807) (h : Hid (CutAt c s X Y)) :
    Calls Tryz.prog 70 #[.string s, .string ⟨#[c]⟩] w fun e w' => e = .returned (.tuple #[.string X, .string Y, .bool true]) ∧ ∃ n, w' = w.drewN n := by
  obtain ⟨hX, hY⟩ := cutAt_eq h.out
  rw [hX, hY]
  exact stringsCut_yes s c _ w hs (Lib.hid h.out.1) (Lib.hid rfl)
end Go.Proofs.YtialookpnoaogaaGreat
