/- Words of a text, as plain lists of bytes. -/
import Derived.Test.YtdannodhlaaoiaaGreatDoorProg
import Derived.WalkKit
import Derived.WalkSpells
import Derived.Lib.Hide
import Derived.BigQuiet
import Derived.Deep.QuietTactic
import Derived.Deep.MidRow
import Derived.Deep.WholeRow
import Derived.Deep.DeepFit
import Derived.Laws.CopyOwn
set_option linter.unusedVariables false
set_option linter.unusedSimpArgs false
namespace Go.Proofs.YtdannodhlaaoiaaGreatDoor

def blankB (c : UInt8) : Bool := c == 32 || c == 9 || c == 10
def signB (c : UInt8) : Bool := c == 123 || c == 125 || c == 59
def wordB (c : UInt8) : Bool := (97 ≤ c && c ≤ 122) || (65 ≤ c && c ≤ 90) || (48 ≤ c && c ≤ 57) || c == 46 || c == 47 || c == 45 || c == 95
/-- how many bytes of a word stand ahead -/
def wlen (l : List UInt8) : Nat := (l.takeWhile wordB).length
/-- how many bytes stand ahead of a line's end -/
def clen (l : List UInt8) : Nat := (l.takeWhile (fun c => c != 10)).length

theorem wlen_le (l : List UInt8) : wlen l ≤ l.length := (List.takeWhile_sublist _).length_le
theorem clen_le (l : List UInt8) : clen l ≤ l.length := (List.takeWhile_sublist _).length_le

/-- words, or how many bytes are left at the first that can't stand there -/
inductive LexR where
  | ok (l : List (List UInt8))
  | bad (rest : Nat)
def LexR.app (xs : List (List UInt8)) : LexR → LexR
  | .ok l => .ok (xs ++ l)
  | .bad n => .bad n
theorem LexR.app_nil (r : LexR) : r.app [] = r := by cases r <;> rfl
theorem LexR.app_app (xs ys : List (List UInt8)) (r : LexR) : (r.app ys).app xs = r.app (xs ++ ys) := by cases r <;> simp [LexR.app]

def lexL : List UInt8 → LexR
  | [] => .ok []
  | c :: r =>
    if blankB c then lexL r
    else if c = 35 then lexL (r.drop (clen r))
    else if signB c then (lexL r).app [[c]]
    else if h : 1 ≤ wlen (c :: r) ∧ wlen (c :: r) ≤ 31 then (lexL ((c :: r).drop (wlen (c :: r)))).app [(c :: r).take (wlen (c :: r))]
    else .bad (r.length + 1)
termination_by l => l.length
decreasing_by
  all_goals simp
  all_goals omega

theorem lexL_nil : lexL [] = .ok [] := by rw [lexL]
theorem lexL_blank {c : UInt8} {r : List UInt8} (h : blankB c = true) : lexL (c :: r) = lexL r := by rw [lexL, if_pos h]
theorem lexL_hash {r : List UInt8} : lexL (35 :: r) = lexL (r.drop (clen r)) := by rw [lexL, if_neg (by decide), if_pos rfl]
theorem lexL_sign {c : UInt8} {r : List UInt8} (h : signB c = true) : lexL (c :: r) = (lexL r).app [[c]] := by
  have e : c = 123 ∨ c = 125 ∨ c = 59 := by simpa [signB, or_assoc] using h
  rw [lexL, if_neg (by rcases e with rfl | rfl | rfl <;> decide), if_neg (by rcases e with rfl | rfl | rfl <;> decide), if_pos h]
theorem lexL_word {c : UInt8} {r : List UInt8} (h1 : blankB c = false) (h2 : c ≠ 35) (h3 : signB c = false) (h : 1 ≤ wlen (c :: r)) (h' : wlen (c :: r) ≤ 31) :
    lexL (c :: r) = (lexL ((c :: r).drop (wlen (c :: r)))).app [(c :: r).take (wlen (c :: r))] := by
  rw [lexL, if_neg (by simp [h1]), if_neg h2, if_neg (by simp [h3]), dif_pos ⟨h, h'⟩]
theorem lexL_bad {c : UInt8} {r : List UInt8} (h1 : blankB c = false) (h2 : c ≠ 35) (h3 : signB c = false) (h : ¬ (1 ≤ wlen (c :: r) ∧ wlen (c :: r) ≤ 31)) :
    lexL (c :: r) = .bad (r.length + 1) := by
  rw [lexL, if_neg (by simp [h1]), if_neg h2, if_neg (by simp [h3]), dif_neg h]

theorem wordB_kind {c : UInt8} (h : wordB c = true) : blankB c = false ∧ c ≠ 35 ∧ signB c = false := by
  have key : ∀ n : Nat, n < 256 → wordB (UInt8.ofNat n) = true → blankB (UInt8.ofNat n) = false ∧ UInt8.ofNat n ≠ 35 ∧ signB (UInt8.ofNat n) = false := by decide +kernel
  have := key c.toNat c.toNat_lt
  rw [UInt8.ofNat_toNat] at this
  exact this h
theorem wlen_cons {c : UInt8} {r : List UInt8} (h : wordB c = true) : wlen (c :: r) = wlen r + 1 := by unfold wlen; rw [List.takeWhile_cons, if_pos h]; rfl
theorem wlen_cons_no {c : UInt8} {r : List UInt8} (h : wordB c = false) : wlen (c :: r) = 0 := by unfold wlen; rw [List.takeWhile_cons, if_neg (by simp [h])]; rfl
theorem clen_cons {c : UInt8} {r : List UInt8} (h : c ≠ 10) : clen (c :: r) = clen r + 1 := by unfold clen; rw [List.takeWhile_cons, if_pos (by simpa using h)]; rfl
theorem clen_cons_no {r : List UInt8} : clen (10 :: r) = 0 := by unfold clen; rw [List.takeWhile_cons, if_neg (by simp)]; rfl

/-- what lex.Words answers -/
def lexWords (t : List UInt8) : List (List UInt8) × Nat × Nat :=
  match lexL t with
  | .ok l => (l, t.length, 0)
  | .bad n => ([], t.length - n, 3)
/-- what lex.IsWord answers -/
def isWordB (s : List UInt8) : Bool := decide (1 ≤ s.length ∧ s.length ≤ 31) && s.all wordB

theorem all_of_wlen {s : List UInt8} (h : wlen s = s.length) : s.all wordB = true := by
  induction s with
  | nil => rfl
  | cons c r ih =>
    by_cases hc : wordB c = true
    · rw [wlen_cons hc] at h; simp at h; simp [hc, ih h]
    · rw [wlen_cons_no (by simpa using hc)] at h; simp at h
theorem wlen_of_all {s : List UInt8} (h : s.all wordB = true) (r : List UInt8) : wlen (s ++ r) = s.length + wlen r := by
  induction s with
  | nil => simp
  | cons c s ih =>
    simp only [List.all_cons, Bool.and_eq_true] at h
    rw [List.cons_append, wlen_cons h.1, ih h.2]; simp; omega
theorem isWord_iff {s : List UInt8} : isWordB s = decide (1 ≤ s.length ∧ s.length ≤ 31 ∧ wlen s = s.length) := by
  unfold isWordB
  rw [Bool.eq_iff_iff]
  simp only [Bool.and_eq_true, decide_eq_true_eq]
  constructor
  · rintro ⟨⟨h1, h2⟩, h3⟩
    have := wlen_of_all h3 []
    simp [wlen] at this
    exact ⟨h1, h2, by unfold wlen; simpa using this⟩
  · rintro ⟨h1, h2, h3⟩
    exact ⟨⟨h1, h2⟩, all_of_wlen h3⟩

/-- the bytes of words together -/
def total (l : List (List UInt8)) : Nat := (l.map List.length).sum
theorem lexL_total : ∀ (n : Nat) (t : List UInt8), t.length ≤ n → ∀ l, lexL t = .ok l → total l ≤ t.length ∧ ∀ w ∈ l, (isWordB w = true ∨ ∃ c, w = [c] ∧ signB c = true) := by
  intro n
  induction n with
  | zero =>
    intro t ht l hl
    have : t = [] := List.eq_nil_of_length_eq_zero (by omega)
    subst this
    rw [lexL_nil] at hl
    injection hl with hl; subst hl
    simp [total]
  | succ n ih =>
    intro t ht l hl
    cases t with
    | nil =>
      rw [lexL_nil] at hl
      injection hl with hl; subst hl
      simp [total]
    | cons c r =>
      simp only [List.length_cons] at ht
      by_cases hb : blankB c = true
      · rw [lexL_blank hb] at hl
        have := ih r (by omega) l hl
        simp only [List.length_cons]
        exact ⟨by omega, this.2⟩
      have hb' : blankB c = false := by simpa using hb
      by_cases hc : c = 35
      · subst hc
        rw [lexL_hash] at hl
        have := ih _ (by simp; omega) l hl
        simp only [List.length_drop] at this
        simp only [List.length_cons]
        exact ⟨by omega, this.2⟩
      by_cases hs : signB c = true
      · rw [lexL_sign hs] at hl
        cases hr : lexL r with
        | bad m => rw [hr] at hl; simp [LexR.app] at hl
        | ok l' =>
          rw [hr] at hl
          simp only [LexR.app, LexR.ok.injEq] at hl
          subst hl
          have := ih r (by omega) l' hr
          simp only [List.length_cons, List.singleton_append, total, List.map_cons, List.sum_cons, List.length_nil] at *
          refine ⟨by omega, fun w hw => ?_⟩
          rcases List.mem_cons.1 hw with rfl | hw
          · exact .inr ⟨c, rfl, hs⟩
          · exact this.2 w hw
      have hs' : signB c = false := by simpa using hs
      by_cases hw : 1 ≤ wlen (c :: r) ∧ wlen (c :: r) ≤ 31
      · rw [lexL_word hb' hc hs' hw.1 hw.2] at hl
        have hle := wlen_le (c :: r)
        cases hr : lexL ((c :: r).drop (wlen (c :: r))) with
        | bad m => rw [hr] at hl; simp [LexR.app] at hl
        | ok l' =>
          rw [hr] at hl
          simp only [LexR.app, LexR.ok.injEq] at hl
          have := ih _ (by simp only [List.length_drop, List.length_cons]; omega) l' hr
          have htk : ((c :: r).take (wlen (c :: r))).length = wlen (c :: r) := by rw [List.length_take]; omega
          subst hl
          simp only [List.length_drop] at this
          simp only [List.singleton_append, total, List.map_cons, List.sum_cons] at *
          refine ⟨by omega, fun w hw2 => ?_⟩
          rcases List.mem_cons.1 hw2 with rfl | hw2
          · left
            have e : (c :: r).take (wlen (c :: r)) = (c :: r).takeWhile wordB := by
              exact (List.prefix_iff_eq_take.1 (List.takeWhile_prefix _)).symm
            unfold isWordB
            rw [htk]
            simp only [Bool.and_eq_true, decide_eq_true_eq]
            refine ⟨hw, ?_⟩
            rw [e]
            exact List.all_takeWhile
          · exact this.2 w hw2
      · rw [lexL_bad hb' hc hs' hw] at hl
        cases hl

theorem lexL_isWord {s : List UInt8} (h : isWordB s = true) (r : List UInt8) (hr : wlen r = 0) : lexL (s ++ r) = (lexL r).app [s] := by
  have h' := h
  rw [isWord_iff, decide_eq_true_eq] at h'
  unfold isWordB at h
  simp only [Bool.and_eq_true] at h
  have hw := wlen_of_all h.2 r
  cases s with
  | nil => simp at h'
  | cons c s =>
    have hc : wordB c = true := by have := h.2; simp only [List.all_cons, Bool.and_eq_true] at this; exact this.1
    obtain ⟨k1, k2, k3⟩ := wordB_kind hc
    rw [hr, Nat.add_zero] at hw
    rw [List.cons_append] at hw ⊢
    rw [lexL_word k1 k2 k3 (by rw [hw]; exact h'.1) (by rw [hw]; exact h'.2.1), hw, ← List.cons_append]
    rw [List.drop_left, List.take_left]
theorem lexL_one {s : List UInt8} : (lexL s = .ok [s] ∧ ∀ c, s = [c] → signB c = false) ↔ isWordB s = true := by
  constructor
  · rintro ⟨h, hn⟩
    have := (lexL_total s.length s (Nat.le_refl _) _ h).2 s (by simp)
    rcases this with h1 | ⟨c, rfl, h2⟩
    · exact h1
    · rw [hn c rfl] at h2; cases h2
  · intro h
    refine ⟨?_, ?_⟩
    · have := lexL_isWord h [] rfl
      rw [List.append_nil, lexL_nil] at this
      exact this
    · rintro c rfl
      unfold isWordB at h
      simp only [Bool.and_eq_true, List.all_cons] at h
      exact (wordB_kind h.2.1).2.2

/-- words with a blank ahead of each -/
def spaced (l : List (List UInt8)) : List UInt8 := (l.map fun w => 32 :: w).flatten
theorem spaced_cons (w : List UInt8) (l : List (List UInt8)) : spaced (w :: l) = 32 :: (w ++ spaced l) := by simp [spaced]
theorem spaced_snoc (l : List (List UInt8)) (w : List UInt8) : spaced (l ++ [w]) = spaced l ++ 32 :: w := by simp [spaced]
theorem wlen_spaced (l : List (List UInt8)) : wlen (spaced l) = 0 := by
  cases l with
  | nil => rfl
  | cons w l => rw [spaced_cons]; exact wlen_cons_no (by decide)
theorem lexL_spaced (l : List (List UInt8)) (h : ∀ w ∈ l, isWordB w = true ∨ ∃ c, w = [c] ∧ signB c = true) : lexL (spaced l) = .ok l := by
  induction l with
  | nil => exact lexL_nil
  | cons w l ih =>
    have ih := ih (fun x hx => h x (List.mem_cons_of_mem _ hx))
    rw [spaced_cons, lexL_blank (by decide)]
    rcases h w (by simp) with h1 | ⟨c, rfl, h2⟩
    · rw [lexL_isWord h1 _ (wlen_spaced l), ih]; rfl
    · rw [List.singleton_append, lexL_sign h2, ih]; rfl

/-- the document's row of bytes that may stand in a word -/
def wordRow : List UInt8 := "abcdefghijklmnopqrstuvwxyzABCDEFGHIJKLMNOPQRSTUVWXYZ0123456789./-_".toUTF8.data.toList
theorem wordRow_has (c : UInt8) : wordRow.contains c = wordB c := by
  have key : ∀ n : Nat, n < 256 → wordRow.contains (UInt8.ofNat n) = wordB (UInt8.ofNat n) := by decide +kernel
  have := key c.toNat c.toNat_lt
  rwa [UInt8.ofNat_toNat] at this
end Go.Proofs.YtdannodhlaaoiaaGreatDoor
/- My own small separation layer: which blocks a call may have turned; appends, copies and stores in that form. -/
namespace Go.Proofs.YtdannodhlaaoiaaGreatDoor
open Go.RowKit

/-- between w and w' only blocks of F, and new ones, may have turned -/
structure Keeps (F : Nat → Prop) (w w' : World) : Prop where
  os : w'.os = w.os
  tape : w'.tape = w.tape
  output : w'.output = w.output
  size : w.heap.size ≤ w'.heap.size
  block : ∀ k, k < w.heap.size → ¬ F k → w'.heap[k]? = w.heap[k]?

theorem Keeps.refl (F : Nat → Prop) (w : World) : Keeps F w w := ⟨rfl, rfl, rfl, Nat.le_refl _, fun _ _ _ => rfl⟩
theorem Keeps.trans {F : Nat → Prop} {a b c : World} (h : Keeps F a b) (k : Keeps F b c) : Keeps F a c :=
  ⟨k.os.trans h.os, k.tape.trans h.tape, k.output.trans h.output, Nat.le_trans h.size k.size, fun i hi hn => (k.block i (Nat.lt_of_lt_of_le hi h.size) hn).trans (h.block i hi hn)⟩
/-- the second step may turn what the first one made, too -/
theorem Keeps.trans' {F G : Nat → Prop} {a b c : World} (h : Keeps F a b) (k : Keeps G b c) (hG : ∀ i, G i → F i ∨ a.heap.size ≤ i) : Keeps F a c :=
  ⟨k.os.trans h.os, k.tape.trans h.tape, k.output.trans h.output, Nat.le_trans h.size k.size, fun i hi hn =>
    (k.block i (Nat.lt_of_lt_of_le hi h.size) (fun g => by rcases hG i g with h | h; exact hn h; omega)).trans (h.block i hi hn)⟩
theorem Keeps.mono {F G : Nat → Prop} {a b : World} (h : Keeps F a b) (hG : ∀ i, F i → G i ∨ a.heap.size ≤ i) : Keeps G a b :=
  ⟨h.os, h.tape, h.output, h.size, fun i hi hn => h.block i hi (fun f => by rcases hG i f with h | h; exact hn h; omega)⟩
theorem Keeps.alloc {F : Nat → Prop} {a b : World} (h : Keeps F a b) (o : Obj) : Keeps F a (b.alloc o) :=
  h.trans ⟨rfl, rfl, rfl, by simp, fun k hk _ => Below.heap_alloc b o k hk⟩
theorem Keeps.drew {F : Nat → Prop} {a b : World} (h : Keeps F a b) : Keeps F a b.drew := ⟨h.os, h.tape, h.output, h.size, h.block⟩
theorem Keeps.drewN {F : Nat → Prop} {a b : World} (h : Keeps F a b) (n : Nat) : Keeps F a (b.drewN n) := ⟨h.os, h.tape, h.output, h.size, h.block⟩
theorem Keeps.setCell {F : Nat → Prop} {a b : World} (h : Keeps F a b) {p : Addr} (hp : F p.block ∨ a.heap.size ≤ p.block) (v : Value) : Keeps F a (b.setCell p v) :=
  ⟨h.os, h.tape, h.output, by simp [World.setCell]; exact h.size, fun k hk hn => (heap_setCell_other b p k v (fun e => by subst e; rcases hp with h | h; exact hn h; omega)).trans (h.block k hk hn)⟩
theorem Keeps.setCells {F : Nat → Prop} {a : World} {g : Nat} (hp : F g ∨ a.heap.size ≤ g) : ∀ (vs : List Value) (o : Nat) (b : World), Keeps F a b → Keeps F a (b.setCells g o vs)
  | [], _, _, h => h
  | v :: r, o, b, h => by rw [World.setCells]; exact Keeps.setCells hp r (o + 1) _ (h.setCell (p := ⟨g, o, none⟩) hp v)
theorem Keeps.setRow {F : Nat → Prop} {a b : World} (h : Keeps F a b) {g : Nat} (hp : F g ∨ a.heap.size ≤ g) (cs : Array Value) : Keeps F a (b.setRow g cs) :=
  ⟨h.os, h.tape, h.output, by simp; exact h.size, fun k hk hn => (setRow_other b g k cs (fun e => by subst e; rcases hp with h | h; exact hn h; omega)).trans (h.block k hk hn)⟩
theorem Keeps.grown {F : Nat → Prop} {a b c : World} {row : Option Nat} (h : Keeps F a b) (hg : b.grownBy c row) (hr : ∀ k, row = some k → F k ∨ a.heap.size ≤ k) : Keeps F a c :=
  ⟨hg.os.trans h.os, hg.tape.trans h.tape, hg.output.trans h.output, Nat.le_trans h.size hg.size, fun k hk hn =>
    (hg.block k (Nat.lt_of_lt_of_le hk h.size) (fun e => by rcases hr k e.symm with h | h; exact hn h; omega)).trans (h.block k hk hn)⟩
theorem Keeps.below {F : Nat → Prop} {a b : World} {B : Nat} (h : Keeps F a b) (hB : B ≤ a.heap.size) (hF : ∀ k, F k → B ≤ k) : Below B a b :=
  ⟨h.os, h.tape, h.output, h.size, fun k hk => h.block k (by omega) (fun f => by have := hF k f; omega)⟩
theorem Keeps.cell {F : Nat → Prop} {a b : World} (h : Keeps F a b) {p : Addr} (hp : p.block < a.heap.size) (hF : ¬ F p.block) : b.cell? p = a.cell? p := World.cell?_of_block (h.block _ hp hF)
theorem Keeps.frozen {F : Nat → Prop} {a b : World} (h : Keeps F a b) {p : Addr} (hp : p.block < a.heap.size) (hF : ¬ F p.block) : b.frozen? p = a.frozen? p := World.frozen?_of_block (h.block _ hp hF)
theorem Keeps.rangeAt {F : Nat → Prop} {a b : World} (h : Keeps F a b) {g o : Nat} {cs : List Value} (hr : a.rangeAt g o cs) (hF : ¬ F g) : b.rangeAt g o cs := fun j v hv => by
  have h1 := hr j v hv
  rw [h.cell (p := ⟨g, o + j, none⟩) (World.block_lt_of_cell? a _ h1) hF]; exact h1
theorem Keeps.ownsRow {F : Nat → Prop} {a b : World} (h : Keeps F a b) {base : Nat} {e : TypeId} {size : Nat} {v : Value} {n : Nat} {xs : List Value} (hr : a.ownsRow base e size v n xs)
    (hF : ∀ k, v.ownBlock = some k → ¬ F k) : b.ownsRow base e size v n xs := by
  refine ⟨hr.1, ?_⟩
  rcases hr.2 with hn | ⟨g, cap, cur, rfl, hb, hgg, rest⟩
  · exact .inl hn
  · exact .inr ⟨g, cap, cur, rfl, hb, by rw [h.block g (lt_of_block hgg) (hF g rfl)]; exact hgg, rest⟩

/-- an append to a nil slice or to an owned row: the row behind it is the same block, or a new one -/
theorem run_append_sep {P : Program} (w : World) (t ty e : TypeId) (i : TypeInfo) (z : Value) (size bytes : Nat) (ht : P.underlying t = some (.slice e)) (hi : P.info? e = some i) (hz : i.zero = some z)
    (hsize : i.size = size) (hby : i.bytes = bytes) (hzs : z.cells.size = size) (hsz : 0 < size)
    (v : Value) (n : Nat) (xs : List Value) (hown : w.ownsRow 0 e size v n xs)
    (a : Addr) (m c : Nat) (news : List Value) (hl : news.length = m * size) (hnews : ∀ j u, news[j]? = some u → w.cell? (a.add j) = some u) (h1 : ∀ u ∈ news, u.oneCell' = true)
    (h63 : n + m ≤ maxLen) (hbytes : (n + m) * bytes ≤ 140737488355328) :
    ∃ v' w', (Builtin.append_ #[t, t] ty #[v, .slice (some a) m c]).run P w = .ok v' w' ∧ w'.ownsRow 0 e size v' (n + m) (xs ++ news) ∧ w.grownBy w' v.ownBlock ∧
      (∀ k, v'.ownBlock = some k → v.ownBlock = some k ∨ w.heap.size ≤ k) := by
  obtain ⟨v', w', hr, h2, h3, h4⟩ := run_append_own (P := P) w 0 t ty e i z size bytes ht hi hz hsize hby hzs hsz v n xs hown a m c news hl hnews h1 h63 hbytes (Nat.zero_le _)
  refine ⟨v', w', hr, h2, h3, ?_⟩
  subst hsize; subst hby
  have hsmall : n + m ≤ 9223372036854775807 := by simp only [maxLen] at h63; omega
  rcases hown.2 with ⟨rfl, rfl⟩ | ⟨g, cap, cur, rfl, hbg, hg, hnc, hcm, hcs, htake⟩
  · by_cases hm : m = 0
    · rw [h4.2 ⟨rfl, hm⟩]; simp [Value.ownBlock]
    · have e := run_append_nil (P := P) w t ty e i z ht hi hz a m c news hl hnews (by omega) (by omega) (by have hb := hbytes; simp only [Nat.zero_add] at hb; omega)
      rw [hr] at e; injection e with e1 e2; subst e1
      intro k hk; simp only [Value.ownBlock, Option.some.injEq] at hk; right; omega
  · by_cases hroom : n + m ≤ cap
    · have hfit : n * i.size + news.length ≤ cur.size := by rw [hl, hcs, ← Nat.add_mul]; exact Nat.mul_le_mul_right _ hroom
      have e := run_append_room (P := P) w t ty e i ht hi g n cap cur hg a m c news hl hnews h1 hroom hfit
      rw [hr] at e; injection e with e1 e2; subst e1
      intro k hk; left; exact hk
    · have holds : ∀ j u, xs[j]? = some u → w.cell? ((⟨g, 0, none⟩ : Addr).add j) = some u := hown.cells (g := g) rfl
      have e := run_append_grow (P := P) w t ty e i z ht hi hz ⟨g, 0, none⟩ n cap xs hown.1 holds a m c news hl hnews (by omega) (by omega) (growslice_fits (by omega) hbytes)
      rw [hr] at e; injection e with e1 e2; subst e1
      intro k hk; simp only [Value.ownBlock, Option.some.injEq] at hk; right; omega

theorem ownsRow_slice {w : World} {base : Nat} {e : TypeId} {size : Nat} {v : Value} {n : Nat} {xs : List Value} (h : w.ownsRow base e size v n xs) : ∃ p c, v = .slice p n c := by
  rcases h.2 with ⟨rfl, rfl⟩ | ⟨g, cap, cur, rfl, _⟩
  · exact ⟨none, 0, rfl⟩
  · exact ⟨_, cap, rfl⟩

theorem wpList_append_sep {P : Program} {w : World} {ops : Array Oper} {rest : List Oper} {o : Oper} {a : Act} {Q : Exit → Act → World → Prop} (hgd : o.guard = none) (s x : Operand) (t : TypeId)
    (ho : o.op = .call { callee := .builtin .append, args := #[s, x], argTypes := #[t, t] })
    (e : TypeId) (i : TypeInfo) (z : Value) (size bytes : Nat) (ht : P.underlying t = some (.slice e)) (hi : P.info? e = some i) (hz : i.zero = some z)
    (hsize : i.size = size) (hby : i.bytes = bytes) (hzs : z.cells.size = size) (hsz : 0 < size)
    (v : Value) (n : Nat) (xs : List Value) (hs : a.eval s = v) (hown : w.ownsRow 0 e size v n xs)
    (ad : Addr) (m c : Nat) (news : List Value) (hx : a.eval x = .slice (some ad) m c) (hl : news.length = m * size) (hnews : ∀ j u, news[j]? = some u → w.cell? (ad.add j) = some u) (h1 : ∀ u ∈ news, u.oneCell' = true)
    (h63 : n + m ≤ maxLen) (hbytes : (n + m) * bytes ≤ 140737488355328)
    (h : ∀ p c w', w'.ownsRow 0 e size (.slice p (n + m) c) (n + m) (xs ++ news) → w.grownBy w' v.ownBlock → Hid (∀ k, (Value.slice p (n + m) c).ownBlock = some k → v.ownBlock = some k ∨ w.heap.size ≤ k) → wpList P ops Q rest (a.put o.dst (.slice p (n + m) c)) w') : wpList P ops Q (o :: rest) a w :=
  wpList_plain hgd fun _ hK => by
    obtain ⟨v', w', hr, h2, h3, h4⟩ := run_append_sep (P := P) w t o.type e i z size bytes ht hi hz hsize hby hzs hsz v n xs hown ad m c news hl hnews h1 h63 hbytes
    unfold Oper.wp execOp
    simp only [ho, resolve, invoke, builtin, Sem.run_bind, Sem.run_pure, Result.andThen_ok, List.map_toArray, List.map_cons, List.map_nil, hs, hx, hr]
    obtain ⟨p, c, rfl⟩ := ownsRow_slice h2
    exact hK _ _ (h p c w' h2 h3 h4)

/-- a whole array stored into the block that was made last -/
theorem wpList_store_new {P : Program} {ops : Array Oper} {rest : List Oper} {op : Oper} {a : Act} {w : World} {Q : Exit → Act → World → Prop} (hgd : op.guard = none) (ty : TypeId) (x y : Operand) (ho : op.op = .store ty x y)
    (c c' : Array Value) (hx : a.eval x = .pointer (some ⟨w.heap.size, 0, none⟩)) (hy : a.eval y = .agg c')
    (hi : (P.info? ty).map (·.size) = some c'.size) (hs : c.size = c'.size) (h1 : c'.all (·.oneCell') = true)
    (h : wpList P ops Q rest (a.put op.dst undef) (w.alloc (.cells c' ty))) : wpList P ops Q (op :: rest) a (w.alloc (.cells c ty)) :=
  wpList_plain hgd fun _ hK => by
    unfold Oper.wp execOp
    simp only [ho, hx, hy, Sem.run_bind, Result.andThen, run_storeAt_new w ty c c' hi hs h1]
    exact hK _ _ h

/-- copy into cells that are there -/
theorem wpList_copy_cells {P : Program} {w : World} {ops : Array Oper} {rest : List Oper} {o : Oper} {a : Act} {Q : Exit → Act → World → Prop} (hgd : o.guard = none) (d s : Operand) (dT sT : TypeId)
    (ho : o.op = .call { callee := .builtin .copy, args := #[d, s], argTypes := #[dT, sT] }) (elem : TypeId) (hu : P.underlying dT = some (.slice elem)) (hsz : (P.info? elem).map (·.size) = some 1)
    (g off dLen dCap : Nat) (ad : Addr) (sLen sCap : Nat) (hd : a.eval d = .slice (some ⟨g, off, none⟩) dLen dCap) (hs : a.eval s = .slice (some ad) sLen sCap)
    (cs : List Value) (hn : cs.length = Nat.min sLen dLen)
    (hsrc : ∀ j v, cs[j]? = some v → w.cell? (ad.add j) = some v) (hth : w.there g off cs.length) (h1 : ∀ v ∈ cs, v.oneCell' = true)
    (h : wpList P ops Q rest (a.put o.dst (goInt cs.length)) (w.setCells g off cs)) : wpList P ops Q (o :: rest) a w := by
  refine wpList_plain hgd fun K hK => ?_
  have hrun := run_copy_cells (P := P) w dT sT o.type elem g off dLen dCap ad sLen sCap cs hu hsz hn hsrc (fun j hj => (hth j hj).1) (fun j hj => (hth j hj).2) h1
  unfold Oper.wp
  simp [execOp, ho, resolve, invoke, builtin, hd, hs, hrun, Result.andThen]
  exact hK _ _ h

/-- the cells of a block that was made last -/
theorem cells_new {w : World} {n : Nat} (hn : n = w.heap.size) (vs : List Value) (t : TypeId) : ∀ j u, vs[j]? = some u → (w.alloc (.cells vs.toArray t)).cell? ((⟨n, 0, none⟩ : Addr).add j) = some u := by
  intro j u hu
  subst hn
  rw [Addr.add_mid, cell_of_row _ _ _ _ _ _ (heap_alloc_last w _)]
  simpa using hu
theorem cells_one {w : World} {n : Nat} (hn : n = w.heap.size) (v : Value) (t : TypeId) : ∀ j u, [v][j]? = some u → (w.alloc (.cells #[v] t)).cell? ((⟨n, 0, none⟩ : Addr).add j) = some u :=
  cells_new hn [v] t
/-- guards: the next operation writes slot d; the next operation is a store through slot d -/
theorem at_slot {P : Program} {ops : Array Oper} {rest : List Oper} {a : Act} {w : World} {Q : Exit → Act → World → Prop} (d : Tmp) {op : Op} {ty : TypeId} {pos : String} {after : Array Edge} {gd : Option (Nat × Bool)}
    (h : wpList P ops Q (⟨some d, op, ty, pos, after, gd⟩ :: rest) a w) : wpList P ops Q (⟨some d, op, ty, pos, after, gd⟩ :: rest) a w := h
theorem at_store {P : Program} {ops : Array Oper} {rest : List Oper} {a : Act} {w : World} {Q : Exit → Act → World → Prop} (d : Tmp) {t : TypeId} {y : Operand} {ty : TypeId} {pos : String} {after : Array Edge} {gd : Option (Nat × Bool)}
    (h : wpList P ops Q (⟨none, .store t (.tmp d) y, ty, pos, after, gd⟩ :: rest) a w) : wpList P ops Q (⟨none, .store t (.tmp d) y, ty, pos, after, gd⟩ :: rest) a w := h
end Go.Proofs.YtdannodhlaaoiaaGreatDoor
