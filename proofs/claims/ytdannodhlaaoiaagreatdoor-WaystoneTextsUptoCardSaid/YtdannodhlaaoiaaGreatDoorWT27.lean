/- The text of a configuration, plain (gen_zti.py: parts of CFK, CGR, CGS, for a seat without conf.Text). -/
import Derived.Test.YtdannodhlaaoiaaGreatDoorWT23
import Derived.Test.YtdannodhlaaoiaaGreatDoorWT26
import Derived.Test.YtdannodhlaaoiaaGreatDoorWT24
import Derived.Test.YtdannodhlaaoiaaGreatDoorWT20
import Derived.Test.YtdannodhlaaoiaaGreatDoorWT08
import Derived.Test.YtdannodhlaaoiaaGreatDoorWT06
set_option linter.unusedVariables false
set_option linter.unusedSimpArgs false
set_option linter.unusedVariables false
set_option linter.unusedSimpArgs false
namespace Go.Proofs.YtdannodhlaaoiaaGreatDoor
open Go.RowKit

theorem line_head {l : LineD} (h : lineB l = true) : l.head = 0 ∨ l.head = 1 ∨ l.head = 2 := by
  unfold lineB at h
  cases hf : findD l.head l.leaf with
  | none => rw [hf] at h; cases h
  | some r =>
    have hm : r ∈ tableD := List.mem_of_find?_eq_some hf
    have hp := List.find?_some hf
    rw [decide_eq_true_eq] at hp
    have hall : ∀ q ∈ tableD, q.head = 0 ∨ q.head = 1 ∨ q.head = 2 := by decide
    rw [← hp.1]; exact hall r hm

theorem firstC_yes {p q : LineD} (h1 : p.head = q.head) (h2 : p.name = q.name) : firstC (some p) q = [] := by unfold firstC sameC; simp [h1, h2]
theorem firstC_no {p q : LineD} (h : ¬ (p.head = q.head ∧ p.name = q.name)) : firstC (some p) q = headC q.head ++ [32] ++ q.name ++ [32, 123, 10] := by
  unfold firstC sameC; simp only; rw [if_neg (by simpa using h)]
theorem lastC_yes {p q : LineD} (h1 : p.head = q.head) (h2 : p.name = q.name) : lastC p (some q) = [] := by unfold lastC sameC; simp [h1, h2]
theorem lastC_no {p q : LineD} (h : ¬ (p.head = q.head ∧ p.name = q.name)) : lastC p (some q) = [125, 10] := by
  unfold lastC sameC; simp only; rw [if_neg (by simpa using h)]
theorem notdec_nil {a : List UInt8} (h : a = []) : (!decide (a = [])) = false := by subst h; rfl
theorem notdec_cons {a b : List UInt8} {x : UInt8} (h : a = b ++ [x]) : (!decide (a = [])) = true := by subst h; simp
theorem list_ends (a b : List UInt8) : a ++ [32] ++ b ++ [32, 123, 10] = (a ++ [32] ++ b ++ [32, 123]) ++ [10] := by simp
theorem ba_of' {N : ByteArray} {l : List UInt8} (h : N.data.toList = l) : N = ⟨l.toArray⟩ := by subst h; rfl
end Go.Proofs.YtdannodhlaaoiaaGreatDoor
/- The text of a configuration is read as its words: plain. -/
set_option linter.unusedVariables false
set_option linter.unusedSimpArgs false
namespace Go.Proofs.YtdannodhlaaoiaaGreatDoor
open Go.RowKit

/-! each leaf, name and value is a word -/
theorem decVal_fold (l : List UInt8) : ∀ n : Nat, l.foldl (fun n c => n * 10 + (c.toNat - 48)) n = n * 10 ^ l.length + decVal l := by
  induction l with
  | nil => intro n; simp [decVal]
  | cons c r ih =>
    intro n
    have e : decVal (c :: r) = (0 * 10 + (c.toNat - 48)) * 10 ^ r.length + decVal r := by
      show r.foldl _ (0 * 10 + (c.toNat - 48)) = _
      exact ih _
    rw [List.foldl_cons, ih, e, List.length_cons, Nat.pow_succ]
    simp only [Nat.zero_mul, Nat.zero_add]
    rw [Nat.add_mul, Nat.mul_assoc n 10, Nat.mul_comm 10 (10 ^ r.length)]
    omega
theorem digB_word {c : UInt8} (h : digB c = true) : wordB c = true := by
  have key : ∀ n : Nat, n < 256 → digB (UInt8.ofNat n) = true → wordB (UInt8.ofNat n) = true := by decide +kernel
  have := key c.toNat c.toNat_lt
  rw [UInt8.ofNat_toNat] at this
  exact this h
theorem decL_word {s : List UInt8} {n : Nat} (h : decL s = some n) : s.all wordB = true ∧ 1 ≤ s.length ∧ s.length ≤ 9 := by
  have h1 := decL_digs h
  have h2 := decL_len h
  unfold decL at h
  split at h
  · rename_i h'
    simp only [Bool.and_eq_true] at h'
    have h3 := h'.1; unfold decShape at h3; rw [decide_eq_true_eq] at h3
    exact ⟨by rw [List.all_eq_true] at h1 ⊢; exact fun c hc => digB_word (h1 c hc), h3.1, h2⟩
  · cases h
theorem decL_len3 {s : List UInt8} {n : Nat} (h : decL s = some n) (hn : n ≤ 255) : s.length ≤ 3 := by
  have h1 := decL_digs h
  unfold decL at h
  split at h
  · rename_i h'
    simp only [Bool.and_eq_true] at h'
    have h3 := h'.1; unfold decShape at h3; rw [decide_eq_true_eq] at h3
    injection h with h
    cases s with
    | nil => simp
    | cons c r =>
      by_cases hr : r = []
      · subst hr; simp
      · have hl : 0 < r.length := by cases r with | nil => exact absurd rfl hr | cons => simp
        have hc : c ≠ 48 := fun e => h3.2.2 ⟨by simp; omega, by rw [e]; rfl⟩
        have hd : digB c = true := by simp only [List.all_cons, Bool.and_eq_true] at h1; exact h1.1
        have hc2 : 1 ≤ c.toNat - 48 := by
          unfold digB at hd; rw [decide_eq_true_eq] at hd
          have : c.toNat ≠ 48 := fun e => hc (by rw [← UInt8.ofNat_toNat (x := c), e]; rfl)
          omega
        have e : decVal (c :: r) = (0 * 10 + (c.toNat - 48)) * 10 ^ r.length + decVal r := by
          show r.foldl _ (0 * 10 + (c.toNat - 48)) = _
          exact decVal_fold _ _
        have h4 : 10 ^ r.length ≤ n := by
          rw [← h, e]
          have : 1 * 10 ^ r.length ≤ (0 * 10 + (c.toNat - 48)) * 10 ^ r.length := Nat.mul_le_mul_right _ (by omega)
          omega
        by_cases h5 : r.length ≤ 2
        · simp; omega
        · have : 10 ^ 3 ≤ 10 ^ r.length := Nat.pow_le_pow_right (by omega) (by omega)
          omega
  · cases h
theorem before_split {c : UInt8} {s : List UInt8} (h : c ∈ s) : s = s.take (before c s) ++ c :: s.drop (before c s + 1) := by
  induction s with
  | nil => cases h
  | cons b s ih =>
    by_cases hb : b = c
    · subst hb; rw [before_cons_eq]; simp
    · rw [before_cons_ne hb]
      have h2 : c ∈ s := by
        rcases List.mem_cons.1 h with e | e
        · exact absurd e.symm hb
        · exact e
      simp only [List.take_succ_cons, List.drop_succ_cons, List.cons_append]
      congr 1
      exact ih h2
theorem addrGo_word : ∀ (k n : Nat) (s : List UInt8) (m : Nat), 1 ≤ k → addrGo k n s = some m → s.all wordB = true ∧ 1 ≤ s.length ∧ s.length ≤ 4 * k - 1 := by
  intro k
  induction k with
  | zero => intro n s m h; omega
  | succ k ih =>
    intro n s m _ h
    by_cases hd : 46 ∈ s
    · rw [addrGo_yes hd] at h
      cases hb : decL (s.take (before 46 s)) with
      | none => rw [hb] at h; cases h
      | some b =>
        rw [hb] at h
        simp only at h
        split at h
        · rename_i hc
          have h1 := decL_word hb
          have h2 := decL_len3 hb hc.1
          have h3 := ih _ _ _ (by omega) h
          have hs := before_split hd
          have hl := congrArg List.length hs
          rw [List.length_append, List.length_cons] at hl
          refine ⟨?_, by omega, by omega⟩
          rw [hs, List.all_append, List.all_cons, h1.1, h3.1]
          decide
        · cases h
    · rw [addrGo_no hd] at h
      cases hb : decL s with
      | none => rw [hb] at h; cases h
      | some b =>
        rw [hb] at h
        simp only at h
        split at h
        · rename_i hc
          have h1 := decL_word hb
          have h2 := decL_len3 hb hc.1
          exact ⟨h1.1, h1.2.1, by omega⟩
        · cases h
theorem isWord_of {s : List UInt8} (h : s.all wordB = true ∧ 1 ≤ s.length ∧ s.length ≤ 31) : isWordB s = true := by
  unfold isWordB; rw [h.1]; simp; omega
theorem addrL_word {s : List UInt8} (h : (addrL s).isSome = true) : s.all wordB = true ∧ 1 ≤ s.length ∧ s.length ≤ 15 := by
  obtain ⟨m, hm⟩ := Option.isSome_iff_exists.1 h
  exact addrGo_word 4 0 s m (by omega) hm
theorem netL_word {s : List UInt8} (h : (netL s).isSome = true) : s.all wordB = true ∧ 1 ≤ s.length ∧ s.length ≤ 31 := by
  unfold netL at h
  split at h
  · rename_i h47
    cases ha : addrL (s.take (before 47 s)) with
    | none => rw [ha] at h; simp at h
    | some a =>
      cases hb : decL (s.drop (before 47 s + 1)) with
      | none => rw [ha, hb] at h; simp at h
      | some b =>
        have h1 := addrL_word (s := s.take (before 47 s)) (by rw [ha]; rfl)
        have h2 := decL_word hb
        have hs := before_split h47
        have hl := congrArg List.length hs
        rw [List.length_append, List.length_cons] at hl
        refine ⟨?_, by omega, by omega⟩
        rw [hs, List.all_append, List.all_cons, h1.1, h2.1]
        decide
  · cases h
theorem row_words : ∀ q ∈ tableD, isWordB q.name = true ∧ ∀ c ∈ q.cs, isWordB c = true := by decide +kernel
theorem line_words {l : LineD} (h : lineB l = true) : isWordB l.leaf = true ∧ isWordB l.value = true ∧ (l.head ≠ 0 → isWordB l.name = true) := by
  unfold lineB at h
  cases hf : findD l.head l.leaf with
  | none => rw [hf] at h; cases h
  | some r =>
    rw [hf] at h
    simp only [Bool.and_eq_true] at h
    have hm : r ∈ tableD := List.mem_of_find?_eq_some hf
    have hp := List.find?_some hf
    rw [decide_eq_true_eq] at hp
    obtain ⟨h1, h2⟩ := row_words r hm
    refine ⟨by rw [← hp.2]; exact h1, ?_, fun h0 => ?_⟩
    · have hv := h.2
      unfold rightB at hv
      split at hv
      · have := addrL_word hv; exact isWord_of ⟨this.1, this.2.1, by omega⟩
      · split at hv
        · exact isWord_of (netL_word hv)
        · split at hv
          · cases hd : decL l.value with
            | none => rw [hd] at hv; cases hv
            | some n => have := decL_word hd; exact isWord_of ⟨this.1, this.2.1, by omega⟩
          · split at hv
            · exact h2 l.value (by simpa using hv)
            · split at hv
              · rw [Bool.and_eq_true] at hv
                exact hv.2
              · cases hv
    · have hn := h.1
      unfold namedB at hn
      rw [if_neg h0] at hn
      split at hn
      · have := addrL_word hn; exact isWord_of ⟨this.1, this.2.1, by omega⟩
      · split at hn
        · rw [Bool.and_eq_true] at hn
          exact hn.1
        · cases hn

/-! a text is so many words, whatever stands behind it -/
def Lx (t : List UInt8) (ws : List (List UInt8)) : Prop := ∀ r, lexL (t ++ r) = (lexL r).app ws
theorem Lx.app {t1 t2 : List UInt8} {w1 w2 : List (List UInt8)} (h1 : Lx t1 w1) (h2 : Lx t2 w2) : Lx (t1 ++ t2) (w1 ++ w2) := fun r => by
  rw [List.append_assoc, h1, h2, LexR.app_app]
theorem Lx.nil : Lx [] [] := fun r => by rw [LexR.app_nil]; rfl
theorem Lx.blank {c : UInt8} (h : blankB c = true) : Lx [c] [] := fun r => by rw [LexR.app_nil]; exact lexL_blank h
theorem Lx.sign {c : UInt8} (h : signB c = true) : Lx [c] [[c]] := fun r => lexL_sign h
theorem Lx.word {s : List UInt8} (h : isWordB s = true) : Lx (s ++ [32]) [s] := fun r => by
  rw [List.append_assoc, lexL_isWord h ([32] ++ r) (by rw [List.singleton_append]; exact wlen_cons_no (by decide)), List.singleton_append, lexL_blank (by decide)]
theorem Lx.wordEnd {s : List UInt8} (h : isWordB s = true) : Lx (s ++ [59]) [s, [59]] := fun r => by
  rw [List.append_assoc, lexL_isWord h ([59] ++ r) (by rw [List.singleton_append]; exact wlen_cons_no (by decide)), List.singleton_append, lexL_sign (by decide), LexR.app_app]; rfl
theorem Lx.ok {t : List UInt8} {ws : List (List UInt8)} (h : Lx t ws) : lexL t = .ok ws := by
  have := h []
  rw [List.append_nil, lexL_nil] at this
  rw [this]; simp [LexR.app]

def firstT (p : Option LineD) (q : LineD) : List (List UInt8) := match p with
  | some p => if sameC p q = true then [] else [headC q.head, q.name, opnW]
  | none => [headC q.head, q.name, opnW]
def lastT (q : LineD) (n : Option LineD) : List (List UInt8) := match n with
  | some n => if sameC q n = true then [] else [clsW]
  | none => [clsW]
def lineT (q : LineD) : List (List UInt8) := [q.leaf, q.value, endW]
def pieceT (p : Option LineD) (q : LineD) (n : Option LineD) : List (List UInt8) := if q.head = 0 then lineT q else firstT p q ++ lineT q ++ lastT q n
theorem written_lx {q : LineD} (h : lineB q = true) : Lx (writtenC q) (lineT q) := by
  obtain ⟨h1, h2, -⟩ := line_words h
  have e : writtenC q = (q.leaf ++ [32]) ++ ((q.value ++ [59]) ++ [10]) := by unfold writtenC; simp
  rw [e]
  exact (Lx.word h1).app ((Lx.wordEnd h2).app (Lx.blank (by decide)))
theorem head_lx {q : LineD} (h : lineB q = true) (h0 : q.head ≠ 0) : Lx (headC q.head ++ [32] ++ q.name ++ [32, 123, 10]) [headC q.head, q.name, opnW] := by
  obtain ⟨-, -, h3⟩ := line_words h
  have e : headC q.head ++ [32] ++ q.name ++ [32, 123, 10] = (headC q.head ++ [32]) ++ ((q.name ++ [32]) ++ ([123] ++ [10])) := by simp
  have hh : isWordB (headC q.head) = true := by unfold headC; split <;> decide
  rw [e]
  exact (Lx.word hh).app ((Lx.word (h3 h0)).app ((Lx.sign (by decide)).app (Lx.blank (by decide))))
theorem piece_lx {p : Option LineD} {q : LineD} {n : Option LineD} (h : lineB q = true) : Lx (pieceC p q n) (pieceT p q n) := by
  unfold pieceC pieceT
  by_cases h0 : q.head = 0
  · rw [if_pos h0, if_pos h0]; exact written_lx h
  · rw [if_neg h0, if_neg h0]
    refine Lx.app (Lx.app ?_ ?_) ?_
    · cases p with
      | none => exact head_lx h h0
      | some p =>
        unfold firstC firstT
        simp only []
        by_cases e : sameC p q = true
        · rw [if_pos e, if_pos e]; exact Lx.nil
        · rw [if_neg e, if_neg e]; exact head_lx h h0
    · have := ((Lx.blank (c := 32) (by decide)).app (Lx.blank (c := 32) (by decide))).app (written_lx h)
      simpa using this
    · have hc : Lx [125, 10] [clsW] := (Lx.sign (c := 125) (by decide)).app (Lx.blank (c := 10) (by decide))
      cases n with
      | none => exact hc
      | some n =>
        unfold lastC lastT
        simp only []
        by_cases e : sameC q n = true
        · rw [if_pos e, if_pos e]; exact Lx.nil
        · rw [if_neg e, if_neg e]; exact hc
def textT (ls : List LineD) : Nat → List (List UInt8)
  | 0 => []
  | k + 1 => textT ls k ++ (match ls[k]? with | some q => pieceT (prevOf ls k) q (ls[k + 1]?) | none => [])
theorem text_lx {ls : List LineD} (h : ∀ q ∈ ls, lineB q = true) : ∀ k, Lx (textK ls k) (textT ls k) := by
  intro k
  induction k with
  | zero => exact Lx.nil
  | succ k ih =>
    unfold textK textT
    refine ih.app ?_
    cases hq : ls[k]? with
    | none => exact Lx.nil
    | some q => exact piece_lx (h q (List.mem_of_getElem? hq))
end Go.Proofs.YtdannodhlaaoiaaGreatDoor
/- The words of a configuration's text set its lines; in whatever order they are set: plain. -/
set_option linter.unusedVariables false
set_option linter.unusedSimpArgs false
namespace Go.Proofs.YtdannodhlaaoiaaGreatDoor
open Go.RowKit

def openAt (ls : List LineD) (k : Nat) : Option (Int × List UInt8) := match prevOf ls k, ls[k]? with
  | some p, some q => if p.head ≠ 0 ∧ sameC p q = true then some (p.head, p.name) else none
  | _, _ => none
theorem sameC_iff {a b : LineD} : sameC a b = true ↔ a.head = b.head ∧ a.name = b.name := by unfold sameC; simp
theorem headD_headC {h : Int} (hh : h = 1 ∨ h = 2) : headD (headC h) = h := by rcases hh with rfl | rfl <;> decide
theorem leaf_top {q : LineD} (h : lineB q = true) (h0 : q.head = 0) : q.name = [] ∧ headD q.leaf = 0 := by
  have hn : q.name = [] := by
    have := h
    rw [lineB_split, Bool.and_eq_true] at this
    have h1 := this.1
    rw [h0] at h1
    unfold namedB at h1
    rw [if_pos rfl] at h1
    simpa using h1
  refine ⟨hn, ?_⟩
  by_cases hd : headD q.leaf = 0
  · exact hd
  · have := top_nohead (v := q.value) hd
    unfold atL at this
    have e : q = ⟨0, [], q.leaf, q.value⟩ := by rw [← h0, ← hn]
    rw [e] at h
    simp only at this h
    rw [this] at h; cases h
theorem leaf_sign {q : LineD} (h : lineB q = true) : q.leaf ≠ clsW := fun e => by
  rw [lineB_split, Bool.and_eq_true] at h
  have := rightV_leaf h.2
  rw [e] at this; revert this; decide
theorem line_right {q : LineD} (h : lineB q = true) : namedB q.head q.name = true ∧ rightV q.head q.leaf q.value = true := by
  rw [lineB_split, Bool.and_eq_true] at h; exact h
theorem prev_next {ls : List LineD} {k : Nat} {q : LineD} (hq : ls[k]? = some q) : prevOf ls (k + 1) = some q := hq
theorem lineT_in {h : Int} {n : List UInt8} {q : LineD} (hB : lineB q = true) (h1 : q.head = h) (h2 : q.name = n) (r : List (List UInt8)) (s : StP) : textD (some (h, n)) (lineT q ++ r) s = textD (some (h, n)) r (putS s q) := by
  subst h1; subst h2
  have e : atL (some (q.head, q.name)) q.leaf q.value = q := rfl
  have := textD_line (o := some (q.head, q.name)) (a := q.leaf) (b := q.value) (r := r) (s := s) (fun _ => leaf_sign hB) (fun p hp => by injection hp with hp; rw [← hp]; exact (line_right hB).1) (fun hp => by cases hp) (line_right hB).2
  rw [e] at this
  exact this
theorem piece_step {ls : List LineD} {k : Nat} {q : LineD} (hq : ls[k]? = some q) (hB : lineB q = true) (r : List (List UInt8)) (s : StP) :
    textD (openAt ls k) (pieceT (prevOf ls k) q (ls[k + 1]?) ++ r) s = textD (openAt ls (k + 1)) r (putS s q) := by
  unfold pieceT
  by_cases h0 : q.head = 0
  · have ho : openAt ls k = none := by
      unfold openAt
      rw [hq]
      cases prevOf ls k with
      | none => rfl
      | some p =>
        simp only []
        rw [if_neg (fun e => e.1 (by rw [(sameC_iff.1 e.2).1]; exact h0))]
    have ho2 : openAt ls (k + 1) = none := by
      unfold openAt
      rw [prev_next hq]
      cases ls[k + 1]? with
      | none => rfl
      | some n => simp only []; rw [if_neg (fun e => e.1 h0)]
    rw [if_pos h0, ho, ho2]
    obtain ⟨hn, hd⟩ := leaf_top hB h0
    have e : atL none q.leaf q.value = q := by
      unfold atL
      cases q
      simp only at h0 hn ⊢
      rw [h0, hn]
    have := textD_line (o := none) (a := q.leaf) (b := q.value) (r := r) (s := s) (fun h => by cases h) (fun p hp => by cases hp) (fun _ => hd) (by rw [e]; exact (line_right hB).2)
    rw [e] at this
    exact this
  · rw [if_neg h0, List.append_assoc, List.append_assoc]
    have h12 : q.head = 1 ∨ q.head = 2 := by
      rcases line_head hB with h | h | h
      · exact absurd h h0
      · exact .inl h
      · exact .inr h
    have hfirst : ∀ r2, textD (openAt ls k) (firstT (prevOf ls k) q ++ r2) s = textD (some (q.head, q.name)) r2 s := fun r2 => by
      have hnew : textD none ([headC q.head, q.name, opnW] ++ r2) s = textD (some (q.head, q.name)) r2 s := by
        have := textD_block (a := headC q.head) (b := q.name) (r := r2) (s := s) (by rw [headD_headC h12]; exact h0) (by rw [headD_headC h12]; exact (line_right hB).1)
        rw [headD_headC h12] at this
        exact this
      unfold openAt firstT
      rw [hq]
      cases prevOf ls k with
      | none => exact hnew
      | some p =>
        simp only []
        by_cases e : sameC p q = true
        · have e2 := sameC_iff.1 e
          rw [if_pos ⟨by rw [e2.1]; exact h0, e⟩, if_pos e, e2.1, e2.2]; rfl
        · rw [if_neg (fun h => e h.2), if_neg e]; exact hnew
    rw [hfirst, lineT_in hB rfl rfl]
    unfold openAt lastT
    rw [prev_next hq]
    cases ls[k + 1]? with
    | none => exact textD_close _ _ _
    | some n =>
      simp only []
      by_cases e : sameC q n = true
      · rw [if_pos e, if_pos ⟨h0, e⟩]; rfl
      · rw [if_neg e, if_neg (fun h => e h.2)]; exact textD_close _ _ _
theorem text_step {ls : List LineD} (h : ∀ q ∈ ls, lineB q = true) : ∀ (k : Nat), k ≤ ls.length → ∀ (r : List (List UInt8)) (s : StP), textD none (textT ls k ++ r) s = textD (openAt ls k) r ((ls.take k).foldl putS s) := by
  intro k
  induction k with
  | zero =>
    intro _ r s
    have : openAt ls 0 = none := rfl
    rw [this]; rfl
  | succ k ih =>
    intro hk r s
    obtain ⟨q, hq⟩ : ∃ q, ls[k]? = some q := ⟨_, List.getElem?_eq_getElem (by omega)⟩
    have e : textT ls (k + 1) = textT ls k ++ pieceT (prevOf ls k) q (ls[k + 1]?) := by rw [textT, hq]
    rw [e, List.append_assoc, ih (by omega), piece_step hq (h q (List.mem_of_getElem? hq)), List.take_add_one, hq]
    simp
theorem text_whole {ls : List LineD} (h : ∀ q ∈ ls, lineB q = true) (r : List (List UInt8)) (s : StP) : textD none (textT ls ls.length ++ r) s = textD none r (ls.foldl putS s) := by
  rw [text_step h ls.length (Nat.le_refl _), List.take_length]
  have : openAt ls ls.length = none := by
    unfold openAt
    rw [List.getElem?_eq_none (Nat.le_refl _)]
    cases prevOf ls ls.length <;> rfl
  rw [this]

/-! lines of unlike keys, set in whatever order -/
def unlike (a b : LineD) : Prop := lessB a b = true ∨ lessB b a = true
theorem unlike_symm {a b : LineD} (h : unlike a b) : unlike b a := h.symm
theorem setC_new {x : LineD} : ∀ {C : List LineD}, (∀ q ∈ C, unlike q x) → (setC x C).length = C.length + 1 ∧ ∀ y, y ∈ setC x C ↔ y = x ∨ y ∈ C := by
  intro C
  induction C with
  | nil =>
    intro _
    have e : setC x [] = [x] := rfl
    rw [e]; simp
  | cons q C ih =>
    intro h
    cases hq : lessB q x with
    | true =>
      rw [setC_ahead hq]
      obtain ⟨h1, h2⟩ := ih (fun b hb => h b (List.mem_cons_of_mem _ hb))
      refine ⟨by simp [h1], fun y => ?_⟩
      rw [List.mem_cons, h2, List.mem_cons]
      constructor
      · rintro (h | h | h)
        · exact .inr (.inl h)
        · exact .inl h
        · exact .inr (.inr h)
      · rintro (h | h | h)
        · exact .inr (.inl h)
        · exact .inl h
        · exact .inr (.inr h)
    | false =>
      have hx : lessB x q = true := by
        rcases h q (List.mem_cons_self ..) with e | e
        · rw [hq] at e; cases e
        · exact e
      rw [setC_here hq hx]
      exact ⟨by simp, fun y => by rw [List.mem_cons]⟩
/-- two rows that rise, of the same lines, are one -/
theorem rises_ext : ∀ {a b : List LineD}, rises a → rises b → (∀ x, x ∈ a ↔ x ∈ b) → a = b := by
  intro a
  induction a with
  | nil =>
    intro b _ _ h
    cases b with
    | nil => rfl
    | cons y b => have := (h y).2 (List.mem_cons_self ..); cases this
  | cons x a ih =>
    intro b ha hb h
    cases b with
    | nil => have := (h x).1 (List.mem_cons_self ..); cases this
    | cons y b =>
      have hxy : x = y := by
        rcases List.mem_cons.1 ((h x).1 (List.mem_cons_self ..)) with e | e
        · exact e
        · have h1 := rises_head hb x e
          rcases List.mem_cons.1 ((h y).2 (List.mem_cons_self ..)) with e2 | e2
          · exact e2.symm
          · have h2 := rises_head ha y e2
            have := less_asymm h1
            rw [h2] at this; cases this
      subst hxy
      congr 1
      refine ih (rises_tail ha) (rises_tail hb) (fun z => ?_)
      constructor
      · intro hz
        rcases List.mem_cons.1 ((h z).1 (List.mem_cons_of_mem _ hz)) with e | e
        · subst e
          have := rises_head ha z hz
          rw [less_irr] at this; cases this
        · exact e
      · intro hz
        rcases List.mem_cons.1 ((h z).2 (List.mem_cons_of_mem _ hz)) with e | e
        · subst e
          have := rises_head hb z hz
          rw [less_irr] at this; cases this
        · exact e
theorem fold_new : ∀ (l C : List LineD), rises C → (∀ x ∈ l, ∀ q ∈ C, unlike q x) → l.Pairwise unlike → C.length + l.length ≤ 64 →
    ∃ D, l.foldl putS (C, false) = (D, false) ∧ rises D ∧ ∀ y, y ∈ D ↔ y ∈ C ∨ y ∈ l := by
  intro l
  induction l with
  | nil => intro C hC _ _ _; exact ⟨C, rfl, hC, fun y => by simp⟩
  | cons x l ih =>
    intro C hC hu hp hlen
    rw [List.pairwise_cons] at hp
    simp only [List.length_cons] at hlen
    obtain ⟨h1, h2⟩ := setC_new (x := x) (C := C) (hu x (List.mem_cons_self ..))
    have hput : putS (C, false) x = (setC x C, false) := by unfold putS; rw [if_neg (by simp), if_pos (by rw [h1]; omega)]
    rw [List.foldl_cons, hput]
    obtain ⟨D, hD, hr, hm⟩ := ih (setC x C) (rises_setC hC) (fun z hz q hq => by
      rcases (h2 q).1 hq with e | e
      · subst e; exact hp.1 z hz
      · exact hu z (List.mem_cons_of_mem _ hz) q e) hp.2 (by rw [h1]; omega)
    refine ⟨D, hD, hr, fun y => ?_⟩
    rw [hm, h2, List.mem_cons]
    constructor
    · rintro ((h | h) | h)
      · exact .inr (.inl h)
      · exact .inl h
      · exact .inr (.inr h)
    · rintro (h | h | h)
      · exact .inl (.inr h)
      · exact .inl (.inl h)
      · exact .inr h
theorem rises_pairwise : ∀ {ls : List LineD}, rises ls → ls.Pairwise unlike := by
  intro ls
  induction ls with
  | nil => intro _; exact List.Pairwise.nil
  | cons a ls ih => intro h; exact List.pairwise_cons.2 ⟨fun b hb => .inl (rises_head h b hb), ih (rises_tail h)⟩
/-- the lines of a configuration, set in whatever order, are it -/
theorem fold_perm {ls l : List LineD} (hr : rightC ls = true) (hp : l.Perm ls) : l.foldl putS ([], false) = (ls, false) := by
  have h1 := right_rises hr
  obtain ⟨D, hD, hrD, hm⟩ := fold_new l [] trivial (fun x _ q hq => by cases hq) ((hp.pairwise_iff (fun h => unlike_symm h)).2 (rises_pairwise h1)) (by rw [hp.length_eq]; have := right_len hr; simpa using this)
  rw [hD, rises_ext hrD h1 (fun x => by rw [hm, hp.mem_iff]; simp)]
end Go.Proofs.YtdannodhlaaoiaaGreatDoor
/- The document's Read, walked. -/
namespace Go.Proofs.YtdannodhlaaoiaaGreatDoor
open Go.RowKit

def plainL : List (List UInt8) := [[], [], [], [115, 104, 111, 119], [99, 111, 109, 112, 97, 114, 101], [99, 104, 101, 99, 107], [99, 111, 109, 109, 105, 116], [], [99, 111, 110, 102, 105, 114, 109]]
theorem plain_yes {x : List UInt8} (hx : x ≠ []) {k : Nat} (hk : 3 ≤ k) (h : plainL[k]? = some x) : verbD x = k ∧ (k = 3 ∨ k = 4 ∨ k = 5 ∨ k = 6 ∨ k = 8) := by
  have hk9 : k < 9 := (List.getElem?_eq_some_iff.1 h).1
  rcases (show k = 3 ∨ k = 4 ∨ k = 5 ∨ k = 6 ∨ k = 7 ∨ k = 8 by omega) with rfl | rfl | rfl | rfl | rfl | rfl <;> have h := Option.some.inj h <;> subst h
  · exact ⟨by decide, by decide⟩
  · exact ⟨by decide, by decide⟩
  · exact ⟨by decide, by decide⟩
  · exact ⟨by decide, by decide⟩
  · exact absurd rfl hx
  · exact ⟨by decide, by decide⟩
theorem verb_get {x : List UInt8} {k : Nat} (h : verbD x = k) (h0 : k ≠ 0) : verbsL[k]? = some x := by
  unfold verbD at h
  cases hf : verbsL.findIdx? (· == x) with
  | none => rw [hf] at h; exact absurd h.symm h0
  | some i =>
    rw [hf] at h
    obtain rfl : i = k := h
    obtain ⟨hi, e, _⟩ := List.findIdx?_eq_some_iff_getElem.1 hf
    rw [List.getElem?_eq_getElem hi]
    simpa using e
theorem plain_no {x : List UInt8} (h : ∀ j, 3 ≤ j → j < 9 → plainL[j]? ≠ some x) : ¬ (verbD x = 3 ∨ verbD x = 4 ∨ verbD x = 5 ∨ verbD x = 6 ∨ verbD x = 8) := by
  rintro (e | e | e | e | e) <;> have e2 := verb_get e (by decide)
  · exact h 3 (by decide) (by decide) e2
  · exact h 4 (by decide) (by decide) e2
  · exact h 5 (by decide) (by decide) e2
  · exact h 6 (by decide) (by decide) e2
  · exact h 8 (by decide) (by decide) e2
theorem word_ne {t : List UInt8} {l : List (List UInt8)} (h : lexL t = .ok l) : ∀ x ∈ l, x ≠ [] := by
  rintro x hx rfl
  rcases (lexL_total t.length t (Nat.le_refl _) l h).2 _ hx with h | ⟨c, h, _⟩
  · revert h; decide
  · cases h
theorem verb_val {x : List UInt8} {k : Nat} {w : List UInt8} (hk : verbsL[k]? = some w) (h0 : k ≠ 0) (hw : verbD w = k) : (x = w) ↔ verbD x = k := by
  constructor
  · rintro rfl; exact hw
  · intro h; have := verb_get h h0; rw [hk] at this; injection this with this; exact this.symm
theorem verb_eqs (X : ByteArray) (k : Nat) (h : verbD X.data.toList = k) : (X.toList == [115, 101, 116]) = decide (k = 1) ∧ (X.toList == [100, 101, 108, 101, 116, 101]) = decide (k = 2) ∧ (X.toList == [99, 111, 109, 109, 105, 116, 45, 99, 111, 110, 102, 105, 114, 109, 101, 100]) = decide (k = 7) ∧ (X.toList == [114, 111, 108, 108, 98, 97, 99, 107]) = decide (k = 9) := by
  rw [Lib.toList_data]
  have gen : ∀ (j : Nat) (w : List UInt8), verbsL[j]? = some w → j ≠ 0 → verbD w = j → (X.data.toList == w) = decide (k = j) := fun j w h1 h0 h2 => by
    rw [Bool.eq_iff_iff, beq_iff_eq, decide_eq_true_eq, verb_val h1 h0 h2, h]
  exact ⟨gen 1 _ rfl (by decide) (by decide), gen 2 _ rfl (by decide) (by decide), gen 7 _ rfl (by decide) (by decide), gen 9 _ rfl (by decide) (by decide)⟩
theorem docin_set (h : Int) (N : List UInt8) (R : List (List UInt8)) (hl : R.length ≠ 2) : docSD.docIn 1 h N R = none := by
  match R, hl with
  | [], _ => rfl
  | [l], _ => rw [docin1, if_neg (by decide)]
  | [_, _], h => exact absurd rfl h
  | _ :: _ :: _ :: _, _ => rfl
theorem docin_del (h : Int) (N : List UInt8) (R : List (List UInt8)) (hl : R.length ≠ 1) : docSD.docIn 2 h N R = none := by
  match R, hl with
  | [], _ => rfl
  | [_], h => exact absurd rfl h
  | [_, _], _ => rw [docin2, if_neg (by decide)]
  | _ :: _ :: _ :: _, _ => rfl
theorem headD_cases (w : List UInt8) : headD w = 0 ∨ headD w = 1 ∨ headD w = 2 := by
  unfold headD; split
  · exact .inr (.inl rfl)
  · split
    · exact .inr (.inr rfl)
    · exact .inl rfl
theorem blk_no_cell {W : World} {b : Nat} {t : TypeId} {a h n : Int} {N L V S : ByteArray} (hb : BlkAt W b t [.int .i64 a, .int .i64 h, .string N, .string L, .string V, .int .i64 n]) (hc : W.cell? ⟨b, 0, none⟩ = some (.string S)) : False := by
  rw [hb.cell 0 _ rfl] at hc; injection hc with hc; cases hc
theorem rfind0 (head : Int) (nm : ByteArray) (w : World) (h : Hid (findD head nm.data.toList = none)) :
    Calls Tryz.prog 97 #[.int .i64 head, .string nm] w fun e w' => e = .returned (.tuple #[.agg #[.int .i64 0, .string ⟨#[]⟩, .int .i64 0, .int .i64 0, .int .i64 0, .slice none 0 0, .string ⟨#[]⟩, .int .i64 0], .bool false]) ∧ Keeps (fun _ => False) w w' := rFind_any head nm none w h
theorem rfind1 (head : Int) (nm : ByteArray) (r : RowD) (N F : ByteArray) (w : World) (h : Hid (findD head nm.data.toList = some r)) (hN : Hid (N = ⟨r.name.toArray⟩)) (hF : Hid (F = ⟨r.df.toArray⟩)) :
    Calls Tryz.prog 97 #[.int .i64 head, .string nm] w fun e w' => ∃ p cc, e = .returned (.tuple #[.agg #[.int .i64 r.head, .string N, .int .i64 r.kind, .int .i64 r.lo, .int .i64 r.hi, .slice p r.cs.length cc, .string F, .int .i64 r.cl], .bool true]) ∧ StrsAt w' (.slice p r.cs.length cc) r.cs ∧ (∀ i, (Value.slice p r.cs.length cc).ownBlock = some i → w.heap.size ≤ i) ∧ Keeps (fun _ => False) w w' := by
  rw [hN.out, hF.out]; exact rFind_new head nm (some r) w h

end Go.Proofs.YtdannodhlaaoiaaGreatDoor
