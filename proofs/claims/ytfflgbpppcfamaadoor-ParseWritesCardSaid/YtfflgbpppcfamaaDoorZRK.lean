/- Write, plain: the code's text of a command and the document's are read alike. -/
import Derived.Test.YtfflgbpppcfamaaDoorZRG
import Derived.Test.YtfflgbpppcfamaaDoorSDA
import Derived.Lib.Join
namespace Go.Proofs.YtfflgbpppcfamaaDoor
open Go.RowKit

/-- the word of a What, as a list -/
def verbW (a : Int) : List UInt8 := if 0 ≤ a ∧ a < 10 then verbsL.getD a.toNat [] else []
def headW (h : Int) : List UInt8 := if h = 1 then areaW else if h = 2 then faceW else []
def itoaL (n : Int) : List UInt8 := Lib.itoa n
/-- the words that the code writes -/
def restC (c : CmdD) : List (List UInt8) :=
  if c.what = 1 ∨ c.what = 2 then
    (if c.head ≠ 0 then [headW c.head, c.name] else []) ++ (if c.leaf ≠ [] then [c.leaf] else []) ++ (if c.what = 1 then [c.value] else [])
  else if c.what = 7 ∨ c.what = 9 then [itoaL c.n] else []
def textC (c : CmdD) : List UInt8 := verbW c.what ++ spaced (restC c)
def opt (l : List UInt8) : List UInt8 := if l = [] then [] else 32 :: l
/-- the text that the document writes -/
def digitsD (n : Int) : List UInt8 := if n < 0 then [45] else digs n.toNat
def headT (c : CmdD) : List UInt8 := if c.head = 1 then (32 :: areaW) ++ 32 :: c.name else if c.head = 2 then (32 :: faceW) ++ 32 :: c.name else []
def textD (c : CmdD) : List UInt8 :=
  if c.what = 1 ∨ c.what = 2 then verbW c.what ++ headT c ++ opt c.leaf ++ opt c.value
  else if c.what = 7 ∨ c.what = 9 then verbW c.what ++ 32 :: digitsD c.n
  else verbW c.what
/-- what is read is so -/
structure ReadOk (c : CmdD) : Prop where
  head : c.head = 0 ∨ c.head = 1 ∨ c.head = 2
  set : c.what = 1 → c.value ≠ []
  del : c.what = 2 → c.value = []
  num : 0 ≤ c.n
theorem path_head {ws : List (List UInt8)} {p : Int × List UInt8 × List UInt8} (h : pathD ws = some p) : p.1 = 0 ∨ p.1 = 1 ∨ p.1 = 2 := by
  match ws, h with
  | [l], h =>
    rw [path1] at h
    split at h
    · injection h with h; subst h; exact .inl rfl
    · cases h
  | [x, y], h =>
    rw [path2] at h
    split at h
    · injection h with h; subst h; exact headD_cases x
    · cases h
  | [x, y, l], h =>
    rw [path3] at h
    split at h
    · split at h
      · injection h with h; subst h; exact headD_cases x
      · cases h
    · cases h
theorem num_pos {ws : List (List UInt8)} {lo hi m : Int} (h : numD ws lo hi = some m) : 0 ≤ m := by
  match ws, h with
  | [w], h =>
    rw [num1] at h
    cases hd : decL w with
    | none => rw [hd] at h; cases h
    | some n =>
      rw [hd] at h
      simp only at h
      split at h
      · injection h with h; subst h; omega
      · cases h
theorem read_ok {t : List UInt8} {c : CmdD} (h : readD t = some c) : ReadOk c := by
  unfold readD at h
  cases hl : lexL t with
  | bad m => rw [hl] at h; cases h
  | ok l =>
    rw [hl] at h
    have hne := word_ne hl
    cases l with
    | nil => cases h
    | cons v rest =>
      have h : cmdD v rest = some c := h
      unfold cmdD at h
      split at h
      · cases h
      split at h
      · unfold settingD at h
        cases hp : pathD rest.dropLast with
        | none => rw [hp] at h; cases h
        | some p =>
          rw [hp] at h
          obtain ⟨ph, pn, pl⟩ := p
          simp only at h
          split at h
          · injection h with h; subst h
            have hr : rest ≠ [] := by rintro rfl; cases hp
            refine ⟨path_head hp, fun _ => ?_, fun e => absurd e (by simp), Int.le_refl _⟩
            show rest.getLastD [] ≠ []
            rw [List.getLastD_eq_getLast?, List.getLast?_eq_some_getLast hr]
            exact hne _ (List.mem_cons_of_mem _ (List.getLast_mem hr))
          · cases h
      split at h
      · cases hp : pathD rest with
        | none => rw [hp] at h; cases h
        | some p =>
          rw [hp] at h
          injection h with h; subst h
          exact ⟨path_head hp, fun e => absurd e (by simp), fun _ => rfl, Int.le_refl _⟩
      split at h
      · cases hp : numD rest 1 65535 with
        | none => rw [hp] at h; cases h
        | some p =>
          rw [hp] at h
          injection h with h; subst h
          exact ⟨.inl rfl, fun e => absurd e (by simp), fun e => absurd e (by simp), num_pos hp⟩
      split at h
      · cases hp : numD rest 0 5 with
        | none => rw [hp] at h; cases h
        | some p =>
          rw [hp] at h
          injection h with h; subst h
          exact ⟨.inl rfl, fun e => absurd e (by simp), fun e => absurd e (by simp), num_pos hp⟩
      split at h
      · injection h with h; subst h
        rename_i h1 h2 _ _ _ 
        refine ⟨.inl rfl, fun e => ?_, fun _ => rfl, Int.le_refl _⟩
        simp only at e
        omega
      · cases h
theorem spaced_nil : spaced [] = [] := rfl
theorem text_same {c : CmdD} (h : ReadOk c) : textC c = textD c := by
  obtain ⟨a, hd, nm, lf, vl, n⟩ := c
  unfold textC textD restC
  by_cases h12 : a = 1 ∨ a = 2
  · simp only [if_pos h12]
    have e2 : spaced (if lf ≠ [] then [lf] else []) = opt lf := by unfold opt; by_cases e : lf = [] <;> simp [e, spaced]
    have e3 : spaced (if a = 1 then [vl] else []) = opt vl := by
      rcases h12 with e | e
      · have := h.set e; simp only at this; unfold opt; simp [e, this, spaced]
      · have := h.del e; simp only at this; unfold opt; simp [e, this, spaced]
    have e1 : spaced (if hd ≠ 0 then [headW hd, nm] else []) = headT ⟨a, hd, nm, lf, vl, n⟩ := by
      have := h.head
      simp only at this
      rcases this with e | e | e <;> subst e <;> simp [headT, headW, spaced]
    have app : ∀ x y : List (List UInt8), spaced (x ++ y) = spaced x ++ spaced y := fun x y => by simp [spaced]
    rw [app, app, e1, e2, e3]
    simp only [List.append_assoc]
  · simp only [if_neg h12]
    by_cases h79 : a = 7 ∨ a = 9
    · simp only [if_pos h79]
      have hn := h.num
      simp only at hn
      have : itoaL n = digitsD n := by
        obtain ⟨m, rfl⟩ : ∃ m : Nat, n = m := ⟨n.toNat, by omega⟩
        unfold itoaL digitsD
        rw [itoa_digs, if_neg (by omega)]; rfl
      rw [this]
      simp [spaced]
    · simp only [if_neg h79, spaced_nil, List.append_nil]
theorem write_iff (c : CmdD) : readD (textC c) = some c ↔ readD (textD c) = some c :=
  ⟨fun h => by rw [← text_same (read_ok h)]; exact h, fun h => by rw [text_same (read_ok h)]; exact h⟩
theorem write_eq {c : CmdD} (h : readD (textC c) = some c) : textC c = textD c := text_same (read_ok h)
end Go.Proofs.YtfflgbpppcfamaaDoor
