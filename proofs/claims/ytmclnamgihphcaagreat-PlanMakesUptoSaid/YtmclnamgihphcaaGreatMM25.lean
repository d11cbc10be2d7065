/- The document's diff, walked. -/
import Derived.Test.YtmclnamgihphcaaGreatMM24
import Derived.Test.YtmclnamgihphcaaGreatMM13
import Derived.Deep.DeepCutAuto
import Derived.Deep.CutBlock
import Derived.Test.YtmclnamgihphcaaGreatMM22
set_option linter.unusedVariables false
set_option linter.unusedSimpArgs false
set_option linter.unusedVariables false
set_option linter.unusedSimpArgs false
namespace Go.Proofs.YtmclnamgihphcaaGreat
open Go.RowKit

def allT (ls : List LineD) (k : Nat) : List LineD := allK (ls.take k)
theorem allT_step {ls : List LineD} {k : Nat} {x : LineD} (h : ls[k]? = some x) : allT ls (k + 1) = insK (kL x) (allT ls k) := by
  unfold allT allK
  rw [List.take_add_one, h, List.foldl_append]; rfl
/-- where a key stands: after all that are less -/
def posK (l : LineD) : List LineD → Nat
  | [] => 0
  | q :: r => if lessB q l = true then posK l r + 1 else 0
theorem insK_pos {l : LineD} (hl : kL l = l) : ∀ {X : List LineD}, (∀ q ∈ X, kL q = q) → (X[posK l X]? = some l → insK l X = X) ∧ (X[posK l X]? ≠ some l → insK l X = X.take (posK l X) ++ (l :: X.drop (posK l X))) := by
  intro X
  induction X with
  | nil => intro _; exact ⟨fun h => by simp at h, fun _ => rfl⟩
  | cons q r ih =>
    intro hq
    obtain ⟨i1, i2⟩ := ih (fun x hx => hq x (by simp [hx]))
    unfold insK posK
    by_cases h1 : lessB q l = true
    · rw [if_pos h1, if_pos h1, List.getElem?_cons_succ, List.take_succ_cons, List.drop_succ_cons]
      exact ⟨fun h => by rw [i1 h], fun h => by rw [i2 h]; rfl⟩
    · rw [if_neg h1, if_neg h1]
      by_cases h2 : lessB l q = true
      · rw [if_pos h2]
        refine ⟨fun e => ?_, fun _ => rfl⟩
        simp at e
        rw [e, less_irrL] at h2; cases h2
      · rw [if_neg h2]
        refine ⟨fun _ => rfl, fun e => ?_⟩
        have := kL_eq (Bool.eq_false_iff.2 h1) (Bool.eq_false_iff.2 h2)
        rw [hq q (by simp), hl] at this
        simp [this] at e
theorem posK_le (l : LineD) (X : List LineD) : posK l X ≤ X.length := by
  induction X with
  | nil => exact Nat.le_refl _
  | cons q r ih => unfold posK; split <;> simp <;> omega
theorem posK_lt {l : LineD} : ∀ {X : List LineD} {k : Nat} {q : LineD}, k < posK l X → X[k]? = some q → lessB q l = true := by
  intro X
  induction X with
  | nil => intro k q h _; simp [posK] at h
  | cons p r ih =>
    intro k q h hq
    unfold posK at h
    by_cases hp : lessB p l = true
    · rw [if_pos hp] at h
      cases k with
      | zero => simp at hq; subst hq; exact hp
      | succ k => exact ih (k := k) (by omega) (by simpa using hq)
    · rw [if_neg hp] at h; omega
theorem posK_at {l : LineD} : ∀ {X : List LineD} {q : LineD}, X[posK l X]? = some q → lessB q l = false := by
  intro X
  induction X with
  | nil => intro q hq; simp at hq
  | cons p r ih =>
    intro q hq
    unfold posK at hq
    by_cases hp : lessB p l = true
    · rw [if_pos hp] at hq; exact ih (by simpa using hq)
    · rw [if_neg hp] at hq; simp at hq; subst hq; simpa using hp
theorem posK_of {l : LineD} : ∀ {X : List LineD} (m : Nat), (∀ i q, i < m → X[i]? = some q → lessB q l = true) → m ≤ X.length → (∀ q, X[m]? = some q → lessB q l = false) → posK l X = m := by
  intro X
  induction X with
  | nil => intro m _ hm _; simp at hm; subst hm; rfl
  | cons p r ih =>
    intro m h1 hm h2
    unfold posK
    cases m with
    | zero =>
      have := h2 p rfl
      rw [this, if_neg Bool.false_ne_true]
    | succ m =>
      rw [if_pos (h1 0 p (by omega) rfl), ih m (fun i q hi hq => h1 (i + 1) q (by omega) (by simpa using hq)) (by simpa using hm) (fun q hq => h2 q (by simpa using hq))]
theorem rows_full {α : Type} {sz : Nat} {cv : α → List Value} {w : World} {p : Option Addr} {n c : Nat} {xs : List α} (h : RowsAt sz cv w (.slice p n c) xs) (k : Nat) (hk : k ≤ xs.length) : RowsAt sz cv w (.slice p k k) (xs.take k) := by
  obtain ⟨p2, c2, e, h1, h2, h3⟩ := h
  injection e with e1 e2 e3
  subst e1; subst e3
  have hl : (xs.take k).length = k := by rw [List.length_take]; omega
  refine ⟨p, k, by rw [hl], fun e => ?_, by rw [hl]; exact Nat.le_refl _, fun h0 => ?_⟩
  · have := h1 e; omega
  · obtain ⟨g, o, e, hr⟩ := h3 (by omega)
    refine ⟨g, o, e, fun i x hx => hr i x ?_⟩
    rw [List.getElem?_take] at hx
    split at hx
    · exact hx
    · cases hx
theorem own_new5 (w : World) (f : LineD) : OwnR 48 4 lineVals w (w.alloc (.cells (lineVals f).toArray 48)) (.slice (some ⟨w.heap.size, 0, none⟩) 1 1) [f] := by
  refine ⟨⟨by simp [rowCells, lineVals], .inr ⟨w.heap.size, 1, (lineVals f).toArray, rfl, Nat.zero_le _, heap_alloc_last w _, by simp, by unfold maxLen; simp, by simp [lineVals], by simp [rowCells, lineVals]⟩⟩, fun k e => by simp [Value.ownBlock] at e; omega, ((Keeps.refl (fun _ => False) w).alloc _).size⟩
theorem allT_facts (ls : List LineD) (k : Nat) : (∀ q ∈ allT ls k, kL q = q) := (allK_from (ls.take k) [] trivial (fun q hq => by simp at hq)).2.1
end Go.Proofs.YtmclnamgihphcaaGreat
/- The document's Make, plain: what is set of names, the least kind of each. -/
set_option linter.unusedVariables false
set_option linter.unusedSimpArgs false
namespace Go.Proofs.YtmclnamgihphcaaGreat
open Go.RowKit

/-- a name's kind, or none -/
abbrev KMap := List UInt8 → Option Int
def minO (o : Option Int) (k : Int) : Int := match o with
  | none => k
  | some j => if k < j then k else j
def updK (K : KMap) (n : List UInt8) (k : Int) : KMap := fun m => if m = n then some k else K m
def kOf (P : List (List UInt8 × Int)) : KMap := P.foldl (fun K p => updK K p.1 (minO (K p.1) p.2)) (fun _ => none)
theorem kOf_snoc (P : List (List UInt8 × Int)) (n : List UInt8) (k : Int) : kOf (P ++ [(n, k)]) = updK (kOf P) n (minO (kOf P n) k) := by
  unfold kOf
  rw [List.foldl_append]; rfl
def LeastK (K : KMap) (S : List UInt8 → Int → Prop) : Prop := ∀ n, match K n with
  | none => ∀ k, ¬ S n k
  | some k => S n k ∧ ∀ j, S n j → k ≤ j
theorem least_kOf (P : List (List UInt8 × Int)) : LeastK (kOf P) (fun n k => (n, k) ∈ P) := by
  have key : ∀ (P : List (List UInt8 × Int)) (K : KMap) (S : List UInt8 → Int → Prop), LeastK K S → LeastK (P.foldl (fun K p => updK K p.1 (minO (K p.1) p.2)) K) (fun n k => S n k ∨ (n, k) ∈ P) := by
    intro P
    induction P with
    | nil => intro K S h n; have := h n; simpa using this
    | cons p P ih =>
      intro K S h
      have h2 : LeastK (updK K p.1 (minO (K p.1) p.2)) (fun n k => S n k ∨ (n = p.1 ∧ k = p.2)) := by
        intro n
        have hn := h n
        unfold updK
        by_cases e : n = p.1
        · subst e
          rw [if_pos rfl]
          cases hk : K p.1 with
          | none =>
            rw [hk] at hn
            exact ⟨.inr ⟨rfl, rfl⟩, fun j hj => by rcases hj with hj | hj; exact absurd hj (hn j); show p.2 ≤ j; omega⟩
          | some j0 =>
            rw [hk] at hn
            have hmm : minO (some j0) p.2 = if p.2 < j0 then p.2 else j0 := rfl
            rw [hmm]
            by_cases hlt : p.2 < j0
            · rw [if_pos hlt]
              exact ⟨.inr ⟨rfl, rfl⟩, fun j hj => by rcases hj with hj | hj; have := hn.2 j hj; omega; omega⟩
            · rw [if_neg hlt]
              exact ⟨.inl hn.1, fun j hj => by rcases hj with hj | hj; exact hn.2 j hj; omega⟩
        · rw [if_neg e]
          cases hk : K n with
          | none =>
            rw [hk] at hn
            exact fun k hk2 => by rcases hk2 with h1 | h1; exact hn k h1; exact e h1.1
          | some j0 =>
            rw [hk] at hn
            exact ⟨.inl hn.1, fun j hj => by rcases hj with hj | hj; exact hn.2 j hj; exact absurd hj.1 e⟩
      have h3 := ih _ _ h2
      intro n
      have h4 := h3 n
      rw [List.foldl_cons]
      have hs : ∀ k, ((S n k ∨ (n = p.1 ∧ k = p.2)) ∨ (n, k) ∈ P) ↔ (S n k ∨ (n, k) ∈ p :: P) := fun k => by
        rw [List.mem_cons, or_assoc]
        constructor
        · rintro (h | ⟨h1, h2⟩ | h)
          · exact .inl h
          · exact .inr (.inl (by rw [h1, h2]))
          · exact .inr (.inr h)
        · rintro (h | h | h)
          · exact .inl h
          · exact .inr (.inl (by rw [← h]; exact ⟨rfl, rfl⟩))
          · exact .inr (.inr h)
      revert h4
      cases P.foldl (fun K p => updK K p.1 (minO (K p.1) p.2)) (updK K p.1 (minO (K p.1) p.2)) n with
      | none => exact fun h4 k hk => h4 k ((hs k).2 hk)
      | some k => exact fun h4 => ⟨(hs k).1 h4.1, fun j hj => h4.2 j ((hs j).2 hj)⟩
  have h0 : LeastK (fun _ => none) (fun _ _ => False) := fun n k h => h
  have := key P _ _ h0
  intro n
  have h1 := this n
  unfold kOf
  revert h1
  cases P.foldl (fun K p => updK K p.1 (minO (K p.1) p.2)) (fun _ => none) n with
  | none => exact fun h1 k hk => h1 k (.inr hk)
  | some k => exact fun h1 => ⟨h1.1.resolve_left id, fun j hj => h1.2 j (.inr hj)⟩
theorem kOf_some {P : List (List UInt8 × Int)} {n : List UInt8} {k : Int} : kOf P n = some k ↔ (n, k) ∈ P ∧ ∀ j, (n, j) ∈ P → k ≤ j := by
  have h := least_kOf P n
  constructor
  · intro e; rw [e] at h; exact h
  · intro e
    cases hk : kOf P n with
    | none => rw [hk] at h; exact absurd e.1 (h k)
    | some j =>
      rw [hk] at h
      have h1 := h.2 k e.1
      have h2 := e.2 j h.1
      congr 1; omega

/-- what the document sets of a change -/
def kindD (X Y : List (List UInt8)) (c : ChD) : Int := if Y.contains c.line.name = true then (if X.contains c.line.name = true then leafK c.line.leaf else 6) else 2
def ins1 (X Y : List (List UInt8)) (c : ChD) : List (List UInt8 × Int) := if c.line.head = 2 then [(c.line.name, kindD X Y c)] else []
def hitX (a b : List LineD) (Y : List (List UInt8)) (c : ChD) (n : List UInt8) : Bool := Y.contains n && (decide (valueR a 2 n areaW = c.line.name) && decide (valueR b 2 n areaW = c.line.name))
def ins2x (a b : List LineD) (Y : List (List UInt8)) (c : ChD) (n : List UInt8) : List (List UInt8 × Int) := if hitX a b Y c n = true then [(n, 5)] else []
def ins2 (a b : List LineD) (X Y : List (List UInt8)) (c : ChD) : List (List UInt8 × Int) := if typeB c = true then X.flatMap (ins2x a b Y c) else []
def areaI (c : ChD) : List (List UInt8) := if isCost c = true then [c.line.name] else []
def allP (a b : List LineD) (cs : List ChD) : List (List UInt8 × Int) := cs.flatMap (ins1 (namesA 2 a) (namesA 2 b)) ++ cs.flatMap (ins2 a b (namesA 2 a) (namesA 2 b))
/-- the document's actions, as members -/
def outD (a b : List LineD) (cs : List ChD) (x : ActD) : Prop := 1 ≤ x.kind ∧ x.kind < 10 ∧ (kOf (allP a b cs) x.name = some x.kind ∨ (x.kind = 7 ∧ x.name ∈ cs.flatMap areaI))

theorem names_has {h : Int} : ∀ (ls : List LineD) (p : Option LineD) (q : LineD), q ∈ ls → q.head = h → q.name ∈ namesFrom h p ls ∨ ∃ p', p = some p' ∧ p'.head = h ∧ p'.name = q.name := by
  intro ls
  induction ls with
  | nil => intro p q hq; simp at hq
  | cons x ls ih =>
    intro p q hq hh
    unfold namesFrom
    have hx : x.head = h → x.name ∈ (if x.head = h ∧ (match p with | none => true | some p => !(decide (p.head = x.head) && decide (p.name = x.name))) = true then [x.name] else []) ∨ ∃ p', p = some p' ∧ p'.head = h ∧ p'.name = x.name := fun hxh => by
      cases p with
      | none => left; rw [if_pos ⟨hxh, rfl⟩]; simp
      | some p =>
        by_cases e : p.head = x.head ∧ p.name = x.name
        · right; exact ⟨p, rfl, e.1.trans hxh, e.2⟩
        · left
          rw [if_pos ⟨hxh, by
            by_cases e1 : p.head = x.head
            · have e2 : ¬ p.name = x.name := fun h => e ⟨e1, h⟩
              simp [e2]
            · simp [e1]⟩]; simp
    rw [List.mem_append]
    rcases List.mem_cons.1 hq with rfl | hq
    · rcases hx hh with h1 | h1
      · exact .inl (.inl h1)
      · exact .inr h1
    · rcases ih (some x) q hq hh with h1 | ⟨p', e, h1, h2⟩
      · exact .inl (.inr h1)
      · injection e with e; subst e
        rw [← h2]
        rcases hx h1 with h3 | h3
        · exact .inl (.inl h3)
        · exact .inr h3
theorem mem_ite1 {α : Type} {c : Prop} [Decidable c] {n x : α} : n ∈ (if c then [x] else []) ↔ c ∧ n = x := by
  by_cases h : c
  · rw [if_pos h]; simp [h]
  · rw [if_neg h]; simp [h]
theorem names_in {h : Int} : ∀ (ls : List LineD) (p : Option LineD) (n : List UInt8), n ∈ namesFrom h p ls → ∃ q ∈ ls, q.head = h ∧ q.name = n := by
  intro ls
  induction ls with
  | nil => intro p n hn; simp [namesFrom] at hn
  | cons x ls ih =>
    intro p n hn
    unfold namesFrom at hn
    rw [List.mem_append] at hn
    rcases hn with hn | hn
    · obtain ⟨hc, e⟩ := mem_ite1.1 hn
      exact ⟨x, by simp, hc.1, e.symm⟩
    · obtain ⟨q, h1, h2⟩ := ih _ _ hn
      exact ⟨q, by simp [h1], h2⟩
theorem names_mem {n : List UInt8} {ls : List LineD} : n ∈ namesA 2 ls ↔ ∃ q ∈ ls, q.head = 2 ∧ q.name = n := by
  have e : namesA 2 ls = namesFrom 2 none ls := if_neg (by decide)
  rw [e]
  constructor
  · exact names_in ls none n
  · rintro ⟨q, h1, h2, rfl⟩
    rcases names_has ls none q h1 h2 with h | ⟨p', h, -⟩
    · exact h
    · cases h
theorem mem_docCh {a b : List LineD} {c : ChD} : c ∈ docCh a b ↔ ∃ l ∈ a ++ b, c = ⟨kL l, valK a (kL l), valK b (kL l)⟩ ∧ valK a (kL l) ≠ valK b (kL l) := by
  unfold docCh
  rw [List.mem_flatMap]
  obtain ⟨-, -, j3⟩ := allK_from (a ++ b) [] trivial (fun q hq => by simp at hq)
  constructor
  · rintro ⟨k, hk, hc⟩
    obtain ⟨l, hl, rfl⟩ := ((j3 k).1 hk).resolve_left (by simp)
    unfold oneCh at hc
    split at hc
    · simp at hc
    · rename_i hne
      exact ⟨l, hl, List.mem_singleton.1 hc, hne⟩
  · rintro ⟨l, hl, rfl, hne⟩
    refine ⟨kL l, (j3 (kL l)).2 (.inr ⟨l, hl, rfl⟩), ?_⟩
    unfold oneCh
    rw [if_neg hne]
    simp; rfl
end Go.Proofs.YtmclnamgihphcaaGreat
/- The document's actions are the code's, as members. -/
set_option linter.unusedVariables false
set_option linter.unusedSimpArgs false
namespace Go.Proofs.YtmclnamgihphcaaGreat
open Go.RowKit

theorem leafK_range (l : List UInt8) : 3 ≤ leafK l ∧ leafK l ≤ 9 := by
  unfold leafK
  split
  · (repeat' split) <;> omega
  · omega
theorem leaf_area : leafK areaW = 3 := by decide +kernel
theorem find_area : (findD 2 areaW).map (·.df) = some [] := by decide +kernel
theorem valueR_area (ls : List LineD) (n : List UInt8) : valueR ls 2 n areaW = valueK ls 2 n areaW := by
  unfold valueR valueK
  obtain ⟨r, h1, h2⟩ := Option.map_eq_some_iff.1 find_area
  cases ls.find? (keyB 2 n areaW) with
  | some q => rfl
  | none => rw [h1]; exact h2
theorem keyB_is {h : Int} {n l : List UInt8} {q : LineD} : keyB h n l q = true ↔ q.head = h ∧ q.name = n ∧ q.leaf = l := by
  unfold keyB
  simp only [Bool.and_eq_true, decide_eq_true_eq, and_assoc]
theorem valK_in {a : List LineD} {l : LineD} (hr : rightC a = true) (hl : l ∈ a) : valK a (kL l) ≠ [] := by
  show valueK a l.head l.name l.leaf ≠ []
  unfold valueK
  cases hf : a.find? (keyB l.head l.name l.leaf) with
  | none =>
    have := List.find?_eq_none.1 hf l hl
    exact absurd (keyB_is.2 ⟨rfl, rfl, rfl⟩) this
  | some q => exact value_ne (right_line hr q (List.mem_of_find?_eq_some hf))
theorem valueK_out {a : List LineD} {h : Int} {n l : List UInt8} (hn : ∀ q ∈ a, ¬ (q.head = h ∧ q.name = n ∧ q.leaf = l)) : valueK a h n l = [] := by
  unfold valueK
  rw [List.find?_eq_none.2 (fun q hq e => hn q hq (keyB_is.1 e))]
/-- the members that the code takes the least of -/
def faceT (b : List LineD) (n : List UInt8) (cs : List ChD) (k : Int) : Prop := (∃ c ∈ cs, c.line.head = 2 ∧ c.line.name = n ∧ k = leafK c.line.leaf) ∨ (k = 5 ∧ ∃ c ∈ cs, typeB c = true ∧ c.line.name = valueR b 2 n areaW)
theorem type_head {c : ChD} (h : typeB c = true) : c.line.head = 1 := by
  unfold typeB at h
  simp only [Bool.and_eq_true, decide_eq_true_eq] at h
  exact h.1
theorem fold_least (n area : List UInt8) : ∀ (cs : List ChD) (i : Int),
    (cs.foldl (stepF n area) i = i ∨ (∃ c ∈ cs, c.line.head = 2 ∧ c.line.name = n ∧ cs.foldl (stepF n area) i = leafK c.line.leaf) ∨ (cs.foldl (stepF n area) i = 5 ∧ ∃ c ∈ cs, typeB c = true ∧ c.line.name = area)) ∧
    cs.foldl (stepF n area) i ≤ i ∧ (∀ c ∈ cs, c.line.head = 2 → c.line.name = n → cs.foldl (stepF n area) i ≤ leafK c.line.leaf) ∧ (∀ c ∈ cs, typeB c = true → c.line.name = area → cs.foldl (stepF n area) i ≤ 5) := by
  intro cs
  induction cs with
  | nil => intro i; exact ⟨.inl rfl, Int.le_refl _, fun c hc => by simp at hc, fun c hc => by simp at hc⟩
  | cons c cs ih =>
    intro i
    rw [List.foldl_cons]
    obtain ⟨h1, h2, h3, h4⟩ := ih (stepF n area i c)
    generalize hr : cs.foldl (stepF n area) (stepF n area i c) = r at h1 h2 h3 h4 ⊢
    have hs1 : stepF n area i c ≤ i ∧ (stepF n area i c = i ∨ (c.line.head = 2 ∧ c.line.name = n ∧ stepF n area i c = leafK c.line.leaf) ∨ (stepF n area i c = 5 ∧ typeB c = true ∧ c.line.name = area)) ∧ (c.line.head = 2 → c.line.name = n → stepF n area i c ≤ leafK c.line.leaf) ∧ (typeB c = true → c.line.name = area → stepF n area i c ≤ 5) := by
      unfold stepF
      by_cases e1 : c.line.head = 2 ∧ c.line.name = n
      · rw [if_pos e1]
        refine ⟨by omega, ?_, fun _ _ => by omega, fun ht _ => by have := type_head ht; omega⟩
        rcases Int.min_def i (leafK c.line.leaf) ▸ (show (if i ≤ leafK c.line.leaf then i else leafK c.line.leaf) = i ∨ (if i ≤ leafK c.line.leaf then i else leafK c.line.leaf) = leafK c.line.leaf by split <;> simp) with h | h
        · exact .inl h
        · exact .inr (.inl ⟨e1.1, e1.2, h⟩)
      · rw [if_neg e1]
        by_cases e2 : typeB c = true ∧ c.line.name = area
        · rw [if_pos e2]
          refine ⟨by omega, ?_, fun a b => absurd ⟨a, b⟩ e1, fun _ _ => by omega⟩
          rcases Int.min_def i 5 ▸ (show (if i ≤ 5 then i else 5) = i ∨ (if i ≤ 5 then i else 5) = 5 by split <;> simp) with h | h
          · exact .inl h
          · exact .inr (.inr ⟨h, e2.1, e2.2⟩)
        · rw [if_neg e2]
          exact ⟨Int.le_refl _, .inl rfl, fun a b => absurd ⟨a, b⟩ e1, fun a b => absurd ⟨a, b⟩ e2⟩
    obtain ⟨s1, s2, s3, s4⟩ := hs1
    refine ⟨?_, by omega, fun q hq e1 e2 => ?_, fun q hq e1 e2 => ?_⟩
    · rcases h1 with h1 | ⟨q, hq, h1⟩ | ⟨h1, q, hq, h5⟩
      · rcases s2 with s2 | ⟨t1, t2, t3⟩ | ⟨t1, t2, t3⟩
        · exact .inl (h1.trans s2)
        · exact .inr (.inl ⟨c, by simp, t1, t2, h1.trans t3⟩)
        · exact .inr (.inr ⟨h1.trans t1, c, by simp, t2, t3⟩)
      · exact .inr (.inl ⟨q, by simp [hq], h1⟩)
      · exact .inr (.inr ⟨h1, q, by simp [hq], h5⟩)
    · rcases List.mem_cons.1 hq with rfl | hq
      · have := s3 e1 e2; omega
      · exact h3 q hq e1 e2
    · rcases List.mem_cons.1 hq with rfl | hq
      · have := s4 e1 e2; omega
      · exact h4 q hq e1 e2
theorem face_least {b : List LineD} {n : List UInt8} {cs : List ChD} {k : Int} : (faceK b n cs = k ∧ k ≠ 10) ↔ (faceT b n cs k ∧ ∀ j, faceT b n cs j → k ≤ j) := by
  obtain ⟨h1, h2, h3, h4⟩ := fold_least n (valueR b 2 n areaW) cs 10
  have hle : ∀ j, faceT b n cs j → faceK b n cs ≤ j := fun j hj => by
    rcases hj with ⟨c, hc, e1, e2, e3⟩ | ⟨e, c, hc, e1, e2⟩
    · rw [e3]; exact h3 c hc e1 e2
    · rw [e]; exact h4 c hc e1 e2
  have hin : faceK b n cs ≠ 10 → faceT b n cs (faceK b n cs) := fun hne => by
    rcases h1 with h1 | h1 | h1
    · exact absurd h1 hne
    · exact .inl h1
    · exact .inr h1
  constructor
  · rintro ⟨rfl, hne⟩
    exact ⟨hin hne, hle⟩
  · rintro ⟨g1, g2⟩
    have h5 := hle k g1
    have h6 : k ≤ 9 := by
      rcases g1 with ⟨c, -, -, -, e⟩ | ⟨e, -⟩
      · rw [e]; exact (leafK_range _).2
      · omega
    have h7 := g2 _ (hin (by omega))
    exact ⟨by omega, by omega⟩
theorem mem_allP {a b : List LineD} {cs : List ChD} {n : List UInt8} {k : Int} : (n, k) ∈ allP a b cs ↔ (∃ c ∈ cs, c.line.head = 2 ∧ c.line.name = n ∧ k = kindD (namesA 2 a) (namesA 2 b) c) ∨ (k = 5 ∧ n ∈ namesA 2 a ∧ n ∈ namesA 2 b ∧ ∃ c ∈ cs, typeB c = true ∧ valueR a 2 n areaW = c.line.name ∧ valueR b 2 n areaW = c.line.name) := by
  unfold allP
  rw [List.mem_append, List.mem_flatMap, List.mem_flatMap]
  constructor
  · rintro (⟨c, hc, h⟩ | ⟨c, hc, h⟩)
    · left
      obtain ⟨h1, h2⟩ := mem_ite1.1 h
      injection h2 with h2 h3
      exact ⟨c, hc, h1, h2.symm, h3⟩
    · right
      unfold ins2 at h
      split at h
      · rename_i ht
        obtain ⟨m, hm, h⟩ := List.mem_flatMap.1 h
        obtain ⟨h1, h2⟩ := mem_ite1.1 h
        injection h2 with h2 h3
        subst h2
        unfold hitX at h1
        simp only [Bool.and_eq_true, decide_eq_true_eq, List.contains_iff_mem] at h1
        exact ⟨h3, hm, h1.1, c, hc, ht, h1.2.1, h1.2.2⟩
      · simp at h
  · rintro (⟨c, hc, h1, h2, h3⟩ | ⟨hk, hx, hy, c, hc, ht, h1, h2⟩)
    · left
      exact ⟨c, hc, mem_ite1.2 ⟨h1, by rw [h2, h3]⟩⟩
    · right
      refine ⟨c, hc, ?_⟩
      unfold ins2
      rw [if_pos ht]
      refine List.mem_flatMap.2 ⟨n, hx, mem_ite1.2 ⟨?_, by rw [hk]⟩⟩
      unfold hitX
      simp only [Bool.and_eq_true, decide_eq_true_eq, List.contains_iff_mem]
      exact ⟨hy, h1, h2⟩
theorem ch_name {a b : List LineD} {c : ChD} (hc : c ∈ docCh a b) (h2 : c.line.head = 2) : c.line.name ∈ namesA 2 a ∨ c.line.name ∈ namesA 2 b := by
  obtain ⟨l, hl, rfl, -⟩ := mem_docCh.1 hc
  rcases List.mem_append.1 hl with hl | hl
  · exact .inl (names_mem.2 ⟨l, hl, h2, rfl⟩)
  · exact .inr (names_mem.2 ⟨l, hl, h2, rfl⟩)
theorem ch_left {a b : List LineD} {n : List UInt8} (hr : rightC a = true) (hx : n ∈ namesA 2 a) (hy : ¬ n ∈ namesA 2 b) : ∃ c ∈ docCh a b, c.line.head = 2 ∧ c.line.name = n := by
  obtain ⟨l, hl, h1, h2⟩ := names_mem.1 hx
  refine ⟨_, mem_docCh.2 ⟨l, List.mem_append.2 (.inl hl), rfl, fun e => valK_in hr hl (e.trans ?_)⟩, h1, h2⟩
  exact valueK_out (fun q hq e => hy (names_mem.2 ⟨q, hq, e.1.trans h1, e.2.1.trans h2⟩))
theorem ch_right {a b : List LineD} {n : List UInt8} (hr : rightC b = true) (hx : ¬ n ∈ namesA 2 a) (hy : n ∈ namesA 2 b) : ∃ c ∈ docCh a b, c.line.head = 2 ∧ c.line.name = n := by
  obtain ⟨l, hl, h1, h2⟩ := names_mem.1 hy
  refine ⟨_, mem_docCh.2 ⟨l, List.mem_append.2 (.inr hl), rfl, fun e => valK_in hr hl (e.symm.trans ?_)⟩, h1, h2⟩
  exact valueK_out (fun q hq e => hx (names_mem.2 ⟨q, hq, e.1.trans h1, e.2.1.trans h2⟩))
theorem ch_area {a b : List LineD} {n : List UInt8} (hne : valueR a 2 n areaW ≠ valueR b 2 n areaW) : ∃ c ∈ docCh a b, c.line.head = 2 ∧ c.line.name = n ∧ c.line.leaf = areaW := by
  rw [valueR_area, valueR_area] at hne
  have hl : ∃ l ∈ a ++ b, l.head = 2 ∧ l.name = n ∧ l.leaf = areaW := by
    refine Classical.byContradiction fun hno => hne ?_
    rw [valueK_out (fun q hq e => hno ⟨q, List.mem_append.2 (.inl hq), e⟩), valueK_out (fun q hq e => hno ⟨q, List.mem_append.2 (.inr hq), e⟩)]
  obtain ⟨l, hl, h1, h2, h3⟩ := hl
  refine ⟨_, mem_docCh.2 ⟨l, hl, rfl, ?_⟩, h1, h2, h3⟩
  show valueK a l.head l.name l.leaf ≠ valueK b l.head l.name l.leaf
  rw [h1, h2, h3]; exact hne
theorem least_same {S T : Int → Prop} (h1 : ∀ k, S k → T k) (h2 : ∀ k, T k → ∃ j, S j ∧ j ≤ k) (k : Int) : (S k ∧ ∀ j, S j → k ≤ j) ↔ (T k ∧ ∀ j, T j → k ≤ j) := by
  constructor
  · rintro ⟨g1, g2⟩
    exact ⟨h1 k g1, fun j hj => by obtain ⟨i, hi, hij⟩ := h2 j hj; have := g2 i hi; omega⟩
  · rintro ⟨g1, g2⟩
    obtain ⟨i, hi, hik⟩ := h2 k g1
    have := g2 i (h1 i hi)
    obtain rfl : i = k := by omega
    exact ⟨hi, fun j hj => g2 j (h1 j hj)⟩
theorem kOf_face {a b : List LineD} {n : List UInt8} {k : Int} (hx : n ∈ namesA 2 a) (hy : n ∈ namesA 2 b) : kOf (allP a b (docCh a b)) n = some k ↔ (faceK b n (docCh a b) = k ∧ k ≠ 10) := by
  rw [kOf_some, face_least]
  have hkind : ∀ c : ChD, c.line.name = n → kindD (namesA 2 a) (namesA 2 b) c = leafK c.line.leaf := fun c e => by
    unfold kindD
    rw [e, if_pos (List.contains_iff_mem.2 hy), if_pos (List.contains_iff_mem.2 hx)]
  refine least_same (S := fun k => (n, k) ∈ allP a b (docCh a b)) (T := faceT b n (docCh a b)) (fun k h => ?_) (fun k h => ?_) k
  · rcases mem_allP.1 h with ⟨c, hc, e1, e2, e3⟩ | ⟨e, -, -, c, hc, ht, -, e2⟩
    · exact .inl ⟨c, hc, e1, e2, by rw [e3, hkind c e2]⟩
    · exact .inr ⟨e, c, hc, ht, e2.symm⟩
  · rcases h with ⟨c, hc, e1, e2, e3⟩ | ⟨e, c, hc, ht, e2⟩
    · exact ⟨k, mem_allP.2 (.inl ⟨c, hc, e1, e2, by rw [e3, hkind c e2]⟩), Int.le_refl _⟩
    · by_cases hne : valueR a 2 n areaW = valueR b 2 n areaW
      · exact ⟨5, mem_allP.2 (.inr ⟨rfl, hx, hy, c, hc, ht, hne.trans e2.symm, e2.symm⟩), by omega⟩
      · obtain ⟨c', hc', h1, h2, h3⟩ := ch_area hne
        exact ⟨3, mem_allP.2 (.inl ⟨c', hc', h1, h2, by rw [hkind c' h2, h3, leaf_area]⟩), by omega⟩
theorem mem_faces {a b : List LineD} {cs : List ChD} {x : ActD} : x ∈ facesC a b cs ↔ (x.name ∈ namesA 2 a ∧ x.name ∈ namesA 2 b ∧ faceK b x.name cs = x.kind ∧ x.kind ≠ 10) ∨ (x.name ∈ namesA 2 a ∧ ¬ x.name ∈ namesA 2 b ∧ x.kind = 2) ∨ (¬ x.name ∈ namesA 2 a ∧ x.name ∈ namesA 2 b ∧ x.kind = 6) := by
  obtain ⟨xk, xn⟩ := x
  unfold facesC
  rw [List.mem_append, List.mem_flatMap, List.mem_flatMap]
  constructor
  · rintro (⟨n, hn, h⟩ | ⟨n, hn, h⟩)
    · unfold face1 at h
      by_cases hc : (namesA 2 b).contains n = true
      · rw [if_pos hc] at h
        split at h
        · simp at h
        · rename_i hne
          have e := List.mem_singleton.1 h
          injection e with e1 e2
          subst e1; subst e2
          exact .inl ⟨hn, List.contains_iff_mem.1 hc, rfl, hne⟩
      · rw [if_neg hc] at h
        rw [if_neg (by decide)] at h
        have e := List.mem_singleton.1 h
        injection e with e1 e2
        subst e1; subst e2
        exact .inr (.inl ⟨hn, fun h => hc (List.contains_iff_mem.2 h), rfl⟩)
    · unfold face2 at h
      split at h
      · simp at h
      · rename_i hne
        have e := List.mem_singleton.1 h
        injection e with e1 e2
        subst e1; subst e2
        exact .inr (.inr ⟨fun h => hne (List.contains_iff_mem.2 h), hn, rfl⟩)
  · rintro (⟨h1, h2, h3, h4⟩ | ⟨h1, h2, h3⟩ | ⟨h1, h2, h3⟩)
    · left
      refine ⟨xn, h1, ?_⟩
      unfold face1
      rw [if_pos (List.contains_iff_mem.2 h2), if_neg (by rw [h3]; exact h4), h3]; simp
    · left
      refine ⟨xn, h1, ?_⟩
      unfold face1
      rw [if_neg (fun h => h2 (List.contains_iff_mem.1 h)), if_neg (by decide)]
      have h3 : xk = 2 := h3
      rw [h3]; simp
    · right
      refine ⟨xn, h2, ?_⟩
      unfold face2
      rw [if_neg (fun h => h1 (List.contains_iff_mem.1 h))]
      have h3 : xk = 6 := h3
      rw [h3]; simp
theorem kOf_is {a b : List LineD} (hra : rightC a = true) (hrb : rightC b = true) {x : ActD} : kOf (allP a b (docCh a b)) x.name = some x.kind ↔ x ∈ facesC a b (docCh a b) := by
  rw [mem_faces]
  obtain ⟨xk, n⟩ := x
  show kOf (allP a b (docCh a b)) n = some xk ↔ (n ∈ namesA 2 a ∧ n ∈ namesA 2 b ∧ faceK b n (docCh a b) = xk ∧ xk ≠ 10) ∨ (n ∈ namesA 2 a ∧ ¬ n ∈ namesA 2 b ∧ xk = 2) ∨ (¬ n ∈ namesA 2 a ∧ n ∈ namesA 2 b ∧ xk = 6)
  by_cases hx : n ∈ namesA 2 a
  · by_cases hy : n ∈ namesA 2 b
    · rw [kOf_face hx hy]
      constructor
      · exact fun h => .inl ⟨hx, hy, h⟩
      · rintro (h | h | h)
        · exact h.2.2
        · exact absurd hy h.2.1
        · exact absurd hx h.1
    · have hm : ∀ j, (n, j) ∈ allP a b (docCh a b) ↔ j = 2 := fun j => by
        rw [mem_allP]
        constructor
        · rintro (⟨c, hc, e1, e2, e3⟩ | ⟨-, -, h, -⟩)
          · rw [e3]; unfold kindD; rw [e2, if_neg (fun h => hy (List.contains_iff_mem.1 h))]
          · exact absurd h hy
        · intro e
          obtain ⟨c, hc, h1, h2⟩ := ch_left hra hx hy
          refine .inl ⟨c, hc, h1, h2, ?_⟩
          unfold kindD; rw [h2, if_neg (fun h => hy (List.contains_iff_mem.1 h)), e]
      rw [kOf_some]
      constructor
      · rintro ⟨h, -⟩; exact .inr (.inl ⟨hx, hy, (hm xk).1 h⟩)
      · rintro (h | h | h)
        · exact absurd h.2.1 hy
        · exact ⟨(hm xk).2 h.2.2, fun j hj => by rw [(hm j).1 hj, h.2.2]; exact Int.le_refl _⟩
        · exact absurd hx h.1
  · by_cases hy : n ∈ namesA 2 b
    · have hm : ∀ j, (n, j) ∈ allP a b (docCh a b) ↔ j = 6 := fun j => by
        rw [mem_allP]
        constructor
        · rintro (⟨c, hc, e1, e2, e3⟩ | ⟨-, h, -⟩)
          · rw [e3]; unfold kindD; rw [e2, if_pos (List.contains_iff_mem.2 hy), if_neg (fun h => hx (List.contains_iff_mem.1 h))]
          · exact absurd h hx
        · intro e
          obtain ⟨c, hc, h1, h2⟩ := ch_right hrb hx hy
          refine .inl ⟨c, hc, h1, h2, ?_⟩
          unfold kindD; rw [h2, if_pos (List.contains_iff_mem.2 hy), if_neg (fun h => hx (List.contains_iff_mem.1 h)), e]
      rw [kOf_some]
      constructor
      · rintro ⟨h, -⟩; exact .inr (.inr ⟨hx, hy, (hm xk).1 h⟩)
      · rintro (h | h | h)
        · exact absurd h.1 hx
        · exact absurd h.1 hx
        · exact ⟨(hm xk).2 h.2.2, fun j hj => by rw [(hm j).1 hj, h.2.2]; exact Int.le_refl _⟩
    · constructor
      · intro h
        rcases mem_allP.1 (kOf_some.1 h).1 with ⟨c, hc, e1, e2, -⟩ | ⟨-, h, -⟩
        · rcases ch_name hc e1 with h | h
          · rw [e2] at h; exact absurd h hx
          · rw [e2] at h; exact absurd h hy
        · exact absurd h hx
      · rintro (h | h | h)
        · exact absurd h.1 hx
        · exact absurd h.1 hx
        · exact absurd h.2.1 hy
theorem mem_areas {cs : List ChD} {x : ActD} : x ∈ areasC cs ↔ x.kind = 7 ∧ x.name ∈ cs.flatMap areaI := by
  obtain ⟨xk, n⟩ := x
  unfold areasC
  rw [List.mem_flatMap, List.mem_flatMap]
  constructor
  · rintro ⟨c, hc, h⟩
    obtain ⟨h1, h2⟩ := mem_ite1.1 h
    injection h2 with h2 h3
    exact ⟨h2, c, hc, mem_ite1.2 ⟨h1, h3⟩⟩
  · rintro ⟨h1, c, hc, h⟩
    obtain ⟨h3, h4⟩ := mem_ite1.1 h
    have h1 : xk = 7 := h1
    have h4 : n = c.line.name := h4
    exact ⟨c, hc, mem_ite1.2 ⟨h3, by rw [h1, h4]⟩⟩
theorem out_raw {a b : List LineD} (hra : rightC a = true) (hrb : rightC b = true) (x : ActD) : outD a b (docCh a b) x ↔ x ∈ rawA a b := by
  unfold rawA outD
  rw [← docCh_same (right_rises hra) (right_rises hrb), List.mem_append, ← kOf_is hra hrb, mem_areas]
  constructor
  · exact fun h => h.2.2
  · intro h
    have hk : 1 ≤ x.kind ∧ x.kind < 10 := by
      rcases h with h | h
      · rw [kOf_is hra hrb, mem_faces] at h
        rcases h with ⟨-, -, h1, h2⟩ | ⟨-, -, h⟩ | ⟨-, -, h⟩
        · rcases (face_least.1 ⟨h1, h2⟩).1 with ⟨c, -, -, -, e⟩ | ⟨e, -⟩
          · have := leafK_range c.line.leaf; omega
          · omega
        · omega
        · omega
      · omega
    exact ⟨hk.1, hk.2, h⟩
end Go.Proofs.YtmclnamgihphcaaGreat
