/- The document's Check of rules is the code's, plain. -/
import Derived.Test.YtialookpnoaogaaGreatAA15
import Derived.Test.YtialookpnoaogaaGreatAA14
import Derived.Test.YtialookpnoaogaaGreatAA16
import Derived.Test.YtialookpnoaogaaGreatAA05
import Derived.Test.YtialookpnoaogaaGreatAA12
set_option linter.unusedVariables false
set_option linter.unusedSimpArgs false
set_option linter.unusedVariables false
set_option linter.unusedSimpArgs false
namespace Go.Proofs.YtialookpnoaogaaGreat
open Go.RowKit

theorem range_flat {β : Type} (g : List UInt8 → List β) : ∀ (F : List (List UInt8)), (List.range F.length).flatMap (fun i => g (F.getD i [])) = F.flatMap g := by
  intro F
  induction F with
  | nil => rfl
  | cons a F ih =>
    rw [List.length_cons, List.range_succ_eq_map, List.flatMap_cons, List.flatMap_map, List.flatMap_cons]
    congr 1
theorem zip_flat {β : Type} (v : List UInt8 → List UInt8) (g : List UInt8 × List UInt8 → List β) : ∀ (F : List (List UInt8)), (F.zip (F.map v)).flatMap g = F.flatMap (fun n => g (n, v n)) := by
  intro F
  induction F with
  | nil => rfl
  | cons a F ih => rw [List.map_cons, List.zip_cons_cons, List.flatMap_cons, List.flatMap_cons, ih]
theorem zip_flat2 {β : Type} (v u : List UInt8 → List UInt8) (g : List UInt8 × List UInt8 × List UInt8 → List β) : ∀ (F : List (List UInt8)), (F.zip ((F.map v).zip (F.map u))).flatMap g = F.flatMap (fun n => g (n, v n, u n)) := by
  intro F
  induction F with
  | nil => rfl
  | cons a F ih => rw [List.map_cons, List.map_cons, List.zip_cons_cons, List.zip_cons_cons, List.flatMap_cons, List.flatMap_cons, ih]
theorem flat_nil {α β : Type} (f : α → List β) (h : ∀ x, f x = []) (l : List α) : l.flatMap f = [] := by
  induction l with
  | nil => rfl
  | cons a l ih => rw [List.flatMap_cons, ih, h a]; rfl
theorem flat_eq {α β : Type} {f g : α → List β} {l : List α} (h : ∀ x ∈ l, f x = g x) : l.flatMap f = l.flatMap g := by
  induction l with
  | nil => rfl
  | cons a l ih => rw [List.flatMap_cons, List.flatMap_cons, h a (by simp), ih (fun x hx => h x (by simp [hx]))]
theorem one8_eq {b : Bool} {k k' : Int} {n : List UInt8} {p : Prop} [Decidable p] (hb : b = true ↔ p) (hk : k = k') : one8 b k n = if p then [⟨k', n⟩] else [] := by
  subst hk
  unfold one8
  by_cases h : p
  · rw [if_pos h, if_pos (hb.2 h)]
  · rw [if_neg h, if_neg (fun e => h (hb.1 e))]
theorem docF_flat (ls : List LineD) (F : List (List UInt8)) (kd : Nat) (g : List UInt8 → Bool) (h : ∀ i f, zC ls F kd i f = g f) : docF ls F kd F.length = F.flatMap (fun f => one8 (g f) kd f) := by
  unfold docF
  rw [← range_flat (fun f => one8 (g f) kd f) F]
  exact flat_eq (fun i _ => by rw [h])
-- the areas in use
theorem putU_mem (U : List (List UInt8)) (x y : List UInt8) : y ∈ putU U x ↔ y ∈ U ∨ y = x := by
  unfold putU
  by_cases h : x ∈ U
  · rw [if_pos h]
    exact ⟨.inl, fun e => e.elim id (fun e => e ▸ h)⟩
  · rw [if_neg h]; simp
theorem putU_nodup {U : List (List UInt8)} (h : U.Nodup) (x : List UInt8) : (putU U x).Nodup := by
  unfold putU
  by_cases hx : x ∈ U
  · rw [if_pos hx]; exact h
  · rw [if_neg hx]
    rw [List.nodup_append]
    exact ⟨h, by simp, fun a ha b hb => by
      simp at hb
      rintro rfl
      subst hb
      exact hx ha⟩
theorem used_both (ls : List LineD) (F : List (List UInt8)) : (usedS ls F).Nodup ∧ ∀ a, a ∈ usedS ls F ↔ ∃ f ∈ F, setR ls 2 f areaL = some a := by
  have key : ∀ k, k ≤ F.length → (usedS ls (F.take k)).Nodup ∧ ∀ a, a ∈ usedS ls (F.take k) ↔ ∃ f ∈ F.take k, setR ls 2 f areaL = some a := by
    intro k
    induction k with
    | zero => intro _; exact ⟨by simp [usedS], fun a => by simp [usedS]⟩
    | succ k ih =>
      intro hk
      obtain ⟨i1, i2⟩ := ih (by omega)
      obtain ⟨x, hx⟩ : ∃ x, F[k]? = some x := ⟨_, List.getElem?_eq_getElem (by omega)⟩
      have ht : F.take (k + 1) = F.take k ++ [x] := by rw [List.take_add_one, hx]; rfl
      rw [used_step ls F hx, ht]
      cases hs : setR ls 2 x areaL with
      | none =>
        refine ⟨i1, fun a => ?_⟩
        rw [i2 a]
        constructor
        · rintro ⟨f, hf, e⟩; exact ⟨f, by simp [hf], e⟩
        · rintro ⟨f, hf, e⟩
          rw [List.mem_append] at hf
          rcases hf with hf | hf
          · exact ⟨f, hf, e⟩
          · simp at hf; subst hf; rw [hs] at e; cases e
      | some y =>
        refine ⟨putU_nodup i1 y, fun a => ?_⟩
        show a ∈ putU _ y ↔ _
        rw [putU_mem, i2 a]
        constructor
        · rintro (⟨f, hf, e⟩ | rfl)
          · exact ⟨f, by simp [hf], e⟩
          · exact ⟨x, by simp, hs⟩
        · rintro ⟨f, hf, e⟩
          rw [List.mem_append] at hf
          rcases hf with hf | hf
          · exact .inl ⟨f, hf, e⟩
          · simp at hf; subst hf; rw [hs] at e; injection e with e; exact .inr e.symm
  have := key F.length (Nat.le_refl _)
  rwa [List.take_length] at this
theorem bone_ne : boneW ≠ [] := by decide
theorem part_one : ∀ (l : List (List UInt8)) (f : List UInt8) (sv : Bool), f ≠ [] → (partL l f sv = true ↔ boneW ∉ l ∧ (sv = true ∨ ∃ x ∈ l, x ≠ [] ∧ x ≠ f)) := by
  intro l
  induction l with
  | nil => intro f sv _; simp [partL]
  | cons a r ih =>
    intro f sv hf
    unfold partL
    by_cases h0 : a = []
    · rw [if_pos h0, ih f sv hf]
      subst h0
      have := bone_ne
      constructor
      · rintro ⟨h1, h2⟩
        refine ⟨fun e => ?_, h2.imp id (fun ⟨x, hx, e⟩ => ⟨x, by simp [hx], e⟩)⟩
        rw [List.mem_cons] at e
        exact e.elim this h1
      · rintro ⟨h1, h2⟩
        refine ⟨fun e => h1 (by simp [e]), h2.imp id (fun ⟨x, hx, e⟩ => ⟨x, ?_, e⟩)⟩
        rw [List.mem_cons] at hx
        exact hx.elim (fun e2 => absurd e2 e.1) id
    · rw [if_neg h0]
      by_cases hb : a = boneW
      · rw [if_pos hb]
        subst hb
        simp
      · rw [if_neg hb, ih a _ h0]
        have hd : decide (f ≠ []) = true := decide_eq_true hf
        rw [hd, Bool.true_and]
        by_cases haf : a = f
        · subst haf
          simp only [ne_eq, not_true_eq_false, decide_false, Bool.or_false]
          constructor
          · rintro ⟨h1, h2⟩
            refine ⟨fun e => ?_, h2.imp id (fun ⟨x, hx, e⟩ => ⟨x, by simp [hx], e⟩)⟩
            rw [List.mem_cons] at e
            exact e.elim (fun e => hb e.symm) h1
          · rintro ⟨h1, h2⟩
            refine ⟨fun e => h1 (by simp [e]), h2.imp id (fun ⟨x, hx, e⟩ => ⟨x, ?_, e⟩)⟩
            rw [List.mem_cons] at hx
            exact hx.elim (fun e2 => absurd e2 e.2) id
        · constructor
          · rintro ⟨h1, h2⟩
            refine ⟨fun e => ?_, .inr ⟨a, by simp, h0, haf⟩⟩
            rw [List.mem_cons] at e
            exact e.elim (fun e => hb e.symm) h1
          · rintro ⟨h1, h2⟩
            exact ⟨fun e => h1 (by simp [e]), .inl (by simp [haf])⟩
theorem part_none : ∀ (l : List (List UInt8)) (sv : Bool), (partL l [] sv = true ↔ boneW ∉ l ∧ (sv = true ∨ ∃ x ∈ l, ∃ y ∈ l, x ≠ [] ∧ y ≠ [] ∧ x ≠ y)) := by
  intro l
  induction l with
  | nil => intro sv; simp [partL]
  | cons a r ih =>
    intro sv
    unfold partL
    by_cases h0 : a = []
    · rw [if_pos h0, ih sv]
      subst h0
      have := bone_ne
      constructor
      · rintro ⟨h1, h2⟩
        refine ⟨fun e => ?_, h2.imp id (fun ⟨x, hx, y, hy, e⟩ => ⟨x, by simp [hx], y, by simp [hy], e⟩)⟩
        rw [List.mem_cons] at e
        exact e.elim this h1
      · rintro ⟨h1, h2⟩
        refine ⟨fun e => h1 (by simp [e]), h2.imp id (fun ⟨x, hx, y, hy, e⟩ => ⟨x, ?_, y, ?_, e⟩)⟩
        · rw [List.mem_cons] at hx; exact hx.elim (fun e2 => absurd e2 e.1) id
        · rw [List.mem_cons] at hy; exact hy.elim (fun e2 => absurd e2 e.2.1) id
    · rw [if_neg h0]
      by_cases hb : a = boneW
      · rw [if_pos hb]
        subst hb
        simp
      · rw [if_neg hb, part_one r a _ h0]
        have hd : decide (([] : List UInt8) ≠ []) = false := by decide
        rw [hd, Bool.false_and, Bool.or_false]
        constructor
        · rintro ⟨h1, h2⟩
          refine ⟨fun e => ?_, h2.imp id (fun ⟨x, hx, e1, e2⟩ => ⟨x, by simp [hx], a, by simp, e1, h0, e2⟩)⟩
          rw [List.mem_cons] at e
          exact e.elim (fun e => hb e.symm) h1
        · rintro ⟨h1, h2⟩
          refine ⟨fun e => h1 (by simp [e]), h2.imp id (fun ⟨x, hx, y, hy, e1, e2, e3⟩ => ?_)⟩
          rw [List.mem_cons] at hx hy
          by_cases hxa : x = a
          · refine ⟨y, hy.elim (fun e => absurd (hxa.trans e.symm) e3) id, e2, fun e => e3 (hxa.trans e.symm)⟩
          · exact ⟨x, hx.elim (fun e => absurd e hxa) id, e1, hxa⟩
theorem two_in {U : List (List UInt8)} (hU : U.Nodup) : 1 < U.length ↔ ∃ x ∈ U, ∃ y ∈ U, x ≠ y := by
  constructor
  · intro h
    match U, hU, h with
    | x :: y :: r, hU, _ =>
      refine ⟨x, by simp, y, by simp, ?_⟩
      rintro rfl
      simp at hU
  · rintro ⟨x, hx, y, hy, e⟩
    match U, hx, hy with
    | [a], hx, hy =>
      simp at hx hy
      exact absurd (hx.trans hy.symm) e
    | a :: b :: r, _, _ => simp
theorem vals_mem {ls : List LineD} (hr : rightC ls = true) (F : List (List UInt8)) (a : List UInt8) : (∃ f ∈ F, setR ls 2 f areaL = some a) ↔ a ∈ valuesC ls F areaL ∧ a ≠ [] := by
  unfold valuesC
  rw [List.mem_map]
  constructor
  · rintro ⟨f, hf, e⟩
    exact ⟨⟨f, hf, by rw [area_value, e]; rfl⟩, area_set hr e⟩
  · rintro ⟨⟨f, hf, e⟩, h0⟩
    refine ⟨f, hf, ?_⟩
    rw [area_value] at e
    cases hs : setR ls 2 f areaL with
    | none => rw [hs] at e; exact absurd e.symm h0
    | some b => rw [hs] at e; exact congrArg some e
theorem zB_part {ls : List LineD} (hr : rightC ls = true) (F : List (List UInt8)) : zB (usedS ls F) 6 = partedC (valuesC ls F areaL) := by
  obtain ⟨hn, hm⟩ := used_both ls F
  rw [Bool.eq_iff_iff]
  unfold zB partedC
  rw [part_none]
  simp only [Bool.and_eq_true, decide_eq_true_eq, Bool.not_eq_true', decide_eq_false_iff_not, true_and, Bool.false_eq_true, false_or]
  rw [two_in hn]
  have hm2 : ∀ a, a ∈ usedS ls F ↔ a ∈ valuesC ls F areaL ∧ a ≠ [] := fun a => (hm a).trans (vals_mem hr F a)
  constructor
  · rintro ⟨⟨x, hx, y, hy, e⟩, hb⟩
    refine ⟨fun h => hb ((hm2 _).2 ⟨h, bone_ne⟩), x, ((hm2 x).1 hx).1, y, ((hm2 y).1 hy).1, ((hm2 x).1 hx).2, ((hm2 y).1 hy).2, e⟩
  · rintro ⟨hb, x, hx, y, hy, e1, e2, e3⟩
    exact ⟨⟨x, (hm2 x).2 ⟨hx, e1⟩, y, (hm2 y).2 ⟨hy, e2⟩, e3⟩, fun h => hb ((hm2 _).1 h).1⟩
theorem meetL_sym (a b : List UInt8) : meetL a b = meetL b a := by
  unfold meetL
  cases netL a with
  | none => cases netL b with
    | none => rfl
    | some q => rfl
  | some p =>
    cases netL b with
    | none => rfl
    | some q =>
      obtain ⟨x, n⟩ := p
      obtain ⟨y, m⟩ := q
      show decide _ = decide _
      rw [Nat.min_comm m n]
      exact decide_eq_decide.2 ⟨Eq.symm, Eq.symm⟩
theorem meetL_nil (a : List UInt8) : meetL a [] = false := by
  rw [meetL_sym]; unfold meetL; rw [show netL [] = none by decide]
theorem over_same (ls : List LineD) (F : List (List UInt8)) (i : Nat) (hi : i < F.length) : overD ls F i (F.getD i []) = ((valuesC ls F addressL).take i).any (fun x => meetL x ((valuesC ls F addressL).getD i [])) := by
  unfold overD valuesC
  rw [← List.map_take, List.any_map]
  have hg : (F.map (fun n => valueR ls 2 n addressL)).getD i [] = valueR ls 2 (F.getD i []) addressL := by
    rw [List.getD_eq_getElem?_getD, List.getElem?_map, List.getD_eq_getElem?_getD, List.getElem?_eq_getElem hi]; rfl
  rw [hg]
  congr 1
  funext x
  show overAt ls _ x = meetL (valueR ls 2 x addressL) _
  rw [net_value, net_value]
  unfold overAt
  cases setR ls 2 (F.getD i []) addressL with
  | none => show false = meetL _ []; rw [meetL_nil]
  | some a =>
    cases setR ls 2 x addressL with
    | none => show false = meetL [] _; rw [meetL_sym, meetL_nil]
    | some b => show meetL a b = meetL b a; rw [meetL_sym]
-- names of a configuration
theorem names_from (h : Int) : ∀ (ls : List LineD) (p : LineD), rises (p :: ls) → (namesFrom h (some p) ls).Nodup ∧ ∀ n ∈ namesFrom h (some p) ls, (∃ q ∈ ls, q.head = h ∧ q.name = n) ∧ (p.head = h → Op.bytesLess p.name n = true) := by
  intro ls
  induction ls with
  | nil => intro p _; exact ⟨by simp [namesFrom], fun n hn => by simp [namesFrom] at hn⟩
  | cons q r ih =>
    intro p hr
    have hpq := rises_head hr q (by simp)
    have hrt := rises_tail hr
    obtain ⟨i1, i2⟩ := ih q hrt
    rw [lessB_iff] at hpq
    have rest : ∀ n ∈ namesFrom h (some q) r, (∃ q' ∈ q :: r, q'.head = h ∧ q'.name = n) ∧ (p.head = h → Op.bytesLess p.name n = true) := fun n hn => by
      obtain ⟨⟨q', hq', e1, e2⟩, j2⟩ := i2 n hn
      refine ⟨⟨q', by simp [hq'], e1, e2⟩, fun hp => ?_⟩
      have h3 := rises_head hrt q' hq'
      rw [lessB_iff] at h3
      by_cases hq : q.head = h
      · have j3 := j2 hq
        rcases hpq with e | ⟨-, e | ⟨e, -⟩⟩
        · omega
        · exact bl_trans e j3
        · rw [e]; exact j3
      · rcases hpq with e | ⟨e, -⟩
        · rcases h3 with h3 | ⟨h3, -⟩ <;> omega
        · omega
    unfold namesFrom
    by_cases hc : q.head = h ∧ (match some p with | none => true | some p => !(decide (p.head = q.head) && decide (p.name = q.name))) = true
    · rw [if_pos hc]
      obtain ⟨hq, hne⟩ := hc
      refine ⟨?_, ?_⟩
      · rw [List.singleton_append, List.nodup_cons]
        refine ⟨fun hin => ?_, i1⟩
        have := (i2 _ hin).2 hq
        rw [bl_irr] at this
        cases this
      · intro n hn
        rw [List.singleton_append, List.mem_cons] at hn
        rcases hn with rfl | hn
        · refine ⟨⟨q, by simp, hq, rfl⟩, fun hp => ?_⟩
          rcases hpq with e | ⟨-, e | ⟨e, -⟩⟩
          · omega
          · exact e
          · have h5 : p.head = q.head := by omega
            simp [h5, e] at hne
        · exact rest n hn
    · rw [if_neg hc, List.nil_append]
      exact ⟨i1, rest⟩
theorem names_nodup (h : Int) {ls : List LineD} (hr : rises ls) : (namesFrom h none ls).Nodup ∧ ∀ n ∈ namesFrom h none ls, ∃ q ∈ ls, q.head = h ∧ q.name = n := by
  cases ls with
  | nil => exact ⟨by simp [namesFrom], fun n hn => by simp [namesFrom] at hn⟩
  | cons q r =>
    obtain ⟨i1, i2⟩ := names_from h r q hr
    unfold namesFrom
    by_cases hq : q.head = h
    · rw [if_pos ⟨hq, rfl⟩]
      refine ⟨?_, ?_⟩
      · rw [List.singleton_append, List.nodup_cons]
        refine ⟨fun hin => ?_, i1⟩
        have := (i2 _ hin).2 hq
        rw [bl_irr] at this
        cases this
      · intro n hn
        rw [List.singleton_append, List.mem_cons] at hn
        rcases hn with rfl | hn
        · exact ⟨q, by simp, hq, rfl⟩
        · obtain ⟨q', h1, h2⟩ := (i2 n hn).1
          exact ⟨q', by simp [h1], h2⟩
    · rw [if_neg (fun e => hq e.1), List.nil_append]
      refine ⟨i1, fun n hn => ?_⟩
      obtain ⟨q', h1, h2⟩ := (i2 n hn).1
      exact ⟨q', by simp [h1], h2⟩
theorem names_has (h : Int) {q : LineD} (hq : q.head = h) : ∀ (ls : List LineD) (p : Option LineD), q ∈ ls → q.name ∈ namesFrom h p ls ∨ ∃ p', p = some p' ∧ p'.head = h ∧ p'.name = q.name := by
  intro ls
  induction ls with
  | nil => intro p hin; simp at hin
  | cons a r ih =>
    intro p hin
    have hself : a.head = h → a.name = q.name → q.name ∈ namesFrom h p (a :: r) ∨ ∃ p', p = some p' ∧ p'.head = h ∧ p'.name = q.name := fun e1 e2 => by
      unfold namesFrom
      cases p with
      | none => left; rw [if_pos ⟨e1, rfl⟩]; simp [e2]
      | some p =>
        by_cases hs : p.head = a.head ∧ p.name = a.name
        · right; exact ⟨p, rfl, hs.1.trans e1, hs.2.trans e2⟩
        · left
          rw [if_pos ⟨e1, by by_cases h : p.head = a.head <;> simp_all⟩]
          simp [e2]
    rw [List.mem_cons] at hin
    rcases hin with rfl | hin
    · exact hself hq rfl
    · rcases ih (some a) hin with h1 | ⟨p', e, h1, h2⟩
      · left; unfold namesFrom; simp [h1]
      · injection e with e; subst e; exact hself h1 h2
theorem flat_one {β : Type} (g : List UInt8 → List β) (b : List UInt8) (y : List β) (h1 : g b = y) : ∀ (A : List (List UInt8)), A.Nodup → b ∈ A → (∀ x ∈ A, x ≠ b → g x = []) → A.flatMap g = y := by
  intro A
  induction A with
  | nil => intro _ hb; simp at hb
  | cons a A ih =>
    intro hn hb hx
    rw [List.nodup_cons] at hn
    rw [List.flatMap_cons]
    by_cases e : a = b
    · subst e
      rw [h1]
      have : A.flatMap g = [] := by
        rw [flat_eq (g := fun _ => []) (fun x hxA => hx x (by simp [hxA]) (fun e => hn.1 (e ▸ hxA)))]
        exact flat_nil _ (fun _ => rfl) A
      rw [this, List.append_nil]
    · rw [hx a (by simp) e, List.nil_append]
      rw [List.mem_cons] at hb
      exact ih hn.2 (hb.elim (fun e2 => absurd e2.symm e) id) (fun x hxA => hx x (by simp [hxA]))
theorem back_same {ls : List LineD} (hr : rightC ls = true) (U : List (List UInt8)) : docA ls U 6 (namesA 1 ls) = if valueR ls 1 boneW typeW = normalW then [] else [⟨6, boneW⟩] := by
  have hz : ∀ a, zD ls U 6 a = (decide (a = boneW) && (match setR ls 1 a typeW with | some t => !decide (t = normalW) | none => false)) := fun a => by unfold zD; simp; rfl
  unfold docA
  rw [flat_eq (g := fun a => one8 (decide (a = boneW) && (match setR ls 1 a typeW with | some t => !decide (t = normalW) | none => false)) 6 a) (fun a _ => by rw [hz]; rfl)]
  rw [type_value]
  have hA : namesA 1 ls = namesFrom 1 none ls := by unfold namesA; rw [if_neg (by decide)]
  cases hs : setR ls 1 boneW typeW with
  | none =>
    show _ = if normalW = normalW then _ else _
    rw [if_pos rfl]
    refine flat_nil _ (fun a => one_no ?_) _
    by_cases e : a = boneW
    · rw [e, hs]; simp
    · rw [decide_eq_false e]; rfl
  | some t =>
    show _ = if t = normalW then _ else _
    by_cases ht : t = normalW
    · rw [if_pos ht]
      refine flat_nil _ (fun a => one_no ?_) _
      by_cases e : a = boneW
      · rw [e, hs, ht]; simp
      · rw [decide_eq_false e]; rfl
    · rw [if_neg ht]
      obtain ⟨q, hq, h1, h2, -, -⟩ := set_line hs
      refine flat_one _ boneW _ ?_ _ ?_ ?_ ?_
      · exact one_yes (by rw [hs]; simp [ht])
      · rw [hA]; exact (names_nodup 1 (right_rises hr)).1
      · rw [hA]
        rcases names_has 1 h1 ls none hq with h | ⟨p, e, _⟩
        · rw [← h2]; exact h
        · cases e
      · intro x _ hx
        refine one_no ?_
        rw [decide_eq_false hx]; rfl
theorem unused_same {ls : List LineD} (hr : rightC ls = true) (F : List (List UInt8)) : docA ls (usedS ls F) 7 (namesA 1 ls) = unusedC ls (valuesC ls F areaL) := by
  have hz : ∀ a, zD ls (usedS ls F) 7 a = !decide (a ∈ usedS ls F) := fun a => by unfold zD; simp
  have hA : namesA 1 ls = namesFrom 1 none ls := by unfold namesA; rw [if_neg (by decide)]
  unfold docA unusedC
  refine flat_eq (fun a ha => ?_)
  rw [hz]
  have h0 : a ≠ [] := by
    rw [hA] at ha
    obtain ⟨q, hq, h1, h2⟩ := (names_nodup 1 (right_rises hr)).2 a ha
    have hl := right_line hr q hq
    unfold lineB at hl
    rintro rfl
    cases hf : findD q.head q.leaf with
    | none => rw [hf] at hl; cases hl
    | some row =>
      rw [hf, h1, h2] at hl
      have : namedB 1 [] = false := by decide
      simp [this] at hl
  have hm := ((used_both ls F).2 a).trans (vals_mem hr F a)
  by_cases h : a ∈ usedS ls F
  · rw [decide_eq_true h, if_pos (by simpa using (hm.1 h).1)]
    rfl
  · rw [decide_eq_false h, if_neg (by simpa using fun e => h (hm.2 ⟨e, h0⟩))]
    rfl
theorem docA_none (ls : List LineD) (U xs : List (List UInt8)) (kd : Nat) (h6 : kd ≠ 6) (h7 : kd ≠ 7) : docA ls U kd xs = [] := by
  unfold docA
  refine flat_nil _ (fun a => one_no ?_) _
  unfold zD
  rw [decide_eq_false h6, decide_eq_false h7]; rfl
theorem docF_none (ls : List LineD) (F : List (List UInt8)) (kd j : Nat) (h : kd < 2 ∨ 5 < kd) : docF ls F kd j = [] := by
  unfold docF
  refine flat_nil _ (fun a => one_no ?_) _
  unfold zC
  rw [if_neg (by omega), if_neg (by omega), if_neg (by omega), if_neg (by omega)]
theorem zA_none (ls : List LineD) (F : List (List UInt8)) (kd : Nat) (h : kd ≠ 1) : one8 (zA ls F kd) 1 [] = [] := one_no (by unfold zA; rw [decide_eq_false h]; rfl)
theorem zB_none (U : List (List UInt8)) (kd : Nat) (h : kd ≠ 6) : one8 (zB U kd) 6 [] = [] := one_no (by unfold zB; rw [decide_eq_false h]; rfl)
theorem zE_none (F : List (List UInt8)) (kd : Nat) (h : kd ≠ 8) : one8 (zE F kd) 8 [] = [] := one_no (by unfold zE; rw [decide_eq_false h]; rfl)
theorem doc_same {ls : List LineD} (hr : rightC ls = true) : docR ls = checkC ls := by
  unfold docR docTo
  rw [show List.range 8 = [0, 1, 2, 3, 4, 5, 6, 7] by decide]
  simp only [List.flatMap_cons, List.flatMap_nil, List.append_nil]
  have k1 : docK ls (namesA 2 ls) (namesA 1 ls) (0 + 1) = routerC ls (namesA 2 ls) := by
    unfold docK
    rw [zB_none _ _ (by decide), docF_none _ _ _ _ (by decide), docA_none _ _ _ _ (by decide) (by decide), zE_none _ _ (by decide)]
    simp only [List.append_nil]
    unfold routerC
    refine one8_eq ?_ rfl
    unfold zA
    rw [id_value]
    cases hs : setR ls 0 [] routerW with
    | none => simp
    | some v =>
      have := id_set hr hs
      simp [this]
  have k2 : docK ls (namesA 2 ls) (namesA 1 ls) (1 + 1) = unsetC 2 (namesA 2 ls) (valuesC ls (namesA 2 ls) areaL) := by
    unfold docK
    rw [zA_none _ _ _ (by decide), zB_none _ _ (by decide), docA_none _ _ _ _ (by decide) (by decide), zE_none _ _ (by decide)]
    simp only [List.append_nil, List.nil_append]
    rw [docF_flat ls _ (1 + 1) (fun f => (setR ls 2 f areaL).isNone) (fun i f => by unfold zC; rw [if_pos rfl])]
    unfold unsetC valuesC
    rw [zip_flat]
    refine flat_eq (fun f _ => one8_eq ?_ rfl)
    show _ ↔ valueR ls 2 f areaL = []
    rw [area_value]
    cases hs : setR ls 2 f areaL with
    | none => simp
    | some v => have := area_set hr hs; simp [this]
  have k3 : docK ls (namesA 2 ls) (namesA 1 ls) (2 + 1) = unsetC 3 (namesA 2 ls) (valuesC ls (namesA 2 ls) addressL) := by
    unfold docK
    rw [zA_none _ _ _ (by decide), zB_none _ _ (by decide), docA_none _ _ _ _ (by decide) (by decide), zE_none _ _ (by decide)]
    simp only [List.append_nil, List.nil_append]
    rw [docF_flat ls _ (2 + 1) (fun f => (setR ls 2 f addressL).isNone) (fun i f => by unfold zC; rw [if_neg (by decide), if_pos rfl])]
    unfold unsetC valuesC
    rw [zip_flat]
    refine flat_eq (fun f _ => one8_eq ?_ rfl)
    show _ ↔ valueR ls 2 f addressL = []
    rw [net_value]
    cases hs : setR ls 2 f addressL with
    | none => simp
    | some v =>
      have : v ≠ [] := by
        obtain ⟨a, n, e⟩ := net_set hr hs
        rintro rfl
        rw [show netL [] = none by decide] at e
        cases e
      simp [this]
  have k4 : docK ls (namesA 2 ls) (namesA 1 ls) (3 + 1) = overlapsC (namesA 2 ls) (valuesC ls (namesA 2 ls) addressL) := by
    unfold docK
    rw [zA_none _ _ _ (by decide), zB_none _ _ (by decide), docA_none _ _ _ _ (by decide) (by decide), zE_none _ _ (by decide)]
    simp only [List.append_nil, List.nil_append]
    unfold docF overlapsC
    refine flat_eq (fun i hi => ?_)
    rw [List.mem_range] at hi
    unfold overStep
    refine one8_eq ?_ rfl
    unfold zC
    rw [if_neg (by decide), if_neg (by decide), if_pos rfl, over_same ls _ i hi]
  have k5 : docK ls (namesA 2 ls) (namesA 1 ls) (4 + 1) = badC (namesA 2 ls) (valuesC ls (namesA 2 ls) deadW) (valuesC ls (namesA 2 ls) helloW) := by
    unfold docK
    rw [zA_none _ _ _ (by decide), zB_none _ _ (by decide), docA_none _ _ _ _ (by decide) (by decide), zE_none _ _ (by decide)]
    simp only [List.append_nil, List.nil_append]
    rw [docF_flat ls _ (4 + 1) (fun f => decide (decV (valueR ls 2 f deadW) ≤ decV (valueR ls 2 f helloW))) (fun i f => by unfold zC; rw [if_neg (by decide), if_neg (by decide), if_neg (by decide), if_pos rfl])]
    unfold badC valuesC
    rw [zip_flat2]
    exact flat_eq (fun f _ => one8_eq decide_eq_true_iff rfl)
  have k6 : docK ls (namesA 2 ls) (namesA 1 ls) (5 + 1) = backC ls (valuesC ls (namesA 2 ls) areaL) := by
    unfold docK
    rw [zA_none _ _ _ (by decide), docF_none _ _ _ _ (by decide), zE_none _ _ (by decide)]
    simp only [List.append_nil, List.nil_append]
    rw [show 5 + 1 = 6 from rfl, back_same hr, zB_part hr]
    unfold backC one8
    rfl
  have k7 : docK ls (namesA 2 ls) (namesA 1 ls) (6 + 1) = unusedC ls (valuesC ls (namesA 2 ls) areaL) := by
    unfold docK
    rw [zA_none _ _ _ (by decide), zB_none _ _ (by decide), docF_none _ _ _ _ (by decide), zE_none _ _ (by decide)]
    simp only [List.append_nil, List.nil_append]
    exact unused_same hr _
  have k8 : docK ls (namesA 2 ls) (namesA 1 ls) (7 + 1) = tooManyC (namesA 2 ls) := by
    unfold docK
    rw [zA_none _ _ _ (by decide), zB_none _ _ (by decide), docF_none _ _ _ _ (by decide), docA_none _ _ _ _ (by decide) (by decide)]
    simp only [List.append_nil, List.nil_append]
    unfold tooManyC
    refine one8_eq ?_ rfl
    unfold zE
    simp
  rw [k1, k2, k3, k4, k5, k6, k7, k8]
  unfold checkC
  simp only [List.append_assoc]
end Go.Proofs.YtialookpnoaogaaGreat
/- Of adv: the document's Settings. -/
set_option linter.unusedVariables false
set_option linter.unusedSimpArgs false
namespace Go.Proofs.YtialookpnoaogaaGreat
open Go.RowKit

set_option maxRecDepth 100000 in
set_option maxHeartbeats 8000000 in
theorem ref15Number_c (v : Value) (ls : List LineD) (N L : ByteArray) (m : Nat) (w : World) (hv : Hid (RowsAt 4 lineVals w v ls)) (hr : Hid (rightC ls = true)) (hm : Hid (numR ls N.data.toList L.data.toList = m)) :
    Calls Tryz.prog 42 #[v, .string N, .string L] w (NewRes (.int .i64 m) w) := by
  obtain ⟨p, c, rfl⟩ := hv.out.slice
  have hl := right_len hr.out
  obtain ⟨V, hV⟩ : ∃ V : ByteArray, V = ⟨(valueR ls 2 N.data.toList L.data.toList).toArray⟩ := ⟨_, rfl⟩
  have hva := Lib.hid (rValue_c _ ls 2 N L V w hv (Lib.hid (right_lt hr.out 8796093022000 (by omega))) (by omega) hr (Lib.hid hV))
  have hd : Hid (∀ W, Calls Tryz.prog 69 #[.string V] W fun e w' => (∃ b, e = .returned (.tuple #[.int .i64 m, .bool b])) ∧ W = w') := Lib.hid (fun W => by
    have h := rDec_r V (decL V.data.toList) W (Lib.hid rfl)
    refine h.mono ?_
    rintro e w' ⟨rfl, rfl⟩
    refine ⟨?_, rfl⟩
    have e2 : (decL V.data.toList).getD 0 = m := by rw [← hm.out, hV]; rfl
    cases e3 : decL V.data.toList with
    | none => rw [e3] at e2; exact ⟨false, by rw [← e2]; rfl⟩
    | some k => rw [e3] at e2; exact ⟨true, by rw [← e2]; rfl⟩)
  clear hV hm hl
  go_enter Tryz.func42, Tryz.ntmps42
  go_wp2_with fail
  refine hva.out.mono ?_
  rintro e w1 ⟨rfl, hk1⟩
  have hk1' := Lib.hid hk1
  clear hva hk1
  go_wp2_with fail
  refine (hd.out _).mono ?_
  rintro e w2 ⟨⟨b, rfl⟩, rfl⟩
  clear hd
  go_wp2_with fail
  go_ret
  exact ⟨rfl, hk1'.out⟩

theorem valueR_hundred {ls : List LineD} (hr : rightC ls = true) (h : Int) (n l : List UInt8) : (valueR ls h n l).length ≤ 100 := by
  unfold valueR
  split
  · rename_i q hq
    have := line_small (right_line hr q (List.mem_of_find?_eq_some hq))
    omega
  · split
    · rename_i r hr2
      have hall : ∀ q ∈ tableD, q.df.length ≤ 30 := by decide
      have := hall r (List.mem_of_find?_eq_some hr2)
      omega
    · simp
theorem ref15Info : (Tryz.prog.info? 48).map (·.size) = some 10 := by kernel_rfl
theorem mask_step : ∀ k : Fin 32, bits BinOp.or IntKind.u32 ((maskD k.val : Nat) : Int) (2 ^ (31 - k.val) % 4294967296) = ((maskD (k.val + 1) : Nat) : Int) := by decide +kernel
set_option maxRecDepth 100000 in
set_option maxHeartbeats 8000000 in
theorem ref15Settings_c (v : Value) (ls : List LineD) (n : List UInt8) (w : World) (hv : Hid (RowsAt 4 lineVals w v ls)) (hr : Hid (rightC ls = true)) :
    Calls Tryz.prog 16 #[v, strv n] w (NewRes (.tuple #[.agg (setVals (setRes ls n).1).toArray, .int .i64 (setRes ls n).2]) w) := by
  obtain ⟨p, c, rfl⟩ := hv.out.slice
  obtain ⟨R, hR⟩ : ∃ R, setRes ls n = R := ⟨_, rfl⟩
  have hR' := Lib.hid hR
  rw [hR]
  clear hR
  obtain ⟨N, hN⟩ : ∃ N : ByteArray, (⟨n.toArray⟩ : ByteArray) = N := ⟨_, rfl⟩
  have hN' := Lib.hid hN
  have hNl : Hid (N.data.toList = n) := Lib.hid (by rw [← hN])
  unfold strv
  rw [hN]
  clear hN
  have hlen := right_len hr.out
  have hlt := Lib.hid (right_lt hr.out 8796093022000 (by omega))
  have hri := Lib.hid (fun W (k : Keeps (fun _ => False) w W) => rRight_c _ ls true W (Lib.hid (hv.out.keep k).lines) (by omega) hlt hr)
  go_enter Tryz.func16, Tryz.ntmps16
  go_wp2_with fail
  refine (hri.out _ ((Keeps.refl _ _).alloc _)).mono ?_
  rintro e w1 ⟨rfl, hk1⟩
  have hB1 := Lib.hid ((BlkAt.new w 48 (setVals noSet)).keep hk1 id)
  have hk1' : Hid (Keeps (fun _ => False) w w1) := Lib.hid (((Keeps.refl _ _).alloc _).trans hk1)
  obtain ⟨b4, hb4⟩ : ∃ b, w.heap.size = b := ⟨_, rfl⟩
  rw [hb4] at hB1 ⊢
  have hb4' := Lib.hid hb4
  clear hri hk1 hb4
  have hch := Lib.hid (r8Check_c _ ls w1 (Lib.hid (hv.out.keep hk1'.out)) hr)
  rw [doc_same hr.out] at hch
  obtain ⟨F, hF⟩ : ∃ F, checkC ls = F := ⟨_, rfl⟩
  rw [hF] at hch
  have hF' := Lib.hid hF
  clear hF
  go_wp2_with fail
  refine hch.out.mono ?_
  rintro e w2 ⟨p2, c2, rfl, hO, hk2⟩
  have hk2' := Lib.hid (hk1'.out.trans hk2)
  have hB2 := Lib.hid (hB1.out.keep hk2 id)
  clear hch hO hk2 hk1' hB1
  have hn := Lib.hid (rNames_all _ ls 2 w2 (Lib.hid (hv.out.keep hk2'.out)) hr)
  obtain ⟨y, hy⟩ : ∃ y, (namesA 2 ls).contains n = y := ⟨_, rfl⟩
  have hy' := Lib.hid hy
  clear hy
  cases F with
  | cons f F =>
    obtain ⟨m, hm⟩ : ∃ m, (f :: F).length = m + 1 := ⟨F.length, rfl⟩
    have l1 : (0 : Int) < ((m + 1 : Nat) : Int) := by omega
    simp only [hm]
    have hRR : R = (noSet, 7) := by rw [← hR'.out]; unfold setRes; rw [hF'.out]; rfl
    subst hRR
    have hth := Lib.hid (hB2.out.there 0 10 (Nat.le_refl _))
    clear hm hn
    go_wp2_with ((with_reducible refine at_store 4 ?_); refine wpList_store_blk rfl 48 (.tmp 4) (.tmp 22) rfl b4 (setVals noSet).toArray rfl rfl hth.out ref15Info (setVals_one _) ?_; intro w4 hr4 hk4)
    refine bodyPost_ret (ret_cell_tmp rfl _ w4 b4 _ _ rfl hr4.out Tryz.underlying48 rfl ref15Info) rfl ⟨rfl, hk2'.out.trans' hk4.out (fun i e => .inr (by rw [e, hb4'.out]; exact Nat.le_refl _))⟩
  | nil =>
    have hz0 : Hid ((checkC ls).isEmpty = true) := Lib.hid (by rw [hF'.out]; rfl)
    have l1 : ¬ (0 : Int) < ((([] : List FaultD).length : Nat) : Int) := by simp
    go_wp2_with fail
    refine hn.out.mono ?_
    rintro e w3 ⟨pn, cn, rfl, hS3, hk3⟩
    have hk3' := Lib.hid (hk2'.out.trans hk3)
    have hB3 := Lib.hid (hB2.out.keep hk3 id)
    have hct := Lib.hid (has15_any _ (namesA 2 ls) n y w3 (Lib.hid hS3) (by have h1 := namesA_len 2 ls; omega) hy')
    have hNn : Hid ((⟨n.toArray⟩ : ByteArray) = N) := hN'
    rw [hNn.out] at hct
    clear hn hS3 hk3 hk2' hB2
    go_wp2_with fail
    refine hct.out.mono ?_
    rintro e w4 ⟨rfl, rfl⟩
    clear hct
    cases y with
    | false =>
      have hRR : R = (noSet, 6) := by rw [← hR'.out]; unfold setRes; rw [hz0.out, if_neg (by decide), hy'.out, if_pos rfl]
      subst hRR
      have hth := Lib.hid (hB3.out.there 0 10 (Nat.le_refl _))
      go_wp2_with ((with_reducible refine at_store 4 ?_); refine wpList_store_blk rfl 48 (.tmp 4) (.tmp 28) rfl b4 (setVals noSet).toArray rfl rfl hth.out ref15Info (setVals_one _) ?_; intro w4 hr4 hk4)
      refine bodyPost_ret (ret_cell_tmp rfl _ w4 b4 _ _ rfl hr4.out Tryz.underlying48 rfl ref15Info) rfl ⟨rfl, hk3'.out.trans' hk4.out (fun i e => .inr (by rw [e, hb4'.out]; exact Nat.le_refl _))⟩
    | true =>
      have hRR : R = (setD ls n, 0) := by rw [← hR'.out]; unfold setRes; rw [hz0.out, if_neg (by decide), hy'.out, if_neg (by decide)]
      subst hRR
      have hsz : ∀ F, (⟨(valueR ls 2 n F).toArray⟩ : ByteArray).size ≤ 8796093022000 := fun F => by
        have h := valueR_hundred hr.out 2 n F
        show (valueR ls 2 n F).toArray.size ≤ _
        simp; omega
      have hA : Hid (∀ (F : List UInt8) (V : ByteArray), V = ⟨(valueR ls 2 n F).toArray⟩ → ∀ W, Keeps (fun k => k = b4) w3 W → Calls Tryz.prog 39 #[.slice p ls.length c, .int .i64 2, .string N, .string ⟨F.toArray⟩] W (NewRes (.string V) W)) := Lib.hid (fun F V hV W k => by
        have hkk : Keeps (fun _ => False) w W := hk3'.out.trans' k (fun i e => .inr (by rw [e, hb4'.out]; exact Nat.le_refl _))
        exact rValue_c _ ls 2 N ⟨F.toArray⟩ V W (Lib.hid (hv.out.keep hkk)) hlt (by omega) hr (Lib.hid (by rw [hNl.out]; exact hV)))
      have hNm : Hid (∀ (F : List UInt8) (m : Nat), numR ls n F = m → ∀ W, Keeps (fun k => k = b4) w3 W → Calls Tryz.prog 42 #[.slice p ls.length c, .string N, .string ⟨F.toArray⟩] W (NewRes (.int .i64 m) W)) := Lib.hid (fun F m hm W k => by
        have hkk : Keeps (fun _ => False) w W := hk3'.out.trans' k (fun i e => .inr (by rw [e, hb4'.out]; exact Nat.le_refl _))
        exact ref15Number_c _ ls N ⟨F.toArray⟩ m W (Lib.hid (hv.out.keep hkk)) hr (Lib.hid (by rw [hNl.out]; exact hm)))
      obtain ⟨V1, hV1⟩ : ∃ V : ByteArray, V = ⟨(valueR ls 2 n aAreaW).toArray⟩ := ⟨_, rfl⟩
      obtain ⟨V2, hV2⟩ : ∃ V : ByteArray, V = ⟨(valueR ls 2 n aAddrW).toArray⟩ := ⟨_, rfl⟩
      obtain ⟨r1, hr1⟩ : ∃ r, addrL (valueR ls 2 n aAreaW) = r := ⟨_, rfl⟩
      obtain ⟨r2, hr2⟩ : ∃ r, netL (valueR ls 2 n aAddrW) = r := ⟨_, rfl⟩
      have hAd : Hid (∀ W, Calls Tryz.prog 38 #[.string V1] W (NewRes (.tuple #[.int .u32 (r1.getD 0 : Nat), .bool r1.isSome]) W)) := Lib.hid (fun W => by
        have h := rAddr_r V1 r1 W (by rw [hV1]; exact hsz _) (Lib.hid (by rw [hV1]; exact hr1))
        cases r1 <;> exact h)
      have hNt : Hid (∀ W, Calls Tryz.prog 41 #[.string V2] W (NewRes (.tuple #[.int .u32 ((r2.getD (0, 0)).1 : Nat), .int .i64 ((r2.getD (0, 0)).2 : Nat), .bool r2.isSome]) W)) := Lib.hid (fun W => by
        have h := rNet_r V2 r2 W (by rw [hV2]; exact hsz _) (Lib.hid (by rw [hV2]; exact hr2))
        cases r2 <;> exact h)
      have h1 := Lib.hid (hA.out aAreaW V1 hV1 w3 (Keeps.refl _ _))
      have hV1' := Lib.hid hV1
      have hV2' := Lib.hid hV2
      have hr1' := Lib.hid hr1
      have hr2' := Lib.hid hr2
      clear hV1 hV2 hr1 hr2 hsz
      go_wp2_with fail
      refine h1.out.mono ?_
      rintro e w5 ⟨rfl, hk5⟩
      have hk5' := Lib.hid hk5
      clear h1 hk5
      go_wp2_with fail
      refine (hAd.out _).mono ?_
      rintro e w6 ⟨rfl, hk6⟩
      have hk6' := Lib.hid (hk5'.out.trans hk6)
      have h1 := Lib.hid (hA.out aAddrW V2 hV2'.out w6 (hk6'.out.mono (fun _ f => f.elim)))
      clear hAd hk6 hk5'
      go_wp2_with fail
      refine h1.out.mono ?_
      rintro e w7 ⟨rfl, hk7⟩
      have hk7' := Lib.hid (hk6'.out.trans hk7)
      clear h1 hk7 hk6'
      go_wp2_with fail
      refine (hNt.out _).mono ?_
      rintro e w8 ⟨rfl, hk8⟩
      have hk8' := Lib.hid (hk7'.out.trans hk8)
      clear hNt hk8 hk7'
      have hB8 := Lib.hid (hB3.out.keep hk8'.out id)
      obtain ⟨A1, hA1⟩ : ∃ a, r1.getD 0 = a := ⟨_, rfl⟩
      obtain ⟨X2, hX2⟩ : ∃ a, (r2.getD (0, 0)).1 = a := ⟨_, rfl⟩
      obtain ⟨K2, hK2⟩ : ∃ a, (r2.getD (0, 0)).2 = a := ⟨_, rfl⟩
      have hK32 : K2 ≤ 32 := by
        cases e : r2 with
        | none => rw [← hK2, e]; exact Nat.zero_le _
        | some q =>
          obtain ⟨a, m⟩ := q
          have h := (netL_in (hr2'.out.trans e)).2.2
          rw [← hK2, e]; exact h
      have hA1' := Lib.hid hA1
      have hX2' := Lib.hid hX2
      have hK2' := Lib.hid hK2
      rw [hA1, hX2, hK2]
      clear hA1 hX2 hK2
      go_wp2_with fail
      go_loopw [12, 11] (fun iv mv wr => ∃ (k : Nat), k ≤ K2 ∧ iv = .int .i64 k ∧ mv = .int .u32 (maskD k : Nat) ∧ w8 = wr) (fun iv _ _ => K2 - (intOf iv).toNat)
      case atStart => exact ⟨0, by omega, rfl, rfl, rfl⟩
      case round =>
        obtain ⟨k, hk, rfl, rfl, rfl⟩ := hrel
        by_cases hlk : k < K2
        · have m2 : (k : Int) < (K2 : Int) := by omega
          go_wp2_with fail
          have hms := mask_step ⟨k, by omega⟩
          exact ⟨⟨k + 1, by omega, by go_num, by rw [← hms], by first | rfl | trivial⟩, by simp [intOf]; omega⟩
        · obtain rfl : k = K2 := by omega
          obtain ⟨m1, hm1⟩ : ∃ m, numR ls n aCostW = m := ⟨_, rfl⟩
          obtain ⟨m2, hm2⟩ : ∃ m, numR ls n aHelloW = m := ⟨_, rfl⟩
          obtain ⟨m3, hm3⟩ : ∃ m, numR ls n aDeadW = m := ⟨_, rfl⟩
          obtain ⟨m4, hm4⟩ : ∃ m, numR ls n aAgainW = m := ⟨_, rfl⟩
          obtain ⟨m5, hm5⟩ : ∃ m, numR ls n aPrioW = m := ⟨_, rfl⟩
          replace hm1 := Lib.hid hm1
          replace hm2 := Lib.hid hm2
          replace hm3 := Lib.hid hm3
          replace hm4 := Lib.hid hm4
          replace hm5 := Lib.hid hm5
          obtain ⟨V6, hV6⟩ : ∃ V : ByteArray, V = ⟨(valueR ls 2 n aNetW).toArray⟩ := ⟨_, rfl⟩
          obtain ⟨V7, hV7⟩ : ∃ V : ByteArray, V = ⟨(valueR ls 2 n aAuthW).toArray⟩ := ⟨_, rfl⟩
          replace hV6 := Lib.hid hV6
          replace hV7 := Lib.hid hV7
          obtain ⟨mk, hmk⟩ : ∃ m, maskD k = m := ⟨_, rfl⟩
          replace hmk := Lib.hid hmk
          rw [hmk.out]
          have hkz : Hid (Keeps (fun k => k = b4) w3 w8) := Lib.hid (hk8'.out.mono (fun _ f => f.elim))
          have hk48 := Lib.hid (hk3'.out.trans hk8'.out)
          have hBz0 := hB8
          clear hk8' hB3 hk3' hB8
          have h1 := Lib.hid (hNm.out aCostW m1 hm1.out w8 hkz.out)
          go_wp2_with fail
          refine h1.out.mono ?_
          rintro e y1 ⟨rfl, k9⟩
          have hkz1 := Lib.hid (hkz.out.trans (k9.mono (fun _ f => f.elim)))
          have hBz1 := Lib.hid (hBz0.out.keep k9 id)
          have hks1 := Lib.hid (hk48.out.trans k9)
          clear h1 k9 hBz0 hkz hk48
          have h1 := Lib.hid (hNm.out aHelloW m2 hm2.out y1 hkz1.out)
          go_wp2_with fail
          refine h1.out.mono ?_
          rintro e y2 ⟨rfl, k9⟩
          have hkz2 := Lib.hid (hkz1.out.trans (k9.mono (fun _ f => f.elim)))
          have hBz2 := Lib.hid (hBz1.out.keep k9 id)
          have hks2 := Lib.hid (hks1.out.trans k9)
          clear h1 k9 hBz1 hkz1 hks1
          have h1 := Lib.hid (hNm.out aDeadW m3 hm3.out y2 hkz2.out)
          go_wp2_with fail
          refine h1.out.mono ?_
          rintro e y3 ⟨rfl, k9⟩
          have hkz3 := Lib.hid (hkz2.out.trans (k9.mono (fun _ f => f.elim)))
          have hBz3 := Lib.hid (hBz2.out.keep k9 id)
          have hks3 := Lib.hid (hks2.out.trans k9)
          clear h1 k9 hBz2 hkz2 hks2
          have h1 := Lib.hid (hNm.out aAgainW m4 hm4.out y3 hkz3.out)
          go_wp2_with fail
          refine h1.out.mono ?_
          rintro e y4 ⟨rfl, k9⟩
          have hkz4 := Lib.hid (hkz3.out.trans (k9.mono (fun _ f => f.elim)))
          have hBz4 := Lib.hid (hBz3.out.keep k9 id)
          have hks4 := Lib.hid (hks3.out.trans k9)
          clear h1 k9 hBz3 hkz3 hks3
          have h1 := Lib.hid (hNm.out aPrioW m5 hm5.out y4 hkz4.out)
          go_wp2_with fail
          refine h1.out.mono ?_
          rintro e y5 ⟨rfl, k9⟩
          have hkz5 := Lib.hid (hkz4.out.trans (k9.mono (fun _ f => f.elim)))
          have hBz5 := Lib.hid (hBz4.out.keep k9 id)
          have hks5 := Lib.hid (hks4.out.trans k9)
          clear h1 k9 hBz4 hkz4 hks4
          have h1 := Lib.hid (hA.out aNetW V6 hV6.out y5 hkz5.out)
          go_wp2_with fail
          refine h1.out.mono ?_
          rintro e y6 ⟨rfl, k9⟩
          have hkz6 := Lib.hid (hkz5.out.trans (k9.mono (fun _ f => f.elim)))
          have hBz6 := Lib.hid (hBz5.out.keep k9 id)
          have hks6 := Lib.hid (hks5.out.trans k9)
          clear h1 k9 hBz5 hkz5 hks5
          have h1 := Lib.hid (hA.out aAuthW V7 hV7.out y6 hkz6.out)
          go_wp2_with fail
          refine h1.out.mono ?_
          rintro e y7 ⟨rfl, k9⟩
          have hkz7 := Lib.hid (hkz6.out.trans (k9.mono (fun _ f => f.elim)))
          have hBz7 := Lib.hid (hBz6.out.keep k9 id)
          have hks7 := Lib.hid (hks6.out.trans k9)
          clear h1 k9 hBz6 hkz6 hks6
          have hth := Lib.hid (hBz7.out.there 0 10 (Nat.le_refl _))
          go_wp2_with ((with_reducible refine at_store 4 ?_); refine wpList_store_blk rfl 48 (.tmp 4) (.tmp 79) rfl b4 _ rfl rfl hth.out ref15Info (by simp; exact ⟨rfl, rfl, rfl, rfl, rfl, rfl, rfl, rfl, rfl, rfl⟩) ?_; intro w4 hr4 hk4)
          refine bodyPost_ret (ret_cell_tmp rfl _ w4 b4 _ _ rfl hr4.out Tryz.underlying48 rfl ref15Info) rfl ⟨?_, hks7.out.trans' hk4.out (fun i e => .inr (by rw [e, hb4'.out]; exact Nat.le_refl _))⟩
          have q1 : (setD ls n).area = A1 := by show (addrL (valueR ls 2 n aAreaW)).getD 0 = _; rw [hr1'.out, hA1'.out]
          have q2 : (setD ls n).addr = X2 := by show ((netL (valueR ls 2 n aAddrW)).getD (0, 0)).1 = _; rw [hr2'.out, hX2'.out]
          have q3 : (setD ls n).mask = mk := by
            show maskD ((netL (valueR ls 2 n aAddrW)).getD (0, 0)).2 = _
            rw [hr2'.out, hK2'.out, hmk.out]
          have q4 : (setD ls n).two = (V6.toList == [112, 111, 105, 110, 116, 45, 116, 111, 45, 112, 111, 105, 110, 116]) := by
            show (valueR ls 2 n aNetW == aTwoW) = _
            rw [hV6.out, ba_toList]; rfl
          have q5 : strv (setD ls n).auth = .string V7 := by rw [hV7.out]; rfl
          have hS : setVals (setD ls n) = [.int .u32 A1, .int .u32 X2, .int .u32 mk, .int .i64 m1, .int .i64 m2, .int .i64 m3, .int .i64 m4, .int .i64 m5, .bool (V6.toList == [112, 111, 105, 110, 116, 45, 116, 111, 45, 112, 111, 105, 110, 116]), .string V7] := by
            unfold setVals
            rw [q1, q2, q3, q4, q5, show (setD ls n).cost = m1 from hm1.out, show (setD ls n).hello = m2 from hm2.out, show (setD ls n).dead = m3 from hm3.out, show (setD ls n).again = m4 from hm4.out, show (setD ls n).prio = m5 from hm5.out]
          rw [hS]
          rfl
end Go.Proofs.YtialookpnoaogaaGreat
/- Of adv: faceOf, areOf where there are no faces; networks where nobody speaks; Id. -/
set_option linter.unusedVariables false
set_option linter.unusedSimpArgs false
namespace Go.Proofs.YtialookpnoaogaaGreat
open Go.RowKit

theorem faceInfo : (Tryz.prog.info? 64).map (·.size) = some 3 := by kernel_rfl
set_option maxRecDepth 100000 in
set_option maxHeartbeats 8000000 in
theorem faceOf_nil (N : ByteArray) (w : World) : Calls Tryz.prog 22 #[.string N, .slice none 0 0] w (NewRes (.agg #[.string N, .int .u32 0, .slice none 0 0]) w) := by
  have hB0 := BlkAt.new w 64 [.string ⟨#[]⟩, .int .u32 0, .slice none 0 0]
  have hth := Lib.hid (hB0.there 0 3 (Nat.le_refl _))
  have hk0 : Hid (Keeps (fun _ => False) w (w.alloc (.cells #[.string ⟨#[]⟩, .int .u32 0, .slice none 0 0] 64))) := Lib.hid ((Keeps.refl _ _).alloc _)
  clear hB0
  go_enter Tryz.func22, Tryz.ntmps22
  go_wp2_with fail
  generalize hW0 : w.alloc (.cells #[.string ⟨#[]⟩, .int .u32 0, .slice none 0 0] 64) = W0 at hth hk0 ⊢
  clear hW0
  go_loopw [9] (fun iv wr => iv = .int .i64 0 ∧ W0 = wr) (fun _ _ => 0)
  case atStart => exact ⟨rfl, rfl⟩
  obtain ⟨rfl, rfl⟩ := hrel
  go_wp2_with ((with_reducible refine at_store 4 ?_); refine wpList_store_blk rfl 64 (.tmp 4) (.tmp 20) rfl w.heap.size _ rfl rfl hth.out faceInfo (by simp; exact ⟨rfl, rfl, rfl⟩) ?_; intro w4 hr4 hk4)
  refine bodyPost_ret (ret_cellN rfl _ w4 w.heap.size _ _ rfl hr4.out Tryz.underlying64 rfl faceInfo) rfl ⟨rfl, hk0.out.trans' hk4.out (fun i e => .inr (by rw [e]; exact Nat.le_refl _))⟩
set_option maxRecDepth 100000 in
set_option maxHeartbeats 8000000 in
theorem areOf_nil (v : Value) (w : World) : Calls Tryz.prog 20 #[v, .slice none 0 0] w (NewRes (.bool true) w) := by
  go_enter Tryz.func20, Tryz.ntmps20
  go_wp2_with fail
  go_loopw [10] (fun iv wr => iv = .int .i64 0 ∧ w = wr) (fun _ _ => 0)
  case atStart => exact ⟨rfl, rfl⟩
  obtain ⟨rfl, rfl⟩ := hrel
  go_wp2_with fail
  go_ret
  exact ⟨rfl, Keeps.refl _ _⟩
set_option maxRecDepth 100000 in
set_option maxHeartbeats 8000000 in
theorem advId_c (v : Value) (ls : List LineD) (w : World) (hv : Hid (RowsAt 4 lineVals w v ls)) (hr : Hid (rightC ls = true)) (m : Nat) (hm : Hid ((addrL (valueR ls 0 [] [114, 111, 117, 116, 101, 114, 45, 105, 100])).getD 0 = m)) :
    Calls Tryz.prog 13 #[v] w (NewRes (.int .u32 m) w) := by
  obtain ⟨p, c, rfl⟩ := hv.out.slice
  obtain ⟨V, hV⟩ : ∃ V : ByteArray, V = ⟨(valueR ls 0 [] [114, 111, 117, 116, 101, 114, 45, 105, 100]).toArray⟩ := ⟨_, rfl⟩
  have hva := Lib.hid (value_any _ ls 0 ⟨#[]⟩ ⟨#[114, 111, 117, 116, 101, 114, 45, 105, 100]⟩ V w hv hr (Lib.hid hV))
  have hd : Hid (∀ W, Calls Tryz.prog 36 #[.string V] W fun e w' => (∃ b, e = .returned (.tuple #[.int .u32 m, .bool b])) ∧ Keeps (fun _ => False) W w') := Lib.hid (fun W => by
    obtain ⟨r1, hr1⟩ : ∃ r, addrL (valueR ls 0 [] [114, 111, 117, 116, 101, 114, 45, 105, 100]) = r := ⟨_, rfl⟩
    have hs := valueR_hundred hr.out 0 [] [114, 111, 117, 116, 101, 114, 45, 105, 100]
    have h := addr_r V r1 W (by rw [hV]; simp [ByteArray.size]; omega) (Lib.hid (by rw [hV]; exact hr1))
    have e1 := hm.out
    rw [hr1] at e1
    refine h.mono ?_
    rintro e w' ⟨he, n, hn⟩
    refine ⟨⟨r1.isSome, by rw [he, ← e1]; cases r1 <;> rfl⟩, by rw [hn]; exact (Keeps.refl _ _).drewN n⟩)
  clear hV hm
  go_enter Tryz.func13, Tryz.ntmps13
  go_wp2_with fail
  refine hva.out.mono ?_
  rintro e w1 ⟨rfl, hk1⟩
  have hk1' := Lib.hid hk1
  clear hva hk1
  go_wp2_with fail
  refine (hd.out _).mono ?_
  rintro e w2 ⟨⟨b, rfl⟩, hk2⟩
  have hk2' := Lib.hid (hk1'.out.trans hk2)
  clear hd hk2 hk1'
  go_wp2_with fail
  go_ret
  exact ⟨rfl, hk2'.out⟩
set_option maxRecDepth 100000 in
set_option maxHeartbeats 8000000 in
theorem networks_none (me : Nat) (v : Value) (xs : List StandR) (w : World) (hv : Hid (RowsAt 13 StandR.vals w v xs)) (hl : xs.length ≤ 64) (hs : Hid (∀ x ∈ xs, speaksB x.s x.dr x.n = false)) :
    Calls Tryz.prog 24 #[.int .u32 me, v] w (NewRes (.slice none 0 0) w) := by
  obtain ⟨p, c, rfl⟩ := hv.out.slice
  go_enter Tryz.func24, Tryz.ntmps24
  go_wp2_with fail
  go_loopw [13, 5] (fun iv tv wr => ∃ (k : Nat), k ≤ xs.length ∧ iv = .int .i64 k ∧ tv = .slice none 0 0 ∧ Hid (Keeps (fun _ => False) w wr)) (fun iv _ _ => xs.length - (intOf iv).toNat)
  case atStart => exact ⟨0, by omega, rfl, rfl, Lib.hid (Keeps.refl _ _)⟩
  case round =>
    obtain ⟨k, hk, rfl, rfl, hkr⟩ := hrel
    by_cases hlx : k < xs.length
    · obtain ⟨x, hx⟩ : ∃ x, xs[k]? = some x := ⟨_, List.getElem?_eq_getElem hlx⟩
      have hm := List.mem_of_getElem? hx
      obtain ⟨g, o, rfl, hrow0⟩ := hv.out.open (by omega)
      have hrow := Lib.hid (hkr.out.rangeAt (hrow0 k x hx) id)
      have hsx := Lib.hid (fun W => standSpeaks_any x.s x.nm x.dr x.n x.c x.p false W (Lib.hid (hs.out x hm)))
      obtain ⟨L, hL⟩ : ∃ L, x.vals = L := ⟨_, rfl⟩
      have hL2 : standVals x.s x.nm x.dr (.slice x.p x.n x.c) = L := hL
      rw [hL] at hrow
      rw [hL2] at hsx
      have hLl : L.length = 13 := by rw [← hL]; rfl
      have hi : Hid ((Tryz.prog.info? 67).map (·.size) = some L.length) := Lib.hid (by rw [hLl]; exact standInfo)
      have hL1 : Hid (L.toArray.all (·.oneCell') = true) := Lib.hid (by
        rw [← hL]
        obtain ⟨⟨area, addr, mask, cost, hello, dead, again, prio, two, auth⟩, nm, dr, p, n, c⟩ := x
        unfold StandR.vals standVals setVals strv
        simp
        exact ⟨rfl, rfl, rfl, rfl, rfl, rfl, rfl, rfl, rfl, rfl, rfl, rfl, rfl⟩)
      have hLs : Hid ((#[.int .u32 0, .int .u32 0, .int .u32 0, .int .i64 0, .int .i64 0, .int .i64 0, .int .i64 0, .int .i64 0, .bool false, .string ⟨#[]⟩, .string ⟨#[]⟩, .int .u32 0, .slice none 0 0] : Array Value).size = L.toArray.size) := Lib.hid (by simp [hLl])
      have hLz : L.toArray.size = L.length := by simp
      have hBx := Lib.hid (BlkAt.new wr 67 L)
      have hkx := Lib.hid (hkr.out.alloc (.cells L.toArray 67))
      have m1 : (0 : Int) ≤ (k : Int) := by omega
      have m2 : (k : Int) < (xs.length : Int) := by omega
      clear hL hL2 hrow0 hm hx hkr
      go_upto_region 5 with (first | ((with_reducible refine at_slot 16 ?_); refine wpList_load_mid rfl 67 (.tmp 15) rfl g (o + k * 13) rfl L _ hrow.out Tryz.underlying67 rfl hi.out ?_) | ((with_reducible refine at_store 7 ?_); refine wpList_store_new rfl 67 (.tmp 7) (.tmp 16) rfl _ L.toArray rfl rfl (by rw [hLz]; exact hi.out) hLs.out hL1.out ?_))
      obtain ⟨b, hb⟩ : ∃ b, wr.heap.size = b := ⟨_, rfl⟩
      rw [hb] at hBx ⊢
      generalize wr.alloc (.cells L.toArray 67) = W1 at hBx hkx ⊢
      clear hb hrow
      go_wp2_with ((with_reducible refine at_slot 17 ?_); refine wpList_load_mid rfl 67 (.tmp 7) rfl b 0 rfl L _ hBx.out.range Tryz.underlying67 rfl hi.out ?_)
      refine (hsx.out _).mono ?_
      rintro e W2 ⟨rfl, k2⟩
      have hk2 := Lib.hid (hkx.out.trans k2)
      clear hsx hBx hkx k2
      go_wp2_with fail
      exact ⟨⟨k + 1, by omega, by go_num, rfl, hk2⟩, by simp [intOf]; omega⟩
    · go_wp2_with fail
      go_ret
      exact ⟨rfl, hkr.out⟩
end Go.Proofs.YtialookpnoaogaaGreat
/- Of adv: faces: areOf, faceOf. -/
set_option linter.unusedVariables false
set_option linter.unusedSimpArgs false
namespace Go.Proofs.YtialookpnoaogaaGreat
open Go.RowKit

structure PeerD where
  id : Nat
  addr : Nat
def peerVals (x : PeerD) : List Value := [.int .u32 x.id, .int .u32 x.addr]
/-- a face in memory -/
structure FaceE where
  nm : List UInt8
  dr : Nat
  p : Option Addr
  c : Nat
  full : List PeerD
def FaceE.vals (f : FaceE) : List Value := [strv f.nm, .int .u32 f.dr, .slice f.p f.full.length f.c]
theorem face_len (f : FaceE) : f.vals.length = 3 := rfl
theorem face_one (f : FaceE) : ∀ u ∈ f.vals, u.oneCell' = true := by
  intro u hu
  simp only [FaceE.vals, List.mem_cons, List.not_mem_nil, or_false] at hu
  rcases hu with rfl | rfl | rfl <;> rfl
set_option maxRecDepth 100000 in
set_option maxHeartbeats 4000000 in
theorem areOf1_any (f : FaceE) (n : List UInt8) (b : Nat) (z : Bool) (w : World) (hc : Hid (w.cell? ⟨b, 0, none⟩ = some (strv n))) (hz : Hid ((z = true) ↔ f.nm = n)) :
    Calls Tryz.prog 49 #[.agg f.vals.toArray, .pointer (some ⟨b, 0, none⟩)] w (NewRes (.bool z) w) := by
  obtain ⟨nm, dr, p, c, full⟩ := f
  obtain ⟨X, hX⟩ : ∃ X : ByteArray, (⟨nm.toArray⟩ : ByteArray) = X := ⟨_, rfl⟩
  obtain ⟨Y, hY⟩ : ∃ X : ByteArray, (⟨n.toArray⟩ : ByteArray) = X := ⟨_, rfl⟩
  obtain ⟨L, hL⟩ : ∃ L, FaceE.vals ⟨nm, dr, p, c, full⟩ = L := ⟨_, rfl⟩
  have hbx := boxed_new w L 64
  rw [hL]
  have h1 := hbx.cell 0 (.string X) (by rw [← hL, ← hX]; rfl)
  have h2 : (w.alloc (.cells L.toArray 64)).cell? ⟨b, 0, none⟩ = some (.string Y) := by
    rw [← hY]
    exact (((Keeps.refl (fun _ => False) w).alloc _).cell (p := ⟨b, 0, none⟩) (World.block_lt_of_cell? w _ hc.out) id).trans hc.out
  have hk0 := Lib.hid hbx.k
  have hE : Hid ((X.toList == Y.toList) = z) := Lib.hid (by
    rw [← hX, ← hY, ba_toList, ba_toList]
    cases z with
    | true => rw [beq_iff_eq]; exact hz.out.1 rfl
    | false => rw [beq_eq_false_iff_ne]; intro e; have := hz.out.2 e; cases this)
  clear hL hbx hX hY hc hz
  go_enter Tryz.func49, Tryz.ntmps49
  go_upto_region 1 with fail
  generalize hW0 : w.alloc (Obj.cells L.toArray 64) = W0 at h1 h2 hk0 ⊢
  clear hW0
  go_wp2_with fail
  go_ret
  exact ⟨by rw [← hE.out]; rfl, hk0.out⟩
set_option maxRecDepth 100000 in
set_option maxHeartbeats 4000000 in
theorem ixFaces_any (v : Value) (fs : List FaceE) (n : List UInt8) (b : Nat) (w : World) (hv : Hid (RowsAt 3 FaceE.vals w v fs)) (hl : fs.length ≤ 1000000) (hc : Hid (w.cell? ⟨b, 0, none⟩ = some (strv n))) :
    Calls Tryz.prog 89 #[v, .func (.func 49) #[] #[.pointer (some ⟨b, 0, none⟩)]] w fun e w' => (∃ r : Int, e = .returned (.int .i64 r) ∧ ((r = -1 ∧ ∀ f ∈ fs, f.nm ≠ n) ∨ (0 ≤ r ∧ ∃ f ∈ fs, f.nm = n))) ∧ Keeps (fun _ => False) w w' := by
  obtain ⟨p, c, rfl⟩ := hv.out.slice
  go_enter Tryz.func89, Tryz.ntmps89
  go_wp2_with fail
  go_loopw [8] (fun iv wr => ∃ (k : Nat), k ≤ fs.length ∧ iv = .int .i64 k ∧ Hid (∀ f ∈ fs.take k, f.nm ≠ n) ∧ Hid (Keeps (fun _ => False) w wr)) (fun iv _ => fs.length - (intOf iv).toNat)
  case atStart => exact ⟨0, by omega, rfl, Lib.hid (fun l hl => by simp at hl), Lib.hid (Keeps.refl _ _)⟩
  case round =>
    obtain ⟨k, hk, rfl, hU, hK⟩ := hrel
    by_cases hlk : k < fs.length
    · obtain ⟨f, hx⟩ : ∃ x, fs[k]? = some x := ⟨_, List.getElem?_eq_getElem hlk⟩
      obtain ⟨g, o, rfl, hr⟩ := hv.out.open (by omega)
      have hr2 := Lib.hid (hK.out.rangeAt (hr k f hx) id)
      have hcn := Lib.hid ((hK.out.cell (p := ⟨b, 0, none⟩) (World.block_lt_of_cell? w _ hc.out) id).trans hc.out)
      obtain ⟨z, hz⟩ : ∃ z, decide (f.nm = n) = z := ⟨_, rfl⟩
      have hz' : Hid ((z = true) ↔ f.nm = n) := Lib.hid (by rw [← hz, decide_eq_true_eq])
      have hcl := Lib.hid (areOf1_any f n b z wr hcn hz')
      have hx' := Lib.hid hx
      have hi : Hid ((Tryz.prog.info? 64).map (·.size) = some f.vals.length) := Lib.hid faceInfo
      have m1 : (0 : Int) ≤ (k : Int) := by omega
      have m2 : (k : Int) < (fs.length : Int) := by omega
      clear hr hcn hz hx
      go_wp2_with ((with_reducible refine at_slot 15 ?_); refine wpList_load_mid rfl 64 (.tmp 14) rfl g (o + k * 3) rfl f.vals _ hr2.out Tryz.underlying64 rfl hi.out ?_)
      refine hcl.out.mono ?_
      rintro e w2 ⟨rfl, hk2⟩
      have hK2 := Lib.hid (hK.out.trans hk2)
      clear hcl hk2 hr2 hK hi
      cases z with
      | true =>
        go_wp2_with fail
        go_ret
        exact ⟨⟨(k : Int), rfl, .inr ⟨by omega, f, List.mem_of_getElem? hx'.out, hz'.out.1 (by first | rfl | trivial)⟩⟩, hK2.out⟩
      | false =>
        have hn : Hid (∀ f ∈ fs.take (k + 1), f.nm ≠ n) := Lib.hid (fun l hl => by
          rw [List.take_add_one, hx'.out] at hl
          rcases List.mem_append.1 hl with h | h
          · exact hU.out l h
          · have : l = f := by simpa using h
            rw [this]; intro e; have := hz'.out.2 e; cases this)
        clear hU hz' hx'
        go_wp2_with fail
        exact ⟨⟨k + 1, by omega, by go_num, hn, hK2⟩, by simp [intOf]; omega⟩
    · obtain rfl : k = fs.length := by omega
      rw [List.take_length] at hU
      go_wp2_with fail
      go_ret
      exact ⟨⟨-1, rfl, .inl ⟨rfl, hU.out⟩⟩, hK.out⟩
set_option maxRecDepth 100000 in
set_option maxHeartbeats 4000000 in
theorem cfFaces_any (v : Value) (fs : List FaceE) (n : List UInt8) (b : Nat) (z : Bool) (w : World) (hv : Hid (RowsAt 3 FaceE.vals w v fs)) (hl : fs.length ≤ 1000000) (hc : Hid (w.cell? ⟨b, 0, none⟩ = some (strv n))) (hz : Hid ((z = true) ↔ ∃ f ∈ fs, f.nm = n)) :
    Calls Tryz.prog 48 #[v, .func (.func 49) #[] #[.pointer (some ⟨b, 0, none⟩)]] w (NewRes (.bool z) w) := by
  obtain ⟨p, c, rfl⟩ := hv.out.slice
  go_enter Tryz.func48, Tryz.ntmps48
  go_wp2_with fail
  refine (ixFaces_any _ fs n b w hv hl hc).mono ?_
  rintro e w2 ⟨⟨r, rfl, hr⟩, k2⟩
  have hr' : Hid (decide (r ≥ 0) = z) := Lib.hid (by
    rcases hr with ⟨h1, h2⟩ | ⟨h1, h2⟩
    · cases z with
      | true => obtain ⟨f, hf, e⟩ := hz.out.1 rfl; exact absurd e (h2 f hf)
      | false => rw [decide_eq_false_iff_not]; omega
    · rw [hz.out.2 h2, decide_eq_true_eq]; exact h1)
  have k2' := Lib.hid k2
  clear hr k2 hz
  go_wp2_with fail
  go_ret
  exact ⟨by rw [← hr'.out]; rfl, k2'.out⟩
end Go.Proofs.YtialookpnoaogaaGreat
