/- The document's Check of rules is the code's, plain. -/
import Derived.Test.YtialookpnoaogaaGreatZZ26
set_option linter.unusedVariables false
set_option linter.unusedSimpArgs false
set_option linter.unusedVariables false
set_option linter.unusedSimpArgs false
namespace Go.Proofs.YtialookpnoaogaaGreat
open Go.RowKit

theorem range_flat {β : Type} (g : List UInt8 → List β) : ∀ (F : List (List UInt8)), (List.range F.length).flatMap (fun i => g (F.getD i [])) = F.flatMap g := by
  intro F
  induction F with
  | nil => rfl
  | cons a F ih =>
    rw [List.length_cons, List.range_succ_eq_map, List.flatMap_cons, List.flatMap_map, List.flatMap_cons]
    congr 1
theorem zip_flat {β : Type} (v : List UInt8 → List UInt8) (g : List UInt8 × List UInt8 → List β) : ∀ (F : List (List UInt8)), (F.zip (F.map v)).flatMap g = F.flatMap (fun n => g (n, v n)) := by
  intro F
  induction F with
  | nil => rfl
  | cons a F ih => rw [List.map_cons, List.zip_cons_cons, List.flatMap_cons, List.flatMap_cons, ih]
theorem zip_flat2 {β : Type} (v u : List UInt8 → List UInt8) (g : List UInt8 × List UInt8 × List UInt8 → List β) : ∀ (F : List (List UInt8)), (F.zip ((F.map v).zip (F.map u))).flatMap g = F.flatMap (fun n => g (n, v n, u n)) := by
  intro F
  induction F with
  | nil => rfl
  | cons a F ih => rw [List.map_cons, List.map_cons, List.zip_cons_cons, List.zip_cons_cons, List.flatMap_cons, List.flatMap_cons, ih]
theorem flat_nil {α β : Type} (f : α → List β) (h : ∀ x, f x = []) (l : List α) : l.flatMap f = [] := by
  induction l with
  | nil => rfl
  | cons a l ih => rw [List.flatMap_cons, ih, h a]; rfl
theorem flat_eq {α β : Type} {f g : α → List β} {l : List α} (h : ∀ x ∈ l, f x = g x) : l.flatMap f = l.flatMap g := by
  induction l with
  | nil => rfl
  | cons a l ih => rw [List.flatMap_cons, List.flatMap_cons, h a (by simp), ih (fun x hx => h x (by simp [hx]))]
theorem one8_eq {b : Bool} {k k' : Int} {n : List UInt8} {p : Prop} [Decidable p] (hb : b = true ↔ p) (hk : k = k') : one8 b k n = if p then [⟨k', n⟩] else [] := by
  subst hk
  unfold one8
  by_cases h : p
  · rw [if_pos h, if_pos (hb.2 h)]
  · rw [if_neg h, if_neg (fun e => h (hb.1 e))]
theorem docF_flat (ls : List LineD) (F : List (List UInt8)) (kd : Nat) (g : List UInt8 → Bool) (h : ∀ i f, zC ls F kd i f = g f) : docF ls F kd F.length = F.flatMap (fun f => one8 (g f) kd f) := by
  unfold docF
  rw [← range_flat (fun f => one8 (g f) kd f) F]
  exact flat_eq (fun i _ => by rw [h])
-- the areas in use
theorem putU_mem (U : List (List UInt8)) (x y : List UInt8) : y ∈ putU U x ↔ y ∈ U ∨ y = x := by
  unfold putU
  by_cases h : x ∈ U
  · rw [if_pos h]
    exact ⟨.inl, fun e => e.elim id (fun e => e ▸ h)⟩
  · rw [if_neg h]; simp
theorem putU_nodup {U : List (List UInt8)} (h : U.Nodup) (x : List UInt8) : (putU U x).Nodup := by
  unfold putU
  by_cases hx : x ∈ U
  · rw [if_pos hx]; exact h
  · rw [if_neg hx]
    rw [List.nodup_append]
    exact ⟨h, by simp, fun a ha b hb => by
      simp at hb
      rintro rfl
      subst hb
      exact hx ha⟩
theorem used_both (ls : List LineD) (F : List (List UInt8)) : (usedS ls F).Nodup ∧ ∀ a, a ∈ usedS ls F ↔ ∃ f ∈ F, setR ls 2 f areaL = some a := by
  have key : ∀ k, k ≤ F.length → (usedS ls (F.take k)).Nodup ∧ ∀ a, a ∈ usedS ls (F.take k) ↔ ∃ f ∈ F.take k, setR ls 2 f areaL = some a := by
    intro k
    induction k with
    | zero => intro _; exact ⟨by simp [usedS], fun a => by simp [usedS]⟩
    | succ k ih =>
      intro hk
      obtain ⟨i1, i2⟩ := ih (by omega)
      obtain ⟨x, hx⟩ : ∃ x, F[k]? = some x := ⟨_, List.getElem?_eq_getElem (by omega)⟩
      have ht : F.take (k + 1) = F.take k ++ [x] := by rw [List.take_add_one, hx]; rfl
      rw [used_step ls F hx, ht]
      cases hs : setR ls 2 x areaL with
      | none =>
        refine ⟨i1, fun a => ?_⟩
        rw [i2 a]
        constructor
        · rintro ⟨f, hf, e⟩; exact ⟨f, by simp [hf], e⟩
        · rintro ⟨f, hf, e⟩
          rw [List.mem_append] at hf
          rcases hf with hf | hf
          · exact ⟨f, hf, e⟩
          · simp at hf; subst hf; rw [hs] at e; cases e
      | some y =>
        refine ⟨putU_nodup i1 y, fun a => ?_⟩
        show a ∈ putU _ y ↔ _
        rw [putU_mem, i2 a]
        constructor
        · rintro (⟨f, hf, e⟩ | rfl)
          · exact ⟨f, by simp [hf], e⟩
          · exact ⟨x, by simp, hs⟩
        · rintro ⟨f, hf, e⟩
          rw [List.mem_append] at hf
          rcases hf with hf | hf
          · exact .inl ⟨f, hf, e⟩
          · simp at hf; subst hf; rw [hs] at e; injection e with e; exact .inr e.symm
  have := key F.length (Nat.le_refl _)
  rwa [List.take_length] at this
theorem bone_ne : boneW ≠ [] := by decide
theorem part_one : ∀ (l : List (List UInt8)) (f : List UInt8) (sv : Bool), f ≠ [] → (partL l f sv = true ↔ boneW ∉ l ∧ (sv = true ∨ ∃ x ∈ l, x ≠ [] ∧ x ≠ f)) := by
  intro l
  induction l with
  | nil => intro f sv _; simp [partL]
  | cons a r ih =>
    intro f sv hf
    unfold partL
    by_cases h0 : a = []
    · rw [if_pos h0, ih f sv hf]
      subst h0
      have := bone_ne
      constructor
      · rintro ⟨h1, h2⟩
        refine ⟨fun e => ?_, h2.imp id (fun ⟨x, hx, e⟩ => ⟨x, by simp [hx], e⟩)⟩
        rw [List.mem_cons] at e
        exact e.elim this h1
      · rintro ⟨h1, h2⟩
        refine ⟨fun e => h1 (by simp [e]), h2.imp id (fun ⟨x, hx, e⟩ => ⟨x, ?_, e⟩)⟩
        rw [List.mem_cons] at hx
        exact hx.elim (fun e2 => absurd e2 e.1) id
    · rw [if_neg h0]
      by_cases hb : a = boneW
      · rw [if_pos hb]
        subst hb
        simp
      · rw [if_neg hb, ih a _ h0]
        have hd : decide (f ≠ []) = true := decide_eq_true hf
        rw [hd, Bool.true_and]
        by_cases haf : a = f
        · subst haf
          simp only [ne_eq, not_true_eq_false, decide_false, Bool.or_false]
          constructor
          · rintro ⟨h1, h2⟩
            refine ⟨fun e => ?_, h2.imp id (fun ⟨x, hx, e⟩ => ⟨x, by simp [hx], e⟩)⟩
            rw [List.mem_cons] at e
            exact e.elim (fun e => hb e.symm) h1
          · rintro ⟨h1, h2⟩
            refine ⟨fun e => h1 (by simp [e]), h2.imp id (fun ⟨x, hx, e⟩ => ⟨x, ?_, e⟩)⟩
            rw [List.mem_cons] at hx
            exact hx.elim (fun e2 => absurd e2 e.2) id
        · constructor
          · rintro ⟨h1, h2⟩
            refine ⟨fun e => ?_, .inr ⟨a, by simp, h0, haf⟩⟩
            rw [List.mem_cons] at e
            exact e.elim (fun e => hb e.symm) h1
          · rintro ⟨h1, h2⟩
            exact ⟨fun e => h1 (by simp [e]), .inl (by simp [haf])⟩
theorem part_none : ∀ (l : List (List UInt8)) (sv : Bool), (partL l [] sv = true ↔ boneW ∉ l ∧ (sv = true ∨ ∃ x ∈ l, ∃ y ∈ l, x ≠ [] ∧ y ≠ [] ∧ x ≠ y)) := by
  intro l
  induction l with
  | nil => intro sv; simp [partL]
  | cons a r ih =>
    intro sv
    unfold partL
    by_cases h0 : a = []
    · rw [if_pos h0, ih sv]
      subst h0
      have := bone_ne
      constructor
      · rintro ⟨h1, h2⟩
        refine ⟨fun e => ?_, h2.imp id (fun ⟨x, hx, y, hy, e⟩ => ⟨x, by simp [hx], y, by simp [hy], e⟩)⟩
        rw [List.mem_cons] at e
        exact e.elim this h1
      · rintro ⟨h1, h2⟩
        refine ⟨fun e => h1 (by simp [e]), h2.imp id (fun ⟨x, hx, y, hy, e⟩ => ⟨x, ?_, y, ?_, e⟩)⟩
        · rw [List.mem_cons] at hx; exact hx.elim (fun e2 => absurd e2 e.1) id
        · rw [List.mem_cons] at hy; exact hy.elim (fun e2 => absurd e2 e.2.1) id
    · rw [if_neg h0]
      by_cases hb : a = boneW
      · rw [if_pos hb]
        subst hb
        simp
      · rw [if_neg hb, part_one r a _ h0]
        have hd : decide (([] : List UInt8) ≠ []) = false := by decide
        rw [hd, Bool.false_and, Bool.or_false]
        constructor
        · rintro ⟨h1, h2⟩
          refine ⟨fun e => ?_, h2.imp id (fun ⟨x, hx, e1, e2⟩ => ⟨x, by simp [hx], a, by simp, e1, h0, e2⟩)⟩
          rw [List.mem_cons] at e
          exact e.elim (fun e => hb e.symm) h1
        · rintro ⟨h1, h2⟩
          refine ⟨fun e => h1 (by simp [e]), h2.imp id (fun ⟨x, hx, y, hy, e1, e2, e3⟩ => ?_)⟩
          rw [List.mem_cons] at hx hy
          by_cases hxa : x = a
          · refine ⟨y, hy.elim (fun e => absurd (hxa.trans e.symm) e3) id, e2, fun e => e3 (hxa.trans e.symm)⟩
          · exact ⟨x, hx.elim (fun e => absurd e hxa) id, e1, hxa⟩
theorem two_in {U : List (List UInt8)} (hU : U.Nodup) : 1 < U.length ↔ ∃ x ∈ U, ∃ y ∈ U, x ≠ y := by
  constructor
  · intro h
    match U, hU, h with
    | x :: y :: r, hU, _ =>
      refine ⟨x, by simp, y, by simp, ?_⟩
      rintro rfl
      simp at hU
  · rintro ⟨x, hx, y, hy, e⟩
    match U, hx, hy with
    | [a], hx, hy =>
      simp at hx hy
      exact absurd (hx.trans hy.symm) e
    | a :: b :: r, _, _ => simp
theorem vals_mem {ls : List LineD} (hr : rightC ls = true) (F : List (List UInt8)) (a : List UInt8) : (∃ f ∈ F, setR ls 2 f areaL = some a) ↔ a ∈ valuesC ls F areaL ∧ a ≠ [] := by
  unfold valuesC
  rw [List.mem_map]
  constructor
  · rintro ⟨f, hf, e⟩
    exact ⟨⟨f, hf, by rw [area_value, e]; rfl⟩, area_set hr e⟩
  · rintro ⟨⟨f, hf, e⟩, h0⟩
    refine ⟨f, hf, ?_⟩
    rw [area_value] at e
    cases hs : setR ls 2 f areaL with
    | none => rw [hs] at e; exact absurd e.symm h0
    | some b => rw [hs] at e; exact congrArg some e
theorem zB_part {ls : List LineD} (hr : rightC ls = true) (F : List (List UInt8)) : zB (usedS ls F) 6 = partedC (valuesC ls F areaL) := by
  obtain ⟨hn, hm⟩ := used_both ls F
  rw [Bool.eq_iff_iff]
  unfold zB partedC
  rw [part_none]
  simp only [Bool.and_eq_true, decide_eq_true_eq, Bool.not_eq_true', decide_eq_false_iff_not, true_and, Bool.false_eq_true, false_or]
  rw [two_in hn]
  have hm2 : ∀ a, a ∈ usedS ls F ↔ a ∈ valuesC ls F areaL ∧ a ≠ [] := fun a => (hm a).trans (vals_mem hr F a)
  constructor
  · rintro ⟨⟨x, hx, y, hy, e⟩, hb⟩
    refine ⟨fun h => hb ((hm2 _).2 ⟨h, bone_ne⟩), x, ((hm2 x).1 hx).1, y, ((hm2 y).1 hy).1, ((hm2 x).1 hx).2, ((hm2 y).1 hy).2, e⟩
  · rintro ⟨hb, x, hx, y, hy, e1, e2, e3⟩
    exact ⟨⟨x, (hm2 x).2 ⟨hx, e1⟩, y, (hm2 y).2 ⟨hy, e2⟩, e3⟩, fun h => hb ((hm2 _).1 h).1⟩
theorem meetL_sym (a b : List UInt8) : meetL a b = meetL b a := by
  unfold meetL
  cases netL a with
  | none => cases netL b with
    | none => rfl
    | some q => rfl
  | some p =>
    cases netL b with
    | none => rfl
    | some q =>
      obtain ⟨x, n⟩ := p
      obtain ⟨y, m⟩ := q
      show decide _ = decide _
      rw [Nat.min_comm m n]
      exact decide_eq_decide.2 ⟨Eq.symm, Eq.symm⟩
theorem meetL_nil (a : List UInt8) : meetL a [] = false := by
  rw [meetL_sym]; unfold meetL; rw [show netL [] = none by decide]
theorem over_same (ls : List LineD) (F : List (List UInt8)) (i : Nat) (hi : i < F.length) : overD ls F i (F.getD i []) = ((valuesC ls F addressL).take i).any (fun x => meetL x ((valuesC ls F addressL).getD i [])) := by
  unfold overD valuesC
  rw [← List.map_take, List.any_map]
  have hg : (F.map (fun n => valueR ls 2 n addressL)).getD i [] = valueR ls 2 (F.getD i []) addressL := by
    rw [List.getD_eq_getElem?_getD, List.getElem?_map, List.getD_eq_getElem?_getD, List.getElem?_eq_getElem hi]; rfl
  rw [hg]
  congr 1
  funext x
  show overAt ls _ x = meetL (valueR ls 2 x addressL) _
  rw [net_value, net_value]
  unfold overAt
  cases setR ls 2 (F.getD i []) addressL with
  | none => show false = meetL _ []; rw [meetL_nil]
  | some a =>
    cases setR ls 2 x addressL with
    | none => show false = meetL [] _; rw [meetL_sym, meetL_nil]
    | some b => show meetL a b = meetL b a; rw [meetL_sym]
-- names of a configuration
theorem names_from (h : Int) : ∀ (ls : List LineD) (p : LineD), rises (p :: ls) → (namesFrom h (some p) ls).Nodup ∧ ∀ n ∈ namesFrom h (some p) ls, (∃ q ∈ ls, q.head = h ∧ q.name = n) ∧ (p.head = h → Op.bytesLess p.name n = true) := by
  intro ls
  induction ls with
  | nil => intro p _; exact ⟨by simp [namesFrom], fun n hn => by simp [namesFrom] at hn⟩
  | cons q r ih =>
    intro p hr
    have hpq := rises_head hr q (by simp)
    have hrt := rises_tail hr
    obtain ⟨i1, i2⟩ := ih q hrt
    rw [lessB_iff] at hpq
    have rest : ∀ n ∈ namesFrom h (some q) r, (∃ q' ∈ q :: r, q'.head = h ∧ q'.name = n) ∧ (p.head = h → Op.bytesLess p.name n = true) := fun n hn => by
      obtain ⟨⟨q', hq', e1, e2⟩, j2⟩ := i2 n hn
      refine ⟨⟨q', by simp [hq'], e1, e2⟩, fun hp => ?_⟩
      have h3 := rises_head hrt q' hq'
      rw [lessB_iff] at h3
      by_cases hq : q.head = h
      · have j3 := j2 hq
        rcases hpq with e | ⟨-, e | ⟨e, -⟩⟩
        · omega
        · exact bl_trans e j3
        · rw [e]; exact j3
      · rcases hpq with e | ⟨e, -⟩
        · rcases h3 with h3 | ⟨h3, -⟩ <;> omega
        · omega
    unfold namesFrom
    by_cases hc : q.head = h ∧ (match some p with | none => true | some p => !(decide (p.head = q.head) && decide (p.name = q.name))) = true
    · rw [if_pos hc]
      obtain ⟨hq, hne⟩ := hc
      refine ⟨?_, ?_⟩
      · rw [List.singleton_append, List.nodup_cons]
        refine ⟨fun hin => ?_, i1⟩
        have := (i2 _ hin).2 hq
        rw [bl_irr] at this
        cases this
      · intro n hn
        rw [List.singleton_append, List.mem_cons] at hn
        rcases hn with rfl | hn
        · refine ⟨⟨q, by simp, hq, rfl⟩, fun hp => ?_⟩
          rcases hpq with e | ⟨-, e | ⟨e, -⟩⟩
          · omega
          · exact e
          · have h5 : p.head = q.head := by omega
            simp [h5, e] at hne
        · exact rest n hn
    · rw [if_neg hc, List.nil_append]
      exact ⟨i1, rest⟩
theorem names_nodup (h : Int) {ls : List LineD} (hr : rises ls) : (namesFrom h none ls).Nodup ∧ ∀ n ∈ namesFrom h none ls, ∃ q ∈ ls, q.head = h ∧ q.name = n := by
  cases ls with
  | nil => exact ⟨by simp [namesFrom], fun n hn => by simp [namesFrom] at hn⟩
  | cons q r =>
    obtain ⟨i1, i2⟩ := names_from h r q hr
    unfold namesFrom
    by_cases hq : q.head = h
    · rw [if_pos ⟨hq, rfl⟩]
      refine ⟨?_, ?_⟩
      · rw [List.singleton_append, List.nodup_cons]
        refine ⟨fun hin => ?_, i1⟩
        have := (i2 _ hin).2 hq
        rw [bl_irr] at this
        cases this
      · intro n hn
        rw [List.singleton_append, List.mem_cons] at hn
        rcases hn with rfl | hn
        · exact ⟨q, by simp, hq, rfl⟩
        · obtain ⟨q', h1, h2⟩ := (i2 n hn).1
          exact ⟨q', by simp [h1], h2⟩
    · rw [if_neg (fun e => hq e.1), List.nil_append]
      refine ⟨i1, fun n hn => ?_⟩
      obtain ⟨q', h1, h2⟩ := (i2 n hn).1
      exact ⟨q', by simp [h1], h2⟩
theorem names_has (h : Int) {q : LineD} (hq : q.head = h) : ∀ (ls : List LineD) (p : Option LineD), q ∈ ls → q.name ∈ namesFrom h p ls ∨ ∃ p', p = some p' ∧ p'.head = h ∧ p'.name = q.name := by
  intro ls
  induction ls with
  | nil => intro p hin; simp at hin
  | cons a r ih =>
    intro p hin
    have hself : a.head = h → a.name = q.name → q.name ∈ namesFrom h p (a :: r) ∨ ∃ p', p = some p' ∧ p'.head = h ∧ p'.name = q.name := fun e1 e2 => by
      unfold namesFrom
      cases p with
      | none => left; rw [if_pos ⟨e1, rfl⟩]; simp [e2]
      | some p =>
        by_cases hs : p.head = a.head ∧ p.name = a.name
        · right; exact ⟨p, rfl, hs.1.trans e1, hs.2.trans e2⟩
        · left
          rw [if_pos ⟨e1, by by_cases h : p.head = a.head <;> simp_all⟩]
          simp [e2]
    rw [List.mem_cons] at hin
    rcases hin with rfl | hin
    · exact hself hq rfl
    · rcases ih (some a) hin with h1 | ⟨p', e, h1, h2⟩
      · left; unfold namesFrom; simp [h1]
      · injection e with e; subst e; exact hself h1 h2
theorem flat_one {β : Type} (g : List UInt8 → List β) (b : List UInt8) (y : List β) (h1 : g b = y) : ∀ (A : List (List UInt8)), A.Nodup → b ∈ A → (∀ x ∈ A, x ≠ b → g x = []) → A.flatMap g = y := by
  intro A
  induction A with
  | nil => intro _ hb; simp at hb
  | cons a A ih =>
    intro hn hb hx
    rw [List.nodup_cons] at hn
    rw [List.flatMap_cons]
    by_cases e : a = b
    · subst e
      rw [h1]
      have : A.flatMap g = [] := by
        rw [flat_eq (g := fun _ => []) (fun x hxA => hx x (by simp [hxA]) (fun e => hn.1 (e ▸ hxA)))]
        exact flat_nil _ (fun _ => rfl) A
      rw [this, List.append_nil]
    · rw [hx a (by simp) e, List.nil_append]
      rw [List.mem_cons] at hb
      exact ih hn.2 (hb.elim (fun e2 => absurd e2.symm e) id) (fun x hxA => hx x (by simp [hxA]))
theorem back_same {ls : List LineD} (hr : rightC ls = true) (U : List (List UInt8)) : docA ls U 6 (namesA 1 ls) = if valueR ls 1 boneW typeW = normalW then [] else [⟨6, boneW⟩] := by
  have hz : ∀ a, zD ls U 6 a = (decide (a = boneW) && (match setR ls 1 a typeW with | some t => !decide (t = normalW) | none => false)) := fun a => by unfold zD; simp; rfl
  unfold docA
  rw [flat_eq (g := fun a => one8 (decide (a = boneW) && (match setR ls 1 a typeW with | some t => !decide (t = normalW) | none => false)) 6 a) (fun a _ => by rw [hz]; rfl)]
  rw [type_value]
  have hA : namesA 1 ls = namesFrom 1 none ls := by unfold namesA; rw [if_neg (by decide)]
  cases hs : setR ls 1 boneW typeW with
  | none =>
    show _ = if normalW = normalW then _ else _
    rw [if_pos rfl]
    refine flat_nil _ (fun a => one_no ?_) _
    by_cases e : a = boneW
    · rw [e, hs]; simp
    · rw [decide_eq_false e]; rfl
  | some t =>
    show _ = if t = normalW then _ else _
    by_cases ht : t = normalW
    · rw [if_pos ht]
      refine flat_nil _ (fun a => one_no ?_) _
      by_cases e : a = boneW
      · rw [e, hs, ht]; simp
      · rw [decide_eq_false e]; rfl
    · rw [if_neg ht]
      obtain ⟨q, hq, h1, h2, -, -⟩ := set_line hs
      refine flat_one _ boneW _ ?_ _ ?_ ?_ ?_
      · exact one_yes (by rw [hs]; simp [ht])
      · rw [hA]; exact (names_nodup 1 (right_rises hr)).1
      · rw [hA]
        rcases names_has 1 h1 ls none hq with h | ⟨p, e, _⟩
        · rw [← h2]; exact h
        · cases e
      · intro x _ hx
        refine one_no ?_
        rw [decide_eq_false hx]; rfl
theorem unused_same {ls : List LineD} (hr : rightC ls = true) (F : List (List UInt8)) : docA ls (usedS ls F) 7 (namesA 1 ls) = unusedC ls (valuesC ls F areaL) := by
  have hz : ∀ a, zD ls (usedS ls F) 7 a = !decide (a ∈ usedS ls F) := fun a => by unfold zD; simp
  have hA : namesA 1 ls = namesFrom 1 none ls := by unfold namesA; rw [if_neg (by decide)]
  unfold docA unusedC
  refine flat_eq (fun a ha => ?_)
  rw [hz]
  have h0 : a ≠ [] := by
    rw [hA] at ha
    obtain ⟨q, hq, h1, h2⟩ := (names_nodup 1 (right_rises hr)).2 a ha
    have hl := right_line hr q hq
    unfold lineB at hl
    rintro rfl
    cases hf : findD q.head q.leaf with
    | none => rw [hf] at hl; cases hl
    | some row =>
      rw [hf, h1, h2] at hl
      have : namedB 1 [] = false := by decide
      simp [this] at hl
  have hm := ((used_both ls F).2 a).trans (vals_mem hr F a)
  by_cases h : a ∈ usedS ls F
  · rw [decide_eq_true h, if_pos (by simpa using (hm.1 h).1)]
    rfl
  · rw [decide_eq_false h, if_neg (by simpa using fun e => h (hm.2 ⟨e, h0⟩))]
    rfl
theorem docA_none (ls : List LineD) (U xs : List (List UInt8)) (kd : Nat) (h6 : kd ≠ 6) (h7 : kd ≠ 7) : docA ls U kd xs = [] := by
  unfold docA
  refine flat_nil _ (fun a => one_no ?_) _
  unfold zD
  rw [decide_eq_false h6, decide_eq_false h7]; rfl
theorem docF_none (ls : List LineD) (F : List (List UInt8)) (kd j : Nat) (h : kd < 2 ∨ 5 < kd) : docF ls F kd j = [] := by
  unfold docF
  refine flat_nil _ (fun a => one_no ?_) _
  unfold zC
  rw [if_neg (by omega), if_neg (by omega), if_neg (by omega), if_neg (by omega)]
theorem zA_none (ls : List LineD) (F : List (List UInt8)) (kd : Nat) (h : kd ≠ 1) : one8 (zA ls F kd) 1 [] = [] := one_no (by unfold zA; rw [decide_eq_false h]; rfl)
theorem zB_none (U : List (List UInt8)) (kd : Nat) (h : kd ≠ 6) : one8 (zB U kd) 6 [] = [] := one_no (by unfold zB; rw [decide_eq_false h]; rfl)
theorem zE_none (F : List (List UInt8)) (kd : Nat) (h : kd ≠ 8) : one8 (zE F kd) 8 [] = [] := one_no (by unfold zE; rw [decide_eq_false h]; rfl)
theorem doc_same {ls : List LineD} (hr : rightC ls = true) : docR ls = checkC ls := by
  unfold docR docTo
  rw [show List.range 8 = [0, 1, 2, 3, 4, 5, 6, 7] by decide]
  simp only [List.flatMap_cons, List.flatMap_nil, List.append_nil]
  have k1 : docK ls (namesA 2 ls) (namesA 1 ls) (0 + 1) = routerC ls (namesA 2 ls) := by
    unfold docK
    rw [zB_none _ _ (by decide), docF_none _ _ _ _ (by decide), docA_none _ _ _ _ (by decide) (by decide), zE_none _ _ (by decide)]
    simp only [List.append_nil]
    unfold routerC
    refine one8_eq ?_ rfl
    unfold zA
    rw [id_value]
    cases hs : setR ls 0 [] routerW with
    | none => simp
    | some v =>
      have := id_set hr hs
      simp [this]
  have k2 : docK ls (namesA 2 ls) (namesA 1 ls) (1 + 1) = unsetC 2 (namesA 2 ls) (valuesC ls (namesA 2 ls) areaL) := by
    unfold docK
    rw [zA_none _ _ _ (by decide), zB_none _ _ (by decide), docA_none _ _ _ _ (by decide) (by decide), zE_none _ _ (by decide)]
    simp only [List.append_nil, List.nil_append]
    rw [docF_flat ls _ (1 + 1) (fun f => (setR ls 2 f areaL).isNone) (fun i f => by unfold zC; rw [if_pos rfl])]
    unfold unsetC valuesC
    rw [zip_flat]
    refine flat_eq (fun f _ => one8_eq ?_ rfl)
    show _ ↔ valueR ls 2 f areaL = []
    rw [area_value]
    cases hs : setR ls 2 f areaL with
    | none => simp
    | some v => have := area_set hr hs; simp [this]
  have k3 : docK ls (namesA 2 ls) (namesA 1 ls) (2 + 1) = unsetC 3 (namesA 2 ls) (valuesC ls (namesA 2 ls) addressL) := by
    unfold docK
    rw [zA_none _ _ _ (by decide), zB_none _ _ (by decide), docA_none _ _ _ _ (by decide) (by decide), zE_none _ _ (by decide)]
    simp only [List.append_nil, List.nil_append]
    rw [docF_flat ls _ (2 + 1) (fun f => (setR ls 2 f addressL).isNone) (fun i f => by unfold zC; rw [if_neg (by decide), if_pos rfl])]
    unfold unsetC valuesC
    rw [zip_flat]
    refine flat_eq (fun f _ => one8_eq ?_ rfl)
    show _ ↔ valueR ls 2 f addressL = []
    rw [net_value]
    cases hs : setR ls 2 f addressL with
    | none => simp
    | some v =>
      have : v ≠ [] := by
        obtain ⟨a, n, e⟩ := net_set hr hs
        rintro rfl
        rw [show netL [] = none by decide] at e
        cases e
      simp [this]
  have k4 : docK ls (namesA 2 ls) (namesA 1 ls) (3 + 1) = overlapsC (namesA 2 ls) (valuesC ls (namesA 2 ls) addressL) := by
    unfold docK
    rw [zA_none _ _ _ (by decide), zB_none _ _ (by decide), docA_none _ _ _ _ (by decide) (by decide), zE_none _ _ (by decide)]
    simp only [List.append_nil, List.nil_append]
    unfold docF overlapsC
    refine flat_eq (fun i hi => ?_)
    rw [List.mem_range] at hi
    unfold overStep
    refine one8_eq ?_ rfl
    unfold zC
    rw [if_neg (by decide), if_neg (by decide), if_pos rfl, over_same ls _ i hi]
  have k5 : docK ls (namesA 2 ls) (namesA 1 ls) (4 + 1) = badC (namesA 2 ls) (valuesC ls (namesA 2 ls) deadW) (valuesC ls (namesA 2 ls) helloW) := by
    unfold docK
    rw [zA_none _ _ _ (by decide), zB_none _ _ (by decide), docA_none _ _ _ _ (by decide) (by decide), zE_none _ _ (by decide)]
    simp only [List.append_nil, List.nil_append]
    rw [docF_flat ls _ (4 + 1) (fun f => decide (decV (valueR ls 2 f deadW) ≤ decV (valueR ls 2 f helloW))) (fun i f => by unfold zC; rw [if_neg (by decide), if_neg (by decide), if_neg (by decide), if_pos rfl])]
    unfold badC valuesC
    rw [zip_flat2]
    exact flat_eq (fun f _ => one8_eq decide_eq_true_iff rfl)
  have k6 : docK ls (namesA 2 ls) (namesA 1 ls) (5 + 1) = backC ls (valuesC ls (namesA 2 ls) areaL) := by
    unfold docK
    rw [zA_none _ _ _ (by decide), docF_none _ _ _ _ (by decide), zE_none _ _ (by decide)]
    simp only [List.append_nil, List.nil_append]
    rw [show 5 + 1 = 6 from rfl, back_same hr, zB_part hr]
    unfold backC one8
    rfl
  have k7 : docK ls (namesA 2 ls) (namesA 1 ls) (6 + 1) = unusedC ls (valuesC ls (namesA 2 ls) areaL) := by
    unfold docK
    rw [zA_none _ _ _ (by decide), zB_none _ _ (by decide), docF_none _ _ _ _ (by decide), zE_none _ _ (by decide)]
    simp only [List.append_nil, List.nil_append]
    exact unused_same hr _
  have k8 : docK ls (namesA 2 ls) (namesA 1 ls) (7 + 1) = tooManyC (namesA 2 ls) := by
    unfold docK
    rw [zA_none _ _ _ (by decide), zB_none _ _ (by decide), docF_none _ _ _ _ (by decide), docA_none _ _ _ _ (by decide) (by decide)]
    simp only [List.append_nil, List.nil_append]
    unfold tooManyC
    refine one8_eq ?_ rfl
    unfold zE
    simp
  rw [k1, k2, k3, k4, k5, k6, k7, k8]
  unfold checkC
  simp only [List.append_assoc]
end Go.Proofs.YtialookpnoaogaaGreat
