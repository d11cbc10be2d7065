/- Plain: Lsas that rise by their keys, and what Put, Drop and Tick make of them; a Db in memory that has these. -/
import Derived.Test.YtdaongflpllfhaaLS13
import Derived.Test.YtdaongflpllfhaaLS12
set_option linter.unusedVariables false
set_option linter.unusedSimpArgs false
set_option linter.unusedVariables false
set_option linter.unusedSimpArgs false
namespace Go.Proofs.Ytdaongflpllfhaa
open Go.RowKit

def kOf (d : LsaD) : K3 := (d.type, d.id, d.adv)
instance decLtK (x y : K3) : Decidable (ltK x y) := by unfold ltK; infer_instance
theorem ltK_irr (x : K3) : ¬ ltK x x := by unfold ltK; omega
theorem ltK_tr {x y z : K3} (h : ltK x y) (h2 : ltK y z) : ltK x z := by unfold ltK at *; omega
theorem ltK_as {x y : K3} (h : ltK x y) : ¬ ltK y x := fun h2 => ltK_irr _ (ltK_tr h h2)
def Rises (L : List LsaD) : Prop := L.Pairwise (fun x y => ltK (kOf x) (kOf y))
def mapL (L : List LsaD) : LMap := fun t i a => L.find? (fun d => decide (kOf d = (t, i, a)))
def putR (x : LsaD) : List LsaD → List LsaD
  | [] => [x]
  | d :: L => if kOf d = kOf x then x :: L else if ltK (kOf x) (kOf d) then x :: d :: L else d :: putR x L
def dropR (k : K3) (L : List LsaD) : List LsaD := L.filter (fun d => decide (kOf d ≠ k))
theorem kOf_eq (d : LsaD) (t : Int) (i a : Nat) : kOf d = (t, i, a) ↔ d.type = t ∧ d.id = i ∧ d.adv = a := by unfold kOf; simp
theorem mapL_nil (t : Int) (i a : Nat) : mapL [] t i a = none := rfl
theorem mapL_cons (d : LsaD) (L : List LsaD) (t : Int) (i a : Nat) : mapL (d :: L) t i a = if kOf d = (t, i, a) then some d else mapL L t i a := by
  unfold mapL
  by_cases h : kOf d = (t, i, a)
  · rw [List.find?_cons_of_pos (by simpa using h), if_pos h]
  · rw [List.find?_cons_of_neg (by simpa using h), if_neg h]
theorem mapL_put (x : LsaD) (L : List LsaD) : mapL (putR x L) = updM (mapL L) x.type x.id x.adv (some x) := by
  funext t i a
  have e1 : (t = x.type ∧ i = x.id ∧ a = x.adv) ↔ kOf x = (t, i, a) := by rw [kOf_eq]; constructor <;> rintro ⟨rfl, rfl, rfl⟩ <;> exact ⟨rfl, rfl, rfl⟩
  unfold updM
  simp only [e1]
  induction L with
  | nil => show mapL [x] t i a = _; rw [mapL_cons]
  | cons d L ih =>
    unfold putR
    by_cases h1 : kOf d = kOf x
    · rw [if_pos h1, mapL_cons, mapL_cons, h1]
      split <;> rfl
    · rw [if_neg h1]
      by_cases h2 : ltK (kOf x) (kOf d)
      · rw [if_pos h2, mapL_cons]
      · rw [if_neg h2, mapL_cons, ih, mapL_cons]
        by_cases h3 : kOf d = (t, i, a)
        · rw [if_pos h3, if_pos h3, if_neg (fun e => h1 (h3.trans e.symm))]
        · rw [if_neg h3, if_neg h3]
theorem mapL_drop (k : K3) (L : List LsaD) : mapL (dropR k L) = updM (mapL L) k.1 k.2.1 k.2.2 none := by
  funext t i a
  have e1 : (t = k.1 ∧ i = k.2.1 ∧ a = k.2.2) ↔ k = (t, i, a) := by
    obtain ⟨x, y, z⟩ := k
    simp only [Prod.mk.injEq]
    constructor <;> rintro ⟨rfl, rfl, rfl⟩ <;> exact ⟨rfl, rfl, rfl⟩
  unfold updM
  simp only [e1]
  induction L with
  | nil => show none = _; rw [mapL_nil]; split <;> rfl
  | cons d L ih =>
    have ih : mapL (dropR k L) t i a = if k = (t, i, a) then none else mapL L t i a := ih
    unfold dropR
    by_cases h1 : kOf d = k
    · rw [List.filter_cons_of_neg (by simpa using h1)]
      refine ih.trans ?_
      rw [mapL_cons, h1]
      split <;> rfl
    · rw [List.filter_cons_of_pos (by simpa using h1), mapL_cons]
      show (if _ then _ else mapL (dropR k L) t i a) = _
      rw [ih, mapL_cons]
      by_cases h3 : kOf d = (t, i, a)
      · rw [if_pos h3, if_pos h3, if_neg (fun e => h1 (h3.trans e.symm))]
      · rw [if_neg h3, if_neg h3]
theorem mapL_some {L : List LsaD} {t : Int} {i a : Nat} {o : LsaD} (h : mapL L t i a = some o) : o ∈ L ∧ kOf o = (t, i, a) := by
  unfold mapL at h
  exact ⟨List.mem_of_find?_eq_some h, by simpa using List.find?_some h⟩
theorem mapL_none {L : List LsaD} {t : Int} {i a : Nat} (h : mapL L t i a = none) : ∀ d ∈ L, kOf d ≠ (t, i, a) := by
  unfold mapL at h
  rw [List.find?_eq_none] at h
  intro d hd
  simpa using h d hd
theorem mapL_mem {L : List LsaD} (hr : Rises L) {d : LsaD} (hd : d ∈ L) : mapL L d.type d.id d.adv = some d := by
  induction L with
  | nil => cases hd
  | cons x L ih =>
    unfold Rises at hr
    rw [List.pairwise_cons] at hr
    rw [mapL_cons]
    rcases List.mem_cons.1 hd with rfl | h
    · exact if_pos rfl
    · have h1 := hr.1 d h
      rw [if_neg (fun e => ltK_irr (kOf d) (by rw [show kOf x = kOf d from e] at h1; exact h1))]
      exact ih hr.2 h
theorem putR_mem {x z : LsaD} {L : List LsaD} (h : z ∈ putR x L) : z = x ∨ z ∈ L := by
  induction L with
  | nil => exact .inl (by simpa [putR] using h)
  | cons d L ih =>
    unfold putR at h
    split at h
    · rcases List.mem_cons.1 h with h | h
      · exact .inl h
      · exact .inr (List.mem_cons_of_mem _ h)
    · split at h
      · rcases List.mem_cons.1 h with h | h
        · exact .inl h
        · exact .inr h
      · rcases List.mem_cons.1 h with h | h
        · exact .inr (by rw [h]; exact List.mem_cons_self)
        · rcases ih h with h | h
          · exact .inl h
          · exact .inr (List.mem_cons_of_mem _ h)
theorem rises_put {L : List LsaD} (hr : Rises L) (x : LsaD) : Rises (putR x L) := by
  induction L with
  | nil => exact List.pairwise_singleton _ _
  | cons d L ih =>
    unfold Rises at hr
    have hr0 := hr
    rw [List.pairwise_cons] at hr
    unfold putR Rises
    by_cases h1 : kOf d = kOf x
    · rw [if_pos h1, List.pairwise_cons]
      exact ⟨fun z hz => by rw [← h1]; exact hr.1 z hz, hr.2⟩
    · rw [if_neg h1]
      by_cases h2 : ltK (kOf x) (kOf d)
      · rw [if_pos h2, List.pairwise_cons]
        refine ⟨fun z hz => ?_, hr0⟩
        rcases List.mem_cons.1 hz with rfl | h
        · exact h2
        · exact ltK_tr h2 (hr.1 z h)
      · rw [if_neg h2, List.pairwise_cons]
        refine ⟨fun z hz => ?_, ih hr.2⟩
        rcases putR_mem hz with rfl | h
        · exact ltK_total h1 h2
        · exact hr.1 z h
theorem rises_drop {L : List LsaD} (hr : Rises L) (k : K3) : Rises (dropR k L) := List.Pairwise.filter _ hr
theorem putR_len {L : List LsaD} (hr : Rises L) (x : LsaD) : (putR x L).length = if (mapL L x.type x.id x.adv).isSome then L.length else L.length + 1 := by
  induction L with
  | nil => rfl
  | cons d L ih =>
    unfold Rises at hr
    rw [List.pairwise_cons] at hr
    unfold putR
    rw [mapL_cons]
    by_cases h1 : kOf d = kOf x
    · rw [if_pos h1, if_pos (show kOf d = (x.type, x.id, x.adv) from h1)]; rfl
    · rw [if_neg h1, if_neg (show ¬ kOf d = (x.type, x.id, x.adv) from h1)]
      by_cases h2 : ltK (kOf x) (kOf d)
      · rw [if_pos h2]
        have : mapL L x.type x.id x.adv = none := by
          cases hm : mapL L x.type x.id x.adv with
          | none => rfl
          | some o =>
            obtain ⟨ho, hk⟩ := mapL_some hm
            have h3 := ltK_tr h2 (hr.1 o ho)
            rw [hk] at h3
            exact (ltK_irr _ h3).elim
        rw [this]; rfl
      · rw [if_neg h2]
        have := ih hr.2
        simp only [List.length_cons, this]
        split <;> omega
theorem dropR_len {L : List LsaD} (hr : Rises L) (k : K3) : (dropR k L).length = if (mapL L k.1 k.2.1 k.2.2).isSome then L.length - 1 else L.length := by
  induction L with
  | nil => rfl
  | cons d L ih =>
    unfold Rises at hr
    rw [List.pairwise_cons] at hr
    have ih := ih hr.2
    rw [mapL_cons]
    unfold dropR at *
    by_cases h1 : kOf d = k
    · rw [List.filter_cons_of_neg (by simpa using h1), if_pos (show kOf d = (k.1, k.2.1, k.2.2) from h1)]
      have : mapL L k.1 k.2.1 k.2.2 = none := by
        cases hm : mapL L k.1 k.2.1 k.2.2 with
        | none => rfl
        | some o =>
          obtain ⟨ho, hk⟩ := mapL_some hm
          have h3 := hr.1 o ho
          rw [hk, h1] at h3
          exact (ltK_irr _ h3).elim
      rw [this] at ih
      rw [ih]; simp
    · rw [List.filter_cons_of_pos (by simpa using h1), if_neg (show ¬ kOf d = (k.1, k.2.1, k.2.2) from h1), List.length_cons, ih]
      cases hm : mapL L k.1 k.2.1 k.2.2 with
      | none => simp
      | some o =>
        obtain ⟨ho, -⟩ := mapL_some hm
        have := List.length_pos_of_mem ho
        simp; omega
theorem putR_set {L : List LsaD} (hr : Rises L) {j : Nat} {l l' : LsaD} (h : L[j]? = some l) (hk : kOf l' = kOf l) : putR l' L = L.set j l' := by
  induction L generalizing j with
  | nil => simp at h
  | cons d L ih =>
    unfold Rises at hr
    rw [List.pairwise_cons] at hr
    unfold putR
    cases j with
    | zero =>
      have h : d = l := by simpa using h
      rw [if_pos (by rw [hk, h])]; rfl
    | succ j =>
      have h : L[j]? = some l := by simpa using h
      have h3 := hr.1 l (List.mem_of_getElem? h)
      rw [if_neg (fun e => ltK_irr (kOf l) (by rw [e, hk] at h3; exact h3)), if_neg (by rw [hk]; exact ltK_as h3), ih hr.2 h]
      rfl
theorem ext_lt : ∀ {A B : List K3}, A.Pairwise ltK → B.Pairwise ltK → (∀ x, x ∈ A ↔ x ∈ B) → A = B
  | [], [], _, _, _ => rfl
  | [], b :: B, _, _, h => by have := (h b).2 List.mem_cons_self; cases this
  | a :: A, [], _, _, h => by have := (h a).1 List.mem_cons_self; cases this
  | a :: A, b :: B, hA, hB, h => by
    rw [List.pairwise_cons] at hA hB
    have e : a = b := by
      rcases List.mem_cons.1 ((h a).1 List.mem_cons_self) with e | h1
      · exact e
      · rcases List.mem_cons.1 ((h b).2 List.mem_cons_self) with e | h2
        · exact e.symm
        · exact (ltK_as (hA.1 b h2) (hB.1 a h1)).elim
    subst e
    rw [ext_lt hA.2 hB.2 (fun x => ?_)]
    constructor
    · intro hx
      rcases List.mem_cons.1 ((h x).1 (List.mem_cons_of_mem _ hx)) with e | h1
      · subst e; exact (ltK_irr _ (hA.1 _ hx)).elim
      · exact h1
    · intro hx
      rcases List.mem_cons.1 ((h x).2 (List.mem_cons_of_mem _ hx)) with e | h1
      · subst e; exact (ltK_irr _ (hB.1 _ hx)).elim
      · exact h1
theorem nodup_le : ∀ {A B : List K3}, A.Nodup → (∀ x ∈ A, x ∈ B) → A.length ≤ B.length
  | [], B, _, _ => Nat.zero_le _
  | a :: A, B, hA, h => by
    rw [List.nodup_cons] at hA
    have h1 := h a List.mem_cons_self
    have h2 := nodup_le (A := A) (B := B.erase a) hA.2 (fun x hx => by
      have hne : x ≠ a := fun e => hA.1 (e ▸ hx)
      exact (List.mem_erase_of_ne hne).2 (h x (List.mem_cons_of_mem _ hx)))
    rw [List.length_erase_of_mem h1] at h2
    have := List.length_pos_of_mem h1
    rw [List.length_cons]; omega
/-- an Lsa that could be put -/
structure GoodL (d : LsaD) : Prop where
  can : canB d = true
  fine : LsaFine d
  ty : 1 ≤ d.type ∧ d.type ≤ 3
theorem GoodL.k {d : LsaD} (h : GoodL d) : kOk d.type d.id d.adv := ⟨by have := h.ty; omega, h.fine.id, h.fine.adv⟩
theorem GoodL.age {d : LsaD} (h : GoodL d) : 0 ≤ d.age ∧ d.age ≤ 3600 := by
  have := h.can
  unfold canB withinB at this
  simp at this
  exact this.1
theorem good_of {d : LsaD} (h : canB d = true) (f : LsaFine d) : GoodL d := by
  refine ⟨h, f, ?_⟩
  unfold canB at h
  simp only [Bool.and_eq_true] at h
  have h2 := h.2.2
  unfold toldB at h2
  by_cases h1 : d.type = 1
  · omega
  · by_cases h3 : d.type = 2
    · omega
    · simp [h1, h3] at h2
      omega
/-- a Db in memory that has these -/
def DbL (w : World) (b r N : Nat) (L : List LsaD) : Prop := ∃ K, DbK w b r N L.length K (mapL L)
theorem DbL.keep {w w' : World} {b r N : Nat} {L : List LsaD} (h : DbL w b r N L) (k : Keeps (fun _ => False) w w') : DbL w' b r N L := by
  obtain ⟨K, h⟩ := h
  exact ⟨K, h.keep k⟩
theorem DbL.mono {w : World} {b r N N' : Nat} {L : List LsaD} (h : DbL w b r N L) (hN : N ≤ N') : DbL w b r N' L := by
  obtain ⟨K, h⟩ := h
  exact ⟨K, h.blk, h.map.mono hN, h.val⟩
theorem DbL.lt {w : World} {b r N : Nat} {L : List LsaD} (h : DbL w b r N L) : b < w.heap.size ∧ r < w.heap.size := by
  obtain ⟨K, h⟩ := h
  exact ⟨lt_of_block h.blk, h.map.lt⟩
theorem DbL.not_cells {w : World} {b r N : Nat} {L : List LsaD} (h : DbL w b r N L) : ∀ (i : Nat) (cur : Array Value) (t : TypeId) (x : Nat × Nat), w.heap[i]? = some (.cells cur t x) → ¬ i = r := by
  obtain ⟨K, h⟩ := h
  exact map_not_cells h.map
theorem DbL.put {w : World} {b r N : Nat} {L : List LsaD} (h : DbL w b r N L) (hr : Rises L) (hN : N < 1000000) (m : LsaM) (ho : kOk m.d.type m.d.id m.d.adv) (hm : LsaIn w m) :
    ∃ w', (Instr.mapUpdate 84 (.map (some r)) (keyA m.d.type m.d.id m.d.adv) (.agg (lsaRow m).toArray)).run Try.prog w = .ok () w' ∧ DbL w' b r (N + 1) (putR m.d L) ∧ Keeps (fun i => i = r) w w' ∧ w'.heap.size = w.heap.size := by
  obtain ⟨K, h⟩ := h
  obtain ⟨w', e1, e2, e3, e4⟩ := h.put hN m ho hm
  exact ⟨w', e1, ⟨_, by rw [putR_len hr, mapL_put]; exact e2⟩, e3, e4⟩
theorem DbL.del {w : World} {b r N : Nat} {L : List LsaD} (h : DbL w b r N L) (hr : Rises L) {t : Int} {i a : Nat} (ho : kOk t i a) (ty : TypeId) :
    ∃ w', (Builtin.delete_ #[84, 25] ty #[.map (some r), keyA t i a]).run Try.prog w = .ok (.tuple #[]) w' ∧ DbL w' b r N (dropR (t, i, a) L) ∧ Keeps (fun i => i = r) w w' ∧ w'.heap.size = w.heap.size := by
  obtain ⟨K, h⟩ := h
  obtain ⟨w', e1, e2, e3, e4⟩ := h.del ho ty
  exact ⟨w', e1, ⟨_, by rw [dropR_len hr, mapL_drop]; exact e2⟩, e3, e4⟩
theorem DbK.sorted {w : World} {b r N : Nat} {L : List LsaD} {K : KMap} (h : DbK w b r N L.length K (mapL L)) (hr : Rises L) (hg : ∀ d ∈ L, GoodL d) {S : List K3} (hS : Sorted3 K S) : S = L.map kOf := by
  refine ext_lt hS.2 (List.pairwise_map.2 hr) (fun x => ?_)
  obtain ⟨t, i, a⟩ := x
  constructor
  · intro hx
    have h1 := hS.1.2.1 _ hx
    have h2 := (hS.1.2.2 t i a h1).1 hx
    rw [(h.val t i a h1).some_iff] at h2
    obtain ⟨o, ho⟩ := Option.isSome_iff_exists.1 h2
    obtain ⟨h3, h4⟩ := mapL_some ho
    exact List.mem_map.2 ⟨o, h3, h4⟩
  · intro hx
    obtain ⟨d, hd, e⟩ := List.mem_map.1 hx
    have h1 := (hg d hd).k
    have h5 := mapL_mem hr hd
    injection e with e1 e
    injection e with e2 e3
    subst e1; subst e2; subst e3
    rw [hS.1.2.2 _ _ _ h1, (h.val _ _ _ h1).some_iff, h5]; rfl
theorem DbK.count {w : World} {b r N : Nat} {L : List LsaD} {K : KMap} (h : DbK w b r N L.length K (mapL L)) {ss : List K3} (hS : KeysOfM K ss) : ss.length ≤ L.length := by
  have := nodup_le (B := L.map kOf) hS.1 (fun x hx => by
    obtain ⟨t, i, a⟩ := x
    have h1 := hS.2.1 _ hx
    have h2 := (hS.2.2 t i a h1).1 hx
    rw [(h.val t i a h1).some_iff] at h2
    obtain ⟨o, ho⟩ := Option.isSome_iff_exists.1 h2
    obtain ⟨h3, h4⟩ := mapL_some ho
    exact List.mem_map.2 ⟨o, h3, h4⟩)
  simpa using this
end Go.Proofs.Ytdaongflpllfhaa
/- lsdb: New, isNewer, Find, Drop of a Db of whatever Lsas (gen_lkq.py writes this). -/
set_option linter.unusedVariables false
set_option linter.unusedSimpArgs false
namespace Go.Proofs.Ytdaongflpllfhaa
open Go.RowKit

theorem ldNew_g (w : World) : Calls Try.prog 16 #[] w fun e w' => ∃ b r, e = .returned (.pointer (some ⟨b, 0, none⟩)) ∧ DbL w' b r 0 [] ∧ w.heap.size ≤ b ∧ w.heap.size ≤ r ∧ Keeps (fun _ => False) w w' := by
  have hmm := @run_makeMap Try.prog
  go_enter Try.func16, Try.ntmps16
  go_wp2_with fail
  go_ret
  refine ⟨w.heap.size + 1, w.heap.size, rfl, ⟨fun _ _ _ => none, ?_, ?_, fun t i a ho => rfl⟩, by omega, Nat.le_refl _, ((Keeps.refl _ _).alloc _).alloc _⟩
  · have := BlkAt.new (w.alloc (.map #[] 0)) 86 [.map (some w.heap.size)]
    simpa using this
  · exact (KAt.new w).keep ((Keeps.refl (fun _ => False) _).alloc _) id
/-- a whole block set anew -/
theorem blk_whole : ∀ (X A B : List Value) (w : World) (g o : Nat) (t : TypeId), o = A.length → B.length = X.length → BlkAt w g t (A ++ B) → BlkAt (w.setCells g o X) g t (A ++ X)
  | [], A, B, w, g, o, t, ho, hb, h => by
    have : B = [] := List.eq_nil_of_length_eq_zero hb
    subst this
    exact h
  | x :: X, A, [], w, g, o, t, ho, hb, h => by simp at hb
  | x :: X, A, b :: B, w, g, o, t, ho, hb, h => by
    have h1 := h.set o x
    subst ho
    rw [List.set_append_right _ _ (Nat.le_refl _), Nat.sub_self, List.set_cons_zero] at h1
    have h2 := blk_whole X (A ++ [x]) B _ g (A.length + 1) t (by simp) (by simpa using hb) (by simpa using h1)
    have e : A ++ [x] ++ X = A ++ x :: X := by simp
    rw [← e]
    exact h2
theorem blk_all {w : World} {g : Nat} {t : TypeId} {Z X : List Value} (h : BlkAt w g t Z) (hl : Z.length = X.length) : BlkAt (w.setCells g 0 X) g t X := by
  simpa using blk_whole X [] Z w g 0 t rfl hl (by simpa using h)
/-- what a map tells for a key, as an Lsa in memory -/
theorem DbK.lookM {w : World} {b r N n : Nat} {K : KMap} {M : LMap} (h : DbK w b r N n K M) {t : Int} {i a : Nat} (ho : kOk t i a) : ∃ m0 : LsaM, (K t i a).getD zeroLsa = .agg (lsaRow m0).toArray ∧ m0.d = (M t i a).getD noneL ∧ LsaIn w m0 ∧ (K t i a).isSome = (M t i a).isSome := by
  have hv := h.val t i a ho
  have hs := hv.some_iff
  cases hm : M t i a with
  | none =>
    rw [hm] at hv hs
    have hv : K t i a = none := hv
    rw [hv]
    exact ⟨⟨noneL, none, 0, none, 0⟩, rfl, rfl, ⟨RowsAt.nil _, NumsAt.nil _⟩, rfl⟩
  | some d =>
    rw [hm] at hv hs
    obtain ⟨m, h1, h2, h3⟩ := hv
    rw [h1]
    exact ⟨m, rfl, h2, h3, rfl⟩
theorem val_lookM {w : World} {v : Option Value} {l : Option LsaD} (hv : ValK w v l) : ∃ m0 : LsaM, v.getD zeroLsa = .agg (lsaRow m0).toArray ∧ m0.d = l.getD noneL ∧ LsaIn w m0 ∧ v.isSome = l.isSome := by
  cases l with
  | none =>
    have hv : v = none := hv
    rw [hv]
    exact ⟨⟨noneL, none, 0, none, 0⟩, rfl, rfl, ⟨RowsAt.nil _, NumsAt.nil _⟩, rfl⟩
  | some d =>
    obtain ⟨m, h1, h2, h3⟩ := hv
    rw [h1]
    exact ⟨m, rfl, h2, h3, rfl⟩
set_option maxRecDepth 100000 in
set_option maxHeartbeats 1000000 in
theorem ldIsNewer_g (A A' I V C I' V' C' : Nat) (T S Ln T' S' Ln' : Int) (m : LsaM) (hg : Hid (GoodL m.d)) (hm : Hid (hdD m.d = ⟨(A' : Int), T', I', V', S', C', Ln'⟩)) (hA : A ≤ 3600) (hA' : A' ≤ 3600) (z : Bool) (w : World) (hI : Hid (LsaIn w m)) (hz : Hid (decide (cmpH A A' S S' C C' = 1) = z)) :
    Calls Try.prog 31 #[.agg #[.int .i64 (A : Nat), .int .i64 T, .int .u32 I, .int .u32 V, .int .i64 S, .int .u16 C, .int .i64 Ln], .agg (lsaRow m).toArray] w fun e w' => e = .returned (.bool z) ∧ Keeps (fun _ => False) w w' := by
  obtain ⟨X, hX⟩ : ∃ X, lsaRow m = X := ⟨_, rfl⟩
  have hXl : Hid (X.length = 9) := Lib.hid (by rw [← hX]; rfl)
  have hX' := Lib.hid hX
  rw [hX]
  obtain ⟨W0, hW0⟩ : ∃ W0, W0 = (w.alloc (.cells #[.int .i64 (A : Nat), .int .i64 T, .int .u32 I, .int .u32 V, .int .i64 S, .int .u16 C, .int .i64 Ln] 82)).alloc (.cells X.toArray 29) := ⟨_, rfl⟩
  have hH : Hid (BlkAt W0 w.heap.size 82 [.int .i64 (A : Nat), .int .i64 T, .int .u32 I, .int .u32 V, .int .i64 S, .int .u16 C, .int .i64 Ln]) := Lib.hid (by rw [hW0]; exact (BlkAt.new w 82 [.int .i64 (A : Nat), .int .i64 T, .int .u32 I, .int .u32 V, .int .i64 S, .int .u16 C, .int .i64 Ln]).alloc _)
  have hB : Hid (BlkAt W0 (w.heap.size + 1) 29 X) := Lib.hid (by
    have := BlkAt.new (w.alloc (.cells #[.int .i64 (A : Nat), .int .i64 T, .int .u32 I, .int .u32 V, .int .i64 S, .int .u16 C, .int .i64 Ln] 82)) 29 X
    rw [hW0]; simpa using this)
  have hK : Hid (Keeps (fun _ => False) w W0) := Lib.hid (by rw [hW0]; exact ((Keeps.refl _ _).alloc _).alloc _)
  have hI0 := Lib.hid (hI.out.keepC hK.out (fun _ _ _ _ _ f => f))
  have hW0' := Lib.hid hW0
  clear hW0 hX hI
  go_enter Try.func31, Try.ntmps31
  go_upto_region 1 with fail
  rw [← hW0'.out]
  go_wp2_with ((with_reducible refine at_slot 8 ?_); refine wpList_load_mid rfl 29 (.tmp 3) rfl (w.heap.size + 1) 0 rfl _ _ hB.out.range Try.underlying29 rfl (by rw [hXl.out]; exact lsaInfo) ?_)
  rw [← hX'.out]
  refine (ldHeadOf_yes m ⟨(A' : Int), T', I', V', S', C', Ln'⟩ _ hI0 (Lib.hid hg.out.fine) (Lib.hid hg.out.can) hm).mono ?_
  rintro e w2 ⟨rfl, k2⟩
  have hH2 := Lib.hid ((hH.out.keep k2 id).alloc (.cells #[.int .i64 (A' : Nat), .int .i64 T', .int .u32 I', .int .u32 V', .int .i64 S', .int .u16 C', .int .i64 Ln'] 82))
  have hN2 : Hid (BlkAt (w2.alloc (.cells #[.int .i64 (A' : Nat), .int .i64 T', .int .u32 I', .int .u32 V', .int .i64 S', .int .u16 C', .int .i64 Ln'] 82)) w2.heap.size 82 [.int .i64 (A' : Nat), .int .i64 T', .int .u32 I', .int .u32 V', .int .i64 S', .int .u16 C', .int .i64 Ln']) := Lib.hid (BlkAt.new w2 82 [.int .i64 (A' : Nat), .int .i64 T', .int .u32 I', .int .u32 V', .int .i64 S', .int .u16 C', .int .i64 Ln'])
  have hK2 := Lib.hid ((hK.out.trans k2).alloc (.cells #[.int .i64 (A' : Nat), .int .i64 T', .int .u32 I', .int .u32 V', .int .i64 S', .int .u16 C', .int .i64 Ln'] 82))
  clear k2 hH hB hK
  simp only
  go_wp2_with (first | ((with_reducible refine at_store 5 ?_); refine wpList_store_new rfl 82 (.tmp 5) (.tmp 10) rfl _ _ rfl rfl headInfo rfl (head_one _ _ _ _ _ _ _) ?_) | ((with_reducible refine at_slot 12 ?_); refine wpList_load_mid rfl 82 (.tmp 2) rfl w.heap.size 0 rfl _ _ hH2.out.range Try.underlying82 rfl headInfo ?_) | ((with_reducible refine at_slot 13 ?_); refine wpList_load_mid rfl 82 (.tmp 5) rfl w2.heap.size 0 rfl _ _ hN2.out.range Try.underlying82 rfl headInfo ?_))
  refine (lsCompare_any A A' C C' I I' V V' T T' S S' Ln Ln' (cmpH A A' S S' C C') hA hA' _ (Lib.hid rfl)).mono ?_
  rintro e w3 ⟨rfl, k3⟩
  have hK3 := Lib.hid (hK2.out.trans k3)
  clear k3 hK2
  go_wp2_with fail
  go_ret
  exact ⟨by rw [← hz.out]; rfl, hK3.out⟩
set_option maxRecDepth 100000 in
set_option maxHeartbeats 2000000 in
theorem ldFind_g (b r N : Nat) (L : List LsaD) (hg : Hid (∀ d ∈ L, GoodL d)) (t : Int) (i a : Nat) (ho : kOk t i a) (w : World) (h : Hid (DbL w b r N L)) :
    Calls Try.prog 8 #[.pointer (some ⟨b, 0, none⟩), .agg #[.int .i64 t, .int .u32 i, .int .u32 a]] w fun e w' => (∃ m : LsaM, e = .returned (.tuple #[.agg (lsaRow m).toArray, .bool (mapL L t i a).isSome]) ∧ m.d = (mapL L t i a).getD noneL ∧ LsaIn w' m) ∧ Keeps (fun _ => False) w w' := by
  obtain ⟨K, hDK⟩ := h.out
  obtain ⟨m0, hm1, hm2, hm3, hm4⟩ := hDK.lookM ho
  obtain ⟨z, hz⟩ : ∃ z, (mapL L t i a).isSome = z := ⟨_, rfl⟩
  rw [hz]
  have hlen : m0.d.links.length ≤ 1000000 ∧ m0.d.routers.length ≤ 1000000 := by
    cases hq : mapL L t i a with
    | none => rw [hq] at hm2; rw [hm2]; exact ⟨by decide, by decide⟩
    | some o =>
      rw [hq] at hm2
      have h1 := canB_lens (hg.out o (mapL_some hq).1).can
      rw [show m0.d = o from hm2]
      omega
  obtain ⟨X, hX⟩ : ∃ X, lsaRow m0 = X := ⟨_, rfl⟩
  have hXl : Hid (X.length = 9) := Lib.hid (by rw [← hX]; rfl)
  have hX1 : Hid (X.toArray.all (·.oneCell') = true) := Lib.hid (by rw [← hX]; exact lsaRow_oneK m0)
  have hX' := Lib.hid hX
  have hlook : Hid (∀ W, Keeps (fun _ => False) w W → (Instr.lookup 84 (.map (some r)) (keyA t i a) true).run Try.prog W = .ok (.tuple #[.agg X.toArray, .bool z]) W) := Lib.hid (fun W k => by
    rw [(hDK.keep k).map.look ho, hm4, hz, hm1, hX])
  have hm2' := Lib.hid hm2
  have hz' := Lib.hid hz
  obtain ⟨W0, hW0⟩ : ∃ W0, W0 = (w.alloc (.cells #[.int .i64 t, .int .u32 i, .int .u32 a] 25)).alloc (.cells #[.int .i64 0, .int .i64 0, .int .u32 0, .int .u32 0, .int .i64 0, .slice none 0 0, .int .u32 0, .slice none 0 0, .int .i64 0] 29) := ⟨_, rfl⟩
  have hB : Hid (BlkAt W0 w.heap.size 25 [.int .i64 t, .int .u32 i, .int .u32 a]) := Lib.hid (by rw [hW0]; exact (BlkAt.new w 25 [.int .i64 t, .int .u32 i, .int .u32 a]).alloc _)
  have hR : Hid (BlkAt W0 (w.heap.size + 1) 29 [.int .i64 0, .int .i64 0, .int .u32 0, .int .u32 0, .int .i64 0, .slice none 0 0, .int .u32 0, .slice none 0 0, .int .i64 0]) := Lib.hid (by
    have := BlkAt.new (w.alloc (.cells #[.int .i64 t, .int .u32 i, .int .u32 a] 25)) 29 [.int .i64 0, .int .i64 0, .int .u32 0, .int .u32 0, .int .i64 0, .slice none 0 0, .int .u32 0, .slice none 0 0, .int .i64 0]
    rw [hW0]; simpa using this)
  have hK : Hid (Keeps (fun _ => False) w W0) := Lib.hid (by rw [hW0]; exact ((Keeps.refl _ _).alloc _).alloc _)
  have hI0 := Lib.hid hm3
  have hD := Lib.hid ((hDK.keep hK.out).blk)
  have hW0' := Lib.hid hW0
  clear hW0 h hDK hm1 hm2 hm3 hm4 hX hz hg
  go_enter Try.func8, Try.ntmps8
  go_upto_region 3 with fail
  rw [← hW0'.out]
  clear hW0'
  refine wp_region_noPanic ?_
  refine wp_region_held_drew (S := (fun W => Keeps (fun _ => False) W0 W)) (by kernel_rfl) (((Keeps.refl (fun _ => False) _).drew)) (fun hHeld => ?_)
  refine tk 0 rfl ?_
  refine tk 1 rfl ?_
  refine tk 2 rfl ?_
  refine tkL 3 rfl (yieldsIf_load_cell (by rfl) 84 (.tmp 14) rfl b 0 rfl _ (fun _ s => (hD.out.keep s id).cell 0 (.map (some r)) rfl) (fun w s => load_ldmap w _ _ _ s)) ?_
  refine tkL 4 rfl (yieldsIf_load_mid (by rfl) 25 (.tmp 3) rfl w.heap.size 0 rfl [.int .i64 t, .int .u32 i, .int .u32 a] _ (fun _ s => (hB.out.keep s id).range) Try.underlying25 rfl keyInfo) ?_
  refine tkL 5 rfl (yieldsIf_lookup (by rfl) 84 (.tmp 15) (.tmp 16) rfl _ _ (.tuple #[.agg X.toArray, .bool z]) rfl rfl (fun _ s => hlook.out _ (hK.out.trans s))) ?_
  refine tk 6 rfl ?_
  refine tk 7 rfl ?_
  refine tk 8 rfl ?_
  refine stepL 9 rfl (by kernel_rfl) (fun K hK => ?_)
  go_simp
  refine hK.out _ _ ((hHeld.alloc _)) (fun hHeld => ?_)
  clear hK K
  try simp only [Act.put, sA, sZ, sS]
  refine stepL 10 rfl (by kernel_rfl) (fun K hK => ?_)
  rw [if_pos (by rfl)]
  (refine wp_store_mid 29 (.tmp 6) (.tmp 18) rfl W0.heap.size 0 X.toArray rfl rfl (by have e : X.toArray.size = 9 := hXl.out; rw [e]; exact BlkAt.there (BlkAt.new W0.drew 29 [.int .i64 0, .int .i64 0, .int .u32 0, .int .u32 0, .int .i64 0, .slice none 0 0, .int .u32 0, .slice none 0 0, .int .i64 0]) 0 9 (Nat.le_refl 9)) (by have e : X.toArray.size = 9 := hXl.out; rw [e]; exact lsaInfo) hX1.out ?_)
  refine hK.out _ _ ((hHeld.trans' (Keeps.setCells (F := fun k => k = W0.heap.size) (.inl rfl) _ _ _ (Keeps.refl _ _)) (fun i e => .inr (by rw [e]; exact Nat.le_refl _)))) (fun hHeld => ?_)
  clear hK K
  try simp only [Act.put, sA, sZ, sS]
  refine tk 11 rfl ?_
  refine wpAnyH_done (by kernel_rfl) (NoPanic.normal ?_) _
  have hO4 : Hid (BlkAt ((W0.drew.alloc (.cells #[.int .i64 0, .int .i64 0, .int .u32 0, .int .u32 0, .int .i64 0, .slice none 0 0, .int .u32 0, .slice none 0 0, .int .i64 0] 29)).setCells W0.heap.size 0 X) W0.heap.size 29 X) := Lib.hid (blk_all (BlkAt.new W0.drew 29 [.int .i64 0, .int .i64 0, .int .u32 0, .int .u32 0, .int .i64 0, .slice none 0 0, .int .u32 0, .slice none 0 0, .int .i64 0]) (by rw [hXl.out]; rfl))
  have hR4 := Lib.hid (hR.out.keep hHeld id)
  have hK4 := Lib.hid (hK.out.trans hHeld)
  have hI4 := Lib.hid (hI0.out.keepC hK4.out (fun _ _ _ _ _ f => f))
  clear hHeld hR hK hD hB
  go_wp2_with ((with_reducible refine at_slot 20 ?_); refine wpList_load_mid rfl 29 (.tmp 6) rfl W0.heap.size 0 rfl X _ hO4.out.range Try.underlying29 rfl (by rw [hXl.out]; exact lsaInfo) ?_)
  rw [← hX'.out]
  refine (ldClone_any m0 _ (Lib.hid (by rw [hX'.out]; exact hI4.out.1)) (Lib.hid (by rw [hX'.out]; exact hI4.out.2)) hlen.1 hlen.2).mono ?_
  rintro e w5 ⟨⟨⟨age, type, id, adv, seq, links, mask, routers, cost⟩, q5, d5, q7, d7⟩, rfl, hd, hI5, hN5, k5⟩
  rw [hX'.out] at k5
  have hR5 := Lib.hid (hR4.out.keep k5 (fun f => f))
  have hK5 := Lib.hid (hK4.out.trans k5)
  have hd' := Lib.hid hd
  have hI5' := Lib.hid hI5
  have hap : Hid ((∀ i, (Value.slice q5 links.length d5).ownBlock = some i → i ≠ w.heap.size + 1) ∧ (∀ i, (Value.slice q7 routers.length d7).ownBlock = some i → i ≠ w.heap.size + 1)) := Lib.hid ⟨fun i e f => by have h1 := hN5.1 i e; have h3 := lt_of_block hR4.out; rw [hX'.out] at h1; omega, fun i e f => by have h1 := hN5.2 i e; have h3 := lt_of_block hR4.out; rw [hX'.out] at h1; omega⟩
  clear k5 hR4 hK4 hO4 hd hI5 hN5
  have e0 : (lsaRow ⟨⟨age, type, id, adv, seq, links, mask, routers, cost⟩, q5, d5, q7, d7⟩).toArray = #[.int .i64 age, .int .i64 type, .int .u32 id, .int .u32 adv, .int .i64 seq, .slice q5 links.length d5, .int .u32 mask, .slice q7 routers.length d7, .int .i64 cost] := rfl
  rw [e0]
  go_wp2_with ((with_reducible refine at_store 4 ?_); refine wpList_store_blk rfl 29 (.tmp 4) (.tmp 21) rfl (w.heap.size + 1) #[.int .i64 age, .int .i64 type, .int .u32 id, .int .u32 adv, .int .i64 seq, .slice q5 links.length d5, .int .u32 mask, .slice q7 routers.length d7, .int .i64 cost] rfl rfl (BlkAt.there hR5.out 0 9 (Nat.le_refl 9)) lsaInfo (lsa_one _ _ _ _ _ _ _ _ _ (slice_one _ _ _) (slice_one _ _ _)) ?_; intro w9 hr9 hs9)
  have c0 := rangeAt_cell hr9.out 0 (.int .i64 age) rfl
  have c1 := rangeAt_cell hr9.out 1 (.int .i64 type) rfl
  have c2 := rangeAt_cell hr9.out 2 (.int .u32 id) rfl
  have c3 := rangeAt_cell hr9.out 3 (.int .u32 adv) rfl
  have c4 := rangeAt_cell hr9.out 4 (.int .i64 seq) rfl
  have c5 := rangeAt_cell hr9.out 5 (.slice q5 links.length d5) rfl
  have c6 := rangeAt_cell hr9.out 6 (.int .u32 mask) rfl
  have c7 := rangeAt_cell hr9.out 7 (.slice q7 routers.length d7) rfl
  have c8 := rangeAt_cell hr9.out 8 (.int .i64 cost) rfl
  refine bodyPost_ret (v := .tuple #[.agg #[.int .i64 age, .int .i64 type, .int .u32 id, .int .u32 adv, .int .i64 seq, .slice q5 links.length d5, .int .u32 mask, .slice q7 routers.length d7, .int .i64 cost], .bool z]) (by simp [results, Try.results8, go_sem, c0, c1, c2, c3, c4, c5, c6, c7, c8]) rfl ⟨⟨⟨⟨age, type, id, adv, seq, links, mask, routers, cost⟩, q5, d5, q7, d7⟩, rfl, hd'.out.trans hm2'.out, ?_⟩, ?_⟩
  · exact ⟨hI5'.out.1.keepF hs9.out (fun _ i e f => hap.out.1 i e f), hI5'.out.2.keepF hs9.out (fun _ i e f => hap.out.2 i e f)⟩
  · exact hK5.out.trans' hs9.out (fun i e => .inr (by rw [e]; omega))
theorem wp_delete_run {P : Program} {w : World} {o : Oper} {a : Act} {K : Act → World → Prop} {Q : Exit → Act → World → Prop} (m k : Operand) (t1 t2 : TypeId) (ho : o.op = .call { callee := .builtin .delete, args := #[m, k], argTypes := #[t1, t2] }) (mv kv : Value) (hm : a.eval m = mv) (hk : a.eval k = kv)
    (v : Value) (w' : World) (hr : (Builtin.delete_ #[t1, t2] o.type #[mv, kv]).run P w = .ok v w') (h : K (a.put o.dst v) w') : Oper.wp P o a w K Q := by
  unfold Oper.wp execOp
  simp only [ho, resolve, invoke, builtin, Sem.run_bind, Sem.run_pure, Result.andThen_ok, List.map_toArray, List.map_cons, List.map_nil, hm, hk, hr]
  exact h
set_option maxRecDepth 100000 in
set_option maxHeartbeats 2000000 in
theorem ldDrop_g (b r N : Nat) (L : List LsaD) (hr : Hid (Rises L)) (t : Int) (i a : Nat) (ho : kOk t i a) (w : World) (h : Hid (DbL w b r N L)) :
    Calls Try.prog 11 #[.pointer (some ⟨b, 0, none⟩), .agg #[.int .i64 t, .int .u32 i, .int .u32 a]] w fun e w' => e = .returned (.bool (mapL L t i a).isSome) ∧ DbL w' b r N (dropR (t, i, a) L) ∧ Keeps (fun k => k = r) w w' := by
  obtain ⟨K, hDK⟩ := h.out
  obtain ⟨z, hz⟩ : ∃ z, (mapL L t i a).isSome = z := ⟨_, rfl⟩
  rw [hz]
  have hv := hDK.val t i a ho
  have hsi : (K t i a).isSome = z := by rw [hv.some_iff, hz]
  obtain ⟨X, hcs, hcl, hc1⟩ := val_cells hv
  have hlook : Hid (∀ W, Keeps (fun _ => False) w W → (Instr.lookup 84 (.map (some r)) (keyA t i a) true).run Try.prog W = .ok (.tuple #[.agg X.toArray, .bool z]) W) := Lib.hid (fun W k => by
    rw [← hsi, ← hcs]; exact (hDK.keep k).map.look ho)
  have hXl := Lib.hid hcl
  have hX1 := Lib.hid hc1
  have ho' := Lib.hid ho
  have hD := Lib.hid hDK.blk
  have hlt := Lib.hid h.out.lt
  clear hv hsi hcs hc1 hz hcl ho hDK
  have hB := Lib.hid (BlkAt.new w 25 [.int .i64 t, .int .u32 i, .int .u32 a])
  have hK := Lib.hid ((Keeps.refl (fun _ => False) w).alloc (.cells #[.int .i64 t, .int .u32 i, .int .u32 a] 25))
  obtain ⟨W0, hW0⟩ : ∃ W0, W0 = w.alloc (.cells #[.int .i64 t, .int .u32 i, .int .u32 a] 25) := ⟨_, rfl⟩
  have hB : Hid (BlkAt W0 w.heap.size 25 [.int .i64 t, .int .u32 i, .int .u32 a]) := Lib.hid (by rw [hW0]; exact BlkAt.new w 25 [.int .i64 t, .int .u32 i, .int .u32 a])
  have hK : Hid (Keeps (fun _ => False) w W0) := Lib.hid (by rw [hW0]; exact (Keeps.refl _ _).alloc _)
  have hW0' := Lib.hid hW0
  have hr' := hr
  clear hW0 hr
  go_enter Try.func11, Try.ntmps11
  go_upto_region 3 with fail
  rw [← hW0'.out]
  clear hW0'
  refine wp_region_noPanic ?_
  refine wp_region_held_drew (S := (fun W => Keeps (fun _ => False) W0 W)) (by kernel_rfl) (((Keeps.refl (fun _ => False) _).drew)) (fun hHeld => ?_)
  refine tk 0 rfl ?_
  refine tk 1 rfl ?_
  refine tk 2 rfl ?_
  refine tkL 3 rfl (yieldsIf_load_cell (by rfl) 84 (.tmp 12) rfl b 0 rfl _ (fun _ s => (hD.out.keep (hK.out.trans s) id).cell 0 (.map (some r)) rfl) (fun w s => load_ldmap w _ _ _ s)) ?_
  refine tkL 4 rfl (yieldsIf_load_mid (by rfl) 25 (.tmp 3) rfl w.heap.size 0 rfl [.int .i64 t, .int .u32 i, .int .u32 a] _ (fun _ s => (hB.out.keep s id).range) Try.underlying25 rfl keyInfo) ?_
  refine tkL 5 rfl (yieldsIf_lookup (by rfl) 84 (.tmp 13) (.tmp 14) rfl _ _ (.tuple #[.agg X.toArray, .bool z]) rfl rfl (fun _ s => hlook.out _ (hK.out.trans s))) ?_
  refine tk 6 rfl ?_
  refine tk 7 rfl ?_
  refine tk 8 rfl ?_
  refine stepL 9 rfl (by kernel_rfl) (fun K hK => ?_)
  go_simp
  refine hK.out _ _ ((hHeld.alloc _)) (fun hHeld => ?_)
  clear hK K
  try simp only [Act.put, sA, sZ, sS]
  refine stepL 10 rfl (by kernel_rfl) (fun K hK => ?_)
  rw [if_pos (by rfl)]
  (refine wp_store_mid 29 (.tmp 5) (.tmp 16) rfl W0.heap.size 0 X.toArray rfl rfl (by have e : X.toArray.size = 9 := hXl.out; rw [e]; exact BlkAt.there (BlkAt.new W0.drew 29 [.int .i64 0, .int .i64 0, .int .u32 0, .int .u32 0, .int .i64 0, .slice none 0 0, .int .u32 0, .slice none 0 0, .int .i64 0]) 0 9 (Nat.le_refl 9)) (by have e : X.toArray.size = 9 := hXl.out; rw [e]; exact lsaInfo) hX1.out ?_)
  refine hK.out _ _ ((hHeld.trans' (Keeps.setCells (F := fun k => k = W0.heap.size) (.inl rfl) _ _ _ (Keeps.refl _ _)) (fun i e => .inr (by rw [e]; exact Nat.le_refl _)))) (fun hHeld => ?_)
  clear hK K
  try simp only [Act.put, sA, sZ, sS]
  refine tk 11 rfl ?_
  refine wpAnyH_done (by kernel_rfl) (NoPanic.normal ?_) _
  have hB4 := Lib.hid (hB.out.keep hHeld id)
  have hK4 := Lib.hid (hK.out.trans hHeld)
  clear hHeld hB hK hlook hX1 hXl
  simp only [List.toList_toArray] at hB4 hK4 ⊢
  generalize hgz : (W0.alloc (.cells #[.int .i64 0, .int .i64 0, .int .u32 0, .int .u32 0, .int .i64 0, .slice none 0 0, .int .u32 0, .slice none 0 0, .int .i64 0] 29)).drew.setCells W0.heap.size 0 X = W4 at hB4 hK4 ⊢
  clear hgz
  go_upto_region 4 with fail
  refine wp_region_noPanic ?_
  refine wp_region_held_drew (S := (fun W => Keeps (fun k => k = r) W4 W)) (by kernel_rfl) (((Keeps.refl (fun k => k = r) _).drew)) (fun hHeld => ?_)
  refine tk 0 rfl ?_
  refine tk 1 rfl ?_
  refine tk 2 rfl ?_
  refine tkL 3 rfl (yieldsIf_load_cell (by rfl) 84 (.tmp 20) rfl b 0 rfl _ (fun _ s => ((hD.out.keep hK4.out id).keep s (fun e => by obtain ⟨K, hh⟩ := h.out; exact hh.ne e)).cell 0 (.map (some r)) rfl) (fun w s => load_ldmap w _ _ _ s)) ?_
  refine tkL 4 rfl (yieldsIf_load_mid (by rfl) 25 (.tmp 3) rfl w.heap.size 0 rfl [.int .i64 t, .int .u32 i, .int .u32 a] _ (fun _ s => (hB4.out.keep s (fun e => by have := hlt.out.2; omega)).range) Try.underlying25 rfl keyInfo) ?_
  have hDC := (h.out.keep hK4.out).keep ((Keeps.refl (fun _ => False) W4).drew)
  obtain ⟨wD, hrD, hDD, hkD, -⟩ := hDC.del hr'.out ho'.out 0
  refine stepL 5 rfl (by kernel_rfl) (fun K hK => ?_)
  rw [if_pos (by rfl)]
  (refine wp_delete_run (.tmp 21) (.tmp 22) 84 25 rfl _ _ rfl rfl _ _ hrD ?_)
  refine hK.out _ _ ((hHeld.trans hkD)) (fun hHeld => ?_)
  clear hK K
  try simp only [Act.put, sA, sZ, sS]
  refine wpAnyH_done (by kernel_rfl) (NoPanic.normal ?_) _
  have hK5 := Lib.hid ((hK4.out.mono (fun i f => f.elim)).trans hHeld)
  have hD5 := Lib.hid hDD
  clear hHeld hDD hkD hrD
  go_wp2_with fail
  go_ret
  exact ⟨rfl, hD5.out, hK5.out⟩
end Go.Proofs.Ytdaongflpllfhaa
/- Plain: how the document puts one into a list that rises by keys. -/
set_option linter.unusedVariables false
set_option linter.unusedSimpArgs false
namespace Go.Proofs.Ytdaongflpllfhaa
open Go.RowKit

def kM (m : LsaM) : K3 := kOf m.d
def RisesM (ms : List LsaM) : Prop := ms.Pairwise (fun x y => ltK (kM x) (kM y))
theorem risesM {ms : List LsaM} (h : Rises (ms.map (·.d))) : RisesM ms := by
  unfold Rises at h
  rw [List.pairwise_map] at h
  exact h
def putRM (x : LsaM) : List LsaM → List LsaM
  | [] => [x]
  | m :: L => if kM m = kM x then x :: L else if ltK (kM x) (kM m) then x :: m :: L else m :: putRM x L
theorem putRM_map (x : LsaM) (ms : List LsaM) : (putRM x ms).map (·.d) = putR x.d (ms.map (·.d)) := by
  induction ms with
  | nil => rfl
  | cons m L ih =>
    unfold putRM
    rw [List.map_cons]
    unfold putR
    by_cases h1 : kM m = kM x
    · rw [if_pos h1, if_pos (show kOf m.d = kOf x.d from h1)]; rfl
    · rw [if_neg h1, if_neg (show ¬ kOf m.d = kOf x.d from h1)]
      by_cases h2 : ltK (kM x) (kM m)
      · rw [if_pos h2, if_pos (show ltK (kOf x.d) (kOf m.d) from h2)]; rfl
      · rw [if_neg h2, if_neg (show ¬ ltK (kOf x.d) (kOf m.d) from h2), List.map_cons, ih]
theorem putRM_app_l {x : LsaM} {A : List LsaM} (h : ∀ z ∈ A, ltK (kM z) (kM x)) (B : List LsaM) : putRM x (A ++ B) = A ++ putRM x B := by
  induction A with
  | nil => rfl
  | cons a A ih =>
    have h1 := h a List.mem_cons_self
    show putRM x (a :: (A ++ B)) = a :: (A ++ putRM x B)
    rw [putRM, if_neg (fun e => ltK_irr (kM x) (by rw [e] at h1; exact h1)), if_neg (ltK_as h1), ih (fun z hz => h z (List.mem_cons_of_mem _ hz))]
theorem putRM_app_r {x : LsaM} {A : List LsaM} (h : ∃ z ∈ A, ¬ ltK (kM z) (kM x)) (B : List LsaM) : putRM x (A ++ B) = putRM x A ++ B := by
  induction A with
  | nil => obtain ⟨z, hz, -⟩ := h; cases hz
  | cons a A ih =>
    show putRM x (a :: (A ++ B)) = _
    rw [putRM, putRM]
    by_cases h1 : kM a = kM x
    · rw [if_pos h1, if_pos h1]; rfl
    · rw [if_neg h1, if_neg h1]
      by_cases h2 : ltK (kM x) (kM a)
      · rw [if_pos h2, if_pos h2]; rfl
      · rw [if_neg h2, if_neg h2, ih]
        · rfl
        · obtain ⟨z, hz, hz2⟩ := h
          rcases List.mem_cons.1 hz with e | e
          · subst e; exact (hz2 (ltK_total h1 h2)).elim
          · exact ⟨z, e, hz2⟩
/-- what the document's Put has behind it -/
def PutS (x : LsaM) (ms : List LsaM) (i : Nat) (put : Bool) (out : List LsaM) : Prop :=
  put = false ∧ out = ms.take i ∧ (∀ z ∈ ms.take i, kM z ≠ kM x) ∧ ((∀ z ∈ ms, kM z ≠ kM x) → ∀ z ∈ ms.take i, ltK (kM z) (kM x)) ∨
  put = true ∧ out = putRM x (ms.take i) ∧ ∃ z ∈ ms.take i, ¬ ltK (kM z) (kM x)
theorem put_start (x : LsaM) (ms : List LsaM) : PutS x ms 0 false [] := .inl ⟨rfl, by simp, by simp, by simp⟩
theorem take_snoc {α : Type} {ms : List α} {i : Nat} {m : α} (h : ms[i]? = some m) : ms.take (i + 1) = ms.take i ++ [m] := by rw [List.take_add_one, h]; rfl
theorem rises_at {ms : List LsaM} (hr : RisesM ms) {i : Nat} {m : LsaM} (h : ms[i]? = some m) : ∀ z ∈ ms.take i, ltK (kM z) (kM m) := by
  have e : ms = ms.take i ++ m :: ms.drop (i + 1) := by
    have h2 := List.getElem?_eq_some_iff.1 h
    obtain ⟨hi, rfl⟩ := h2
    rw [← List.drop_eq_getElem_cons hi, List.take_append_drop]
  unfold RisesM at hr
  rw [e, List.pairwise_append] at hr
  exact fun z hz => hr.2.2 z hz m List.mem_cons_self
/-- one that has the key, where none was put: never where one was put -/
theorem put_same {x m : LsaM} {ms out : List LsaM} {i : Nat} {put : Bool} (hr : RisesM ms) (h : PutS x ms i put out) (hm : ms[i]? = some m) (hk : kM m = kM x) : PutS x ms (i + 1) true (out ++ [x]) := by
  have h1 := rises_at hr hm
  rw [hk] at h1
  rcases h with ⟨rfl, rfl, h2, h3⟩ | ⟨rfl, rfl, z, hz, hz2⟩
  · refine .inr ⟨rfl, ?_, m, ?_, ?_⟩
    · rw [take_snoc hm, putRM_app_l h1, putRM, if_pos hk]
    · rw [take_snoc hm]; simp
    · rw [hk]; exact ltK_irr _
  · exact (hz2 (h1 z hz)).elim
theorem put_here {x m : LsaM} {ms out : List LsaM} {i : Nat} (hr : RisesM ms) (h : PutS x ms i false out) (hm : ms[i]? = some m) (hl : ltK (kM x) (kM m)) (hno : ∀ z ∈ ms, kM z ≠ kM x) : PutS x ms (i + 1) true (out ++ [x] ++ [m]) := by
  rcases h with ⟨-, rfl, h2, h3⟩ | ⟨h, -⟩
  · refine .inr ⟨rfl, ?_, m, ?_, ltK_as hl⟩
    · rw [take_snoc hm, putRM_app_l (h3 hno), putRM, if_neg (hno m (List.mem_of_getElem? hm)), if_pos hl]; simp
    · rw [take_snoc hm]; simp
  · cases h
theorem put_below {x m : LsaM} {ms out : List LsaM} {i : Nat} (h : PutS x ms i false out) (hm : ms[i]? = some m) (hk : kM m ≠ kM x) (hl : ltK (kM x) (kM m) → ¬ ∀ z ∈ ms, kM z ≠ kM x) : PutS x ms (i + 1) false (out ++ [m]) := by
  rcases h with ⟨-, rfl, h2, h3⟩ | ⟨h, -⟩
  · refine .inl ⟨rfl, (take_snoc hm).symm, ?_, ?_⟩
    · rw [take_snoc hm]
      intro z hz
      rcases List.mem_append.1 hz with hz | hz
      · exact h2 z hz
      · rw [List.mem_singleton] at hz; subst hz; exact hk
    · rw [take_snoc hm]
      intro hno z hz
      rcases List.mem_append.1 hz with hz | hz
      · exact h3 hno z hz
      · rw [List.mem_singleton] at hz; subst hz
        exact ltK_total hk (fun hlt => hl hlt hno)
  · cases h
theorem put_after {x m : LsaM} {ms out : List LsaM} {i : Nat} (h : PutS x ms i true out) (hm : ms[i]? = some m) : PutS x ms (i + 1) true (out ++ [m]) := by
  rcases h with ⟨h, -⟩ | ⟨-, rfl, z, hz, hz2⟩
  · cases h
  · refine .inr ⟨rfl, ?_, z, ?_, hz2⟩
    · rw [take_snoc hm, putRM_app_r ⟨z, hz, hz2⟩]
    · rw [take_snoc hm]; exact List.mem_append_left _ hz
theorem put_end {x : LsaM} {ms out : List LsaM} {put : Bool} (h : PutS x ms ms.length put out) : putRM x ms = if put then out else out ++ [x] := by
  unfold PutS at h
  rw [List.take_length] at h
  rcases h with ⟨rfl, rfl, h2, h3⟩ | ⟨rfl, rfl, -⟩
  · have := putRM_app_l (h3 h2) []
    rw [List.append_nil] at this
    rw [this]; rfl
  · rfl
/-- what Put makes of these; is it taken? the error -/
def putA (L : List LsaD) (x : LsaD) : List LsaD × Bool × Int :=
  if canB x then match mapL L x.type x.id x.adv with
    | some o => if newerD x o then (putR x L, true, 0) else (L, false, 0)
    | none => if 20 ≤ L.length then (L, false, 5) else (putR x L, true, 0)
  else (L, false, 1)
structure FineL (L : List LsaD) : Prop where
  up : Rises L
  good : ∀ d ∈ L, GoodL d
  few : L.length ≤ 20
theorem FineL.put {L : List LsaD} (h : FineL L) {x : LsaD} (hx : GoodL x) (hn : mapL L x.type x.id x.adv = none → L.length < 20) : FineL (putR x L) := by
  refine ⟨rises_put h.up x, fun d hd => ?_, ?_⟩
  · rcases putR_mem hd with rfl | hd
    · exact hx
    · exact h.good d hd
  · rw [putR_len h.up]
    have := h.few
    cases hm : mapL L x.type x.id x.adv with
    | none => have := hn hm; simp; omega
    | some o => simpa using this
theorem FineL.putA {L : List LsaD} (h : FineL L) {x : LsaD} (f : LsaFine x) : FineL (putA L x).1 := by
  unfold Proofs.Ytdaongflpllfhaa.putA
  by_cases hc : canB x = true
  · rw [if_pos hc]
    cases hm : mapL L x.type x.id x.adv with
    | none =>
      simp only
      by_cases h20 : 20 ≤ L.length
      · rw [if_pos h20]; exact h
      · rw [if_neg h20]; exact h.put (good_of hc f) (fun _ => by omega)
    | some o =>
      simp only
      split
      · exact h.put (good_of hc f) (fun e => by rw [hm] at e; cases e)
      · exact h
  · rw [if_neg hc]; exact h
theorem FineL.drop {L : List LsaD} (h : FineL L) (k : K3) : FineL (dropR k L) :=
  ⟨rises_drop h.up k, fun d hd => h.good d ((List.mem_filter.1 hd).1), Nat.le_trans (List.length_filter_le _ _) h.few⟩
def tickD (d : LsaD) : LsaD := if d.age < 3600 then { d with age := d.age + 1 } else d
def endsD (d : LsaD) : Bool := decide (d.age = 3599)
def endK (L : List LsaD) : List K3 := (L.filter endsD).map kOf
theorem tickD_k (d : LsaD) : kOf (tickD d) = kOf d := by unfold tickD; split <;> rfl
theorem canB_tick {d : LsaD} (h : canB d = true) : canB (tickD d) = true := by
  unfold tickD
  split
  · rename_i ha
    have h0 : withinB d.age 0 3600 = true ∧ withinB d.seq (-2147483647) 2147483647 = true ∧ toldB d = true := by
      unfold canB at h
      simpa [Bool.and_eq_true] using h
    show (withinB (d.age + 1) 0 3600 && (withinB d.seq (-2147483647) 2147483647 && toldB d)) = true
    have h1 := h0.1
    unfold withinB at h1 ⊢
    rw [decide_eq_true_iff] at h1
    have h2 := h0.2.1
    unfold withinB at h2
    rw [decide_eq_true (show 0 ≤ d.age + 1 ∧ d.age + 1 ≤ 3600 by omega), h2, h0.2.2]; rfl
  · exact h
theorem GoodL.tick {d : LsaD} (h : GoodL d) : GoodL (tickD d) := by
  refine ⟨canB_tick h.can, ?_, ?_⟩
  · unfold tickD; split
    · exact ⟨h.fine.links, h.fine.routers, h.fine.id, h.fine.adv, h.fine.mask⟩
    · exact h.fine
  · unfold tickD; split
    · exact h.ty
    · exact h.ty
theorem FineL.tick {L : List LsaD} (h : FineL L) : FineL (L.map tickD) := by
  refine ⟨?_, fun d hd => ?_, by rw [List.length_map]; exact h.few⟩
  · unfold Rises
    rw [List.pairwise_map]
    exact h.up.imp (fun {a b} e => by rw [tickD_k, tickD_k]; exact e)
  · obtain ⟨o, ho, rfl⟩ := List.mem_map.1 hd
    exact (h.good o ho).tick
end Go.Proofs.Ytdaongflpllfhaa
