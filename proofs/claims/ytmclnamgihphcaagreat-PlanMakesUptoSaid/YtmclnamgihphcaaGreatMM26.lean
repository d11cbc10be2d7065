/- Actions in order, of the same members, are the same; Whole. -/
import Derived.Test.YtmclnamgihphcaaGreatMM25
import Derived.Maps.RangeWalk
import Derived.Sort.KeysCollected
set_option linter.unusedVariables false
set_option linter.unusedSimpArgs false
set_option linter.unusedVariables false
set_option linter.unusedSimpArgs false
namespace Go.Proofs.YtmclnamgihphcaaGreat
open Go.RowKit Go.Sort Go.Shelf

abbrev ltB (x y : ActD) : Bool := ltOf cmpA x y
theorem ltB_asymm {x y : ActD} (h : ltB x y = true) : ltB y x = false := by
  cases h2 : ltB y x with
  | false => rfl
  | true => have := swoA.trans x y x h h2; rw [swoA.irrefl] at this; cases this
theorem dd_mem {a : ActD} : ∀ (r : List ActD) (p : ActD), a ∈ p :: ddF p r ↔ a ∈ p :: r := by
  intro r
  induction r with
  | nil => intro p; simp [ddF]
  | cons b r ih =>
    intro p
    have h := ih b
    rw [List.mem_cons, List.mem_cons] at h
    unfold ddF
    by_cases hs : sameA b p = true
    · rw [if_pos hs, List.nil_append, List.mem_cons, List.mem_cons, List.mem_cons]
      have e : b = p := sameA_iff.1 hs
      subst e
      constructor
      · rintro (h1 | h1)
        · exact .inl h1
        · exact .inr (h.1 (.inr h1))
      · rintro (h1 | h1 | h1)
        · exact .inl h1
        · exact .inl h1
        · rcases h.2 (.inr h1) with h2 | h2
          · exact .inl h2
          · exact .inr h2
    · rw [if_neg hs]
      simp only [List.mem_cons, List.singleton_append]
      constructor
      · rintro (h1 | h1 | h1)
        · exact .inl h1
        · exact .inr (.inl h1)
        · exact .inr (h.1 (.inr h1))
      · rintro (h1 | h1 | h1)
        · exact .inl h1
        · exact .inr (.inl h1)
        · exact .inr (h.2 (.inr h1))
theorem mem_compact {a : ActD} (L : List ActD) : a ∈ compactL L ↔ a ∈ L := by
  cases L with
  | nil => exact Iff.rfl
  | cons p r => exact dd_mem r p
/-- strictly in order -/
abbrev StrictA (L : List ActD) : Prop := L.Pairwise (fun x y => ltB x y = true)
theorem dd_strict : ∀ (r : List ActD) (p : ActD), (p :: r).Pairwise (fun x y => ltB y x = false) → StrictA (p :: ddF p r) := by
  intro r
  induction r with
  | nil => intro p _; simp [ddF]
  | cons b r ih =>
    intro p h
    obtain ⟨h1, h2⟩ := List.pairwise_cons.1 h
    have hb := ih b h2
    unfold ddF
    by_cases hs : sameA b p = true
    · rw [if_pos hs, List.nil_append]
      have e : b = p := sameA_iff.1 hs
      subst e; exact hb
    · rw [if_neg hs, List.singleton_append]
      have hpb : ltB p b = true := by
        cases hl : ltB p b with
        | true => rfl
        | false => exact absurd (sameA_iff.2 (totA b p (h1 b (by simp)) hl)) hs
      refine List.pairwise_cons.2 ⟨fun y hy => ?_, hb⟩
      rcases List.mem_cons.1 hy with rfl | hy
      · exact hpb
      · exact swoA.trans p b y hpb ((List.pairwise_cons.1 hb).1 y hy)
theorem compact_strict (L : List ActD) : StrictA (compactL (sortA L)) := by
  have h : (sortA L).Pairwise (fun x y => ltB y x = false) := by
    have h2 := List.pairwise_mergeSort (le := fun x y => !(ltOf cmpA) y x) (fun a b c h1 h2 => by
      have h3 : ltB b a = false := by simpa using h1
      have h4 : ltB c b = false := by simpa using h2
      have := swoA.ntrans c b a h4 h3
      simpa using this) (fun a b => by
      cases h1 : ltB a b with
      | false => have h1' : ltOf cmpA a b = false := h1; simp [h1']
      | true => have h2 : ltOf cmpA b a = false := ltB_asymm h1; simp [h2]) L
    exact h2.imp (fun {a b} h => by simpa using h)
  cases hs : sortA L with
  | nil => exact List.Pairwise.nil
  | cons p r => rw [hs] at h; exact dd_strict r p h
theorem strict_same : ∀ {X Y : List ActD}, StrictA X → StrictA Y → (∀ k, k ∈ X ↔ k ∈ Y) → X = Y := by
  intro X
  induction X with
  | nil =>
    intro Y _ _ h
    cases Y with
    | nil => rfl
    | cons y Y => exact absurd ((h y).2 (by simp)) (by simp)
  | cons x X ih =>
    intro Y hX hY h
    cases Y with
    | nil => exact absurd ((h x).1 (by simp)) (by simp)
    | cons y Y =>
      obtain ⟨x1, x2⟩ := List.pairwise_cons.1 hX
      obtain ⟨y1, y2⟩ := List.pairwise_cons.1 hY
      have hxy : x = y := by
        have h1 := (h x).1 (by simp)
        have h2 := (h y).2 (by simp)
        rw [List.mem_cons] at h1 h2
        rcases h1 with h1 | h1
        · exact h1
        · rcases h2 with h2 | h2
          · exact h2.symm
          · have a := ltB_asymm (y1 x h1)
            rw [x1 y h2] at a; cases a
      subst hxy
      rw [ih x2 y2 (fun k => ?_)]
      have hk := h k
      rw [List.mem_cons, List.mem_cons] at hk
      constructor
      · intro hin
        rcases hk.1 (.inr hin) with e | e
        · have := x1 k hin
          rw [e] at this; rw [show ltB x x = false from swoA.irrefl x] at this; cases this
        · exact e
      · intro hin
        rcases hk.2 (.inr hin) with e | e
        · have := y1 k hin
          rw [e] at this; rw [show ltB x x = false from swoA.irrefl x] at this; cases this
        · exact e
theorem out_make {a b : List LineD} (hra : rightC a = true) (hrb : rightC b = true) {O : List ActD} (hO : StrictA O) (hm : ∀ x, x ∈ O ↔ outD a b (docCh a b) x) (hw : ¬ (¬ namesA 2 a = [] ∧ ∃ c ∈ docCh a b, c.line.head = 0)) : O = makeG a b := by
  unfold makeG
  have hwc : wholeC a (mergeC (a.length + b.length) a b) = false := by
    rw [Bool.eq_false_iff]
    intro h
    unfold wholeC at h
    simp only [Bool.and_eq_true, List.any_eq_true] at h
    obtain ⟨h1, c, hc, h2⟩ := h
    rw [← docCh_same (right_rises hra) (right_rises hrb)] at hc
    unfold wholeB at h2
    simp only [Bool.and_eq_true, decide_eq_true_eq] at h2
    exact hw ⟨by simpa using h1, c, hc, h2.1⟩
  rw [hwc, if_neg (by decide)]
  exact strict_same hO (compact_strict _) (fun x => by rw [hm x, out_raw hra hrb, mem_compact, (sortA_perm _).mem_iff])
theorem whole_make {a b : List LineD} (hra : rightC a = true) (hrb : rightC b = true) (hw : ¬ namesA 2 a = [] ∧ ∃ c ∈ docCh a b, c.line.head = 0) : [⟨1, []⟩] = makeG a b := by
  obtain ⟨h1, c, hc, h2⟩ := hw
  unfold makeG
  have hwc : wholeC a (mergeC (a.length + b.length) a b) = true := by
    unfold wholeC
    simp only [Bool.and_eq_true, List.any_eq_true]
    refine ⟨by simpa using h1, c, by rw [← docCh_same (right_rises hra) (right_rises hrb)]; exact hc, ?_⟩
    unfold wholeB
    simp only [Bool.and_eq_true, decide_eq_true_eq]
    refine ⟨h2, ?_⟩
    obtain ⟨l, hl, rfl, -⟩ := mem_docCh.1 hc
    rcases List.mem_append.1 hl with hl | hl
    · exact (top_leaf (right_line hra l hl) (show l.head = 0 from h2) : l.leaf = idW)
    · exact (top_leaf (right_line hrb l hl) (show l.head = 0 from h2) : l.leaf = idW)
  rw [if_pos hwc]
end Go.Proofs.YtmclnamgihphcaaGreat
/- Maps of texts to a number, and of texts to true, that the call makes: look-ups, stores, ranging. -/
set_option linter.unusedVariables false
set_option linter.unusedSimpArgs false
namespace Go.Proofs.YtmclnamgihphcaaGreat
open Go.RowKit

theorem keyedS : Maps.Keyed Tryz.prog 9 := Maps.string_keyed Tryz.underlying9
def litI (k : Int) : DataW Unit := .lit (.int .i64 k)
theorem litI_inj {a b : Int} (h : litI a = litI b) : a = b := (Lit.int.inj (DataW.lit.inj h)).2
/-- what a datum says of texts -/
def KIs (D : DataW Unit) (K : KMap) : Prop := ∀ x zd, D.atKey (.string x) zd = match K x with | some k => litI k | none => zd
def RIs (D : DataW Unit) (R : List (List UInt8)) : Prop := ∀ x, Maps.has D (.string x) = decide (x ∈ R)
theorem KIs.has {D : DataW Unit} {K : KMap} (h : KIs D K) (x : List UInt8) : Maps.has D (.string x) = (K x).isSome := by
  cases hk : K x with
  | none => exact Maps.has_false_of_atKey (fun z => by rw [h x z, hk])
  | some k => exact Maps.has_true_of_atKey (y := litI k) (fun z => by rw [h x z, hk])
theorem bool_inv {P : Program} {e : TypeId} (he : P.underlying e = some .bool) {v : Value} {y : DataW Unit × List MemPlace} (h : plainElem P e v = some y) : ∃ z, v = .bool z := by
  unfold plainElem at h
  rw [he] at h
  cases v with
  | bool z => exact ⟨z, rfl⟩
  | _ => simp at h
theorem keep_of_grown {w w' : World} {b : Nat} (h : w.grownBy w' (some b)) : Keeps (fun i => i = b) w w' := ⟨h.os, h.tape, h.output, h.size, fun k hk hn => h.block k hk (fun e => hn (by injection e))⟩
theorem keep_of_grown0 {w w' : World} (h : w.grownBy w' none) : Keeps (fun _ => False) w w' := ⟨h.os, h.tape, h.output, h.size, fun k hk _ => h.block k hk (by simp)⟩
theorem grown_of_keep {w w' : World} (h : Keeps (fun _ => False) w w') : w.grownBy w' none := ⟨h.os, h.tape, h.output, h.size, fun k hk _ => h.block k hk id⟩
theorem str_key (X : ByteArray) (h : X.size ≤ maxLen) : keyOf Tryz.prog 9 (.string X) = some (.string X.data.toList) := WideMaps.keyOf_string_mk Tryz.underlying9 h
theorem lit_str_inj {x y : List UInt8} (h : Lit.string x = Lit.string y) : x = y := by injection h

def KAt (w : World) (r N : Nat) (K : KMap) : Prop := ∃ D, w.ownsMap Tryz.prog 9 (plainElem Tryz.prog 3) r N D ∧ KIs D K
def AAt (w : World) (r N : Nat) (R : List (List UInt8)) : Prop := ∃ D, w.ownsMap Tryz.prog 9 (plainElem Tryz.prog 4) r N D ∧ RIs D R
theorem owns_keep {R : Value → Option (DataW Unit × List MemPlace)} {F : Nat → Prop} {w w' : World} {r N : Nat} {D : DataW Unit} (h : w.ownsMap Tryz.prog 9 R r N D) (k : Keeps F w w') (hF : ¬ F r) : w'.ownsMap Tryz.prog 9 R r N D := by
  have hlt := h.lt
  obtain ⟨es, clock, hb, r2⟩ := h
  exact ⟨es, clock, by rw [k.block r hlt hF]; exact hb, r2⟩
theorem KAt.keep {F : Nat → Prop} {w w' : World} {r N : Nat} {K : KMap} (h : KAt w r N K) (k : Keeps F w w') (hF : ¬ F r) : KAt w' r N K := by
  obtain ⟨D, h1, h2⟩ := h
  exact ⟨D, owns_keep h1 k hF, h2⟩
theorem AAt.keep {F : Nat → Prop} {w w' : World} {r N : Nat} {R : List (List UInt8)} (h : AAt w r N R) (k : Keeps F w w') (hF : ¬ F r) : AAt w' r N R := by
  obtain ⟨D, h1, h2⟩ := h
  exact ⟨D, owns_keep h1 k hF, h2⟩
theorem KAt.mono {w : World} {r N N' : Nat} {K : KMap} (h : KAt w r N K) (hN : N ≤ N') : KAt w r N' K := by
  obtain ⟨D, h1, h2⟩ := h
  exact ⟨D, h1.mono hN, h2⟩
theorem AAt.mono {w : World} {r N N' : Nat} {R : List (List UInt8)} (h : AAt w r N R) (hN : N ≤ N') : AAt w r N' R := by
  obtain ⟨D, h1, h2⟩ := h
  exact ⟨D, h1.mono hN, h2⟩
theorem KAt.lt {w : World} {r N : Nat} {K : KMap} (h : KAt w r N K) : r < w.heap.size := by obtain ⟨D, h1, -⟩ := h; exact h1.lt
theorem AAt.lt {w : World} {r N : Nat} {R : List (List UInt8)} (h : AAt w r N R) : r < w.heap.size := by obtain ⟨D, h1, -⟩ := h; exact h1.lt
theorem KAt.new (w : World) : KAt (w.alloc (.map #[] 0)) w.heap.size 0 (fun _ => none) := ⟨_, World.ownsMap_made w _ _ _, fun x zd => rfl⟩
theorem AAt.new (w : World) : AAt (w.alloc (.map #[] 0)) w.heap.size 0 [] := ⟨_, World.ownsMap_made w _ _ _, fun x => rfl⟩
theorem zeroI (w : World) : (zeroValue 3).run Tryz.prog w = .ok (.int .i64 0) w := by
  simp [go_sem]
theorem KAt.look {w : World} {r N : Nat} {K : KMap} (h : KAt w r N K) (X : ByteArray) (hX : X.size ≤ maxLen) : (Instr.lookup 66 (.map (some r)) (.string X) true).run Tryz.prog w = .ok (.tuple #[.int .i64 ((K X.data.toList).getD 0), .bool (K X.data.toList).isSome]) w := by
  obtain ⟨D, h1, h2⟩ := h
  obtain ⟨v, ps, e1, e2⟩ := h1.look_ok keyedS Tryz.underlying66 (z := .int .i64 0) (zeroI w) (zd := litI 0) (zp := []) (plainElem_int Tryz.underlying3 (by decide)) (str_key X hX)
  obtain ⟨c, rfl, e3, e4⟩ := plainElem_int_inv Tryz.underlying3 e2
  rw [e1, h2.has]
  rw [h2] at e3
  cases hk : K X.data.toList with
  | none =>
    rw [hk] at e3
    have e5 := litI_inj (Prod.mk.inj e3).1
    rw [← e5]; rfl
  | some k =>
    rw [hk] at e3
    have e5 := litI_inj (Prod.mk.inj e3).1
    rw [← e5]; rfl
theorem KAt.put {w : World} {r N : Nat} {K : KMap} (h : KAt w r N K) (hN : N < 1000000) (X : ByteArray) (hX : X.size ≤ maxLen) (k : Int) (hk : (Lit.int .i64 k).wf = true) :
    ∃ w', (Instr.mapUpdate 66 (.map (some r)) (.string X) (.int .i64 k)).run Tryz.prog w = .ok () w' ∧ KAt w' r (N + 1) (updK K X.data.toList k) ∧ Keeps (fun i => i = r) w w' := by
  obtain ⟨D, h1, h2⟩ := h
  obtain ⟨w', e1, e2, e3⟩ := h1.update keyedS Tryz.underlying66 (by unfold maxLen; omega) (str_key X hX) (plainElem_int Tryz.underlying3 hk)
  refine ⟨w', e1, ⟨_, e2, fun x zd => ?_⟩, keep_of_grown e3⟩
  unfold updK
  by_cases hx : x = X.data.toList
  · subst hx
    rw [if_pos rfl, Maps.atKey_put_same h1.isMap (show WideAt.IsKeyLit (.string _) from trivial)]; rfl
  · rw [if_neg hx, Maps.atKey_put_other (fun e => hx (lit_str_inj e)), h2 x zd]
theorem AAt.put {w : World} {r N : Nat} {R : List (List UInt8)} (h : AAt w r N R) (hN : N < 1000000) (X : ByteArray) (hX : X.size ≤ maxLen) :
    ∃ w', (Instr.mapUpdate 67 (.map (some r)) (.string X) (.bool true)).run Tryz.prog w = .ok () w' ∧ AAt w' r (N + 1) (R ++ [X.data.toList]) ∧ Keeps (fun i => i = r) w w' := by
  obtain ⟨D, h1, h2⟩ := h
  obtain ⟨w', e1, e2, e3⟩ := h1.update keyedS Tryz.underlying67 (by unfold maxLen; omega) (str_key X hX) (plainElem_bool Tryz.underlying4 true)
  refine ⟨w', e1, ⟨_, e2, fun x => ?_⟩, keep_of_grown e3⟩
  by_cases hx : x = X.data.toList
  · subst hx
    rw [Maps.has_put_same h1.isMap (show WideAt.IsKeyLit (.string _) from trivial)]; simp
  · rw [Maps.has_put_other (fun e => hx (lit_str_inj e)), h2 x]; simp [hx]
/-- a loop over a map under way -/
def KRng (w : World) (b r N : Nat) (K : KMap) (L : List UInt8 → Bool) (cnt : Nat) : Prop := ∃ D left, w.ranges Tryz.prog 9 (plainElem Tryz.prog 3) b r N D left cnt ∧ KIs D K ∧ ∀ x, left (.string x) = L x
def ARng (w : World) (b r N : Nat) (R : List (List UInt8)) (L : List UInt8 → Bool) (cnt : Nat) : Prop := ∃ D left, w.ranges Tryz.prog 9 (plainElem Tryz.prog 4) b r N D left cnt ∧ RIs D R ∧ ∀ x, left (.string x) = L x
theorem ranges_keep {R : Value → Option (DataW Unit × List MemPlace)} {F : Nat → Prop} {w w' : World} {b r N cnt : Nat} {D : DataW Unit} {left : Lit → Bool} (h : w.ranges Tryz.prog 9 R b r N D left cnt) (k : Keeps F w w') (hb : ¬ F b) (hr : ¬ F r) : w'.ranges Tryz.prog 9 R b r N D left cnt := by
  have h1 := h.owns.lt
  have h2 := h.lt
  obtain ⟨es, clock, since, seen, c0, e1, f1, f2, f3, e2, rest⟩ := h
  exact ⟨es, clock, since, seen, c0, (k.block b h1 hb).trans e1, f1, f2, f3, (k.block r h2 hr).trans e2, rest⟩
theorem KRng.keep {F : Nat → Prop} {w w' : World} {b r N cnt : Nat} {K : KMap} {L : List UInt8 → Bool} (h : KRng w b r N K L cnt) (k : Keeps F w w') (hb : ¬ F b) (hr : ¬ F r) : KRng w' b r N K L cnt := by
  obtain ⟨D, left, h1, h2, h3⟩ := h
  exact ⟨D, left, ranges_keep h1 k hb hr, h2, h3⟩
theorem ARng.keep {F : Nat → Prop} {w w' : World} {b r N cnt : Nat} {R : List (List UInt8)} {L : List UInt8 → Bool} (h : ARng w b r N R L cnt) (k : Keeps F w w') (hb : ¬ F b) (hr : ¬ F r) : ARng w' b r N R L cnt := by
  obtain ⟨D, left, h1, h2, h3⟩ := h
  exact ⟨D, left, ranges_keep h1 k hb hr, h2, h3⟩
theorem KRng.at {w : World} {b r N cnt : Nat} {K : KMap} {L : List UInt8 → Bool} (h : KRng w b r N K L cnt) : KAt w b N K := by
  obtain ⟨D, left, h1, h2, h3⟩ := h
  exact ⟨D, h1.owns, h2⟩
theorem ARng.at {w : World} {b r N cnt : Nat} {R : List (List UInt8)} {L : List UInt8 → Bool} (h : ARng w b r N R L cnt) : AAt w b N R := by
  obtain ⟨D, left, h1, h2, h3⟩ := h
  exact ⟨D, h1.owns, h2⟩
theorem KRng.left_eq {w : World} {b r N cnt : Nat} {K : KMap} {L : List UInt8 → Bool} (h : KRng w b r N K L cnt) : w.rangeLeft b r = cnt := by obtain ⟨D, left, h1, -⟩ := h; exact h1.left_eq
theorem ARng.left_eq {w : World} {b r N cnt : Nat} {R : List (List UInt8)} {L : List UInt8 → Bool} (h : ARng w b r N R L cnt) : w.rangeLeft b r = cnt := by obtain ⟨D, left, h1, -⟩ := h; exact h1.left_eq
theorem KAt.range {w : World} {b N : Nat} {K : KMap} (h : KAt w b N K) : ∃ w' cnt, (Instr.range 66 (.map (some b))).run Tryz.prog w = .ok (.pointer (some ⟨w.heap.size, 0, none⟩)) w' ∧ KRng w' b w.heap.size N K (fun x => (K x).isSome) cnt ∧ cnt ≤ N ∧ Keeps (fun _ => False) w w' ∧ w'.heap.size = w.heap.size + 1 := by
  obtain ⟨D, h1, h2⟩ := h
  obtain ⟨w', e1, e2, e3, e4⟩ := h1.range keyedS Tryz.underlying66
  exact ⟨w', _, e1, ⟨D, _, e2, h2, fun x => h2.has x⟩, h1.size_le, keep_of_grown0 e3, e4⟩
theorem AAt.range {w : World} {b N : Nat} {R : List (List UInt8)} (h : AAt w b N R) : ∃ w' cnt, (Instr.range 67 (.map (some b))).run Tryz.prog w = .ok (.pointer (some ⟨w.heap.size, 0, none⟩)) w' ∧ ARng w' b w.heap.size N R (fun x => decide (x ∈ R)) cnt ∧ cnt ≤ N ∧ Keeps (fun _ => False) w w' ∧ w'.heap.size = w.heap.size + 1 := by
  obtain ⟨D, h1, h2⟩ := h
  obtain ⟨w', e1, e2, e3, e4⟩ := h1.range keyedS Tryz.underlying67
  exact ⟨w', _, e1, ⟨D, _, e2, h2, fun x => h2 x⟩, h1.size_le, keep_of_grown0 e3, e4⟩
theorem KRng.next {w : World} {b r N cnt : Nat} {K : KMap} {L : List UInt8 → Bool} (h : KRng w b r N K L cnt) (ty : TypeId) :
    (cnt = 0 ∧ (∀ x, L x = false) ∧ (Instr.next (.pointer (some ⟨r, 0, none⟩)) false ty).run Tryz.prog w = .ok (.tuple #[.bool false]) w) ∨
    ∃ (X : ByteArray) (k : Int) (w' : World) (cnt' : Nat), X.size ≤ maxLen ∧ L X.data.toList = true ∧ K X.data.toList = some k ∧ (Instr.next (.pointer (some ⟨r, 0, none⟩)) false ty).run Tryz.prog w = .ok (.tuple #[.bool true, .string X, .int .i64 k]) w' ∧
      KRng w' b r N K (fun z => L z && !decide (z = X.data.toList)) cnt' ∧ cnt' < cnt ∧ Keeps (fun i => i = r) w w' ∧ w'.heap.size = w.heap.size ∧ (Instr.entry (.pointer (some ⟨r, 0, none⟩))).run Tryz.prog w' = .ok (.tuple #[.string X, .int .i64 k]) w' := by
  obtain ⟨D, left, h1, h2, h3⟩ := h
  rcases h1.next keyedS ty with ⟨e1, e2, e3⟩ | ⟨key, v, kl, y, w', cnt', e1, e2, e3, e4, e5, e6, e7, e8, e9, e10⟩
  · exact .inl ⟨e1, fun x => by rw [← h3 x]; exact e2 _, e3⟩
  · right
    obtain ⟨x, rfl, rfl, hx⟩ := Maps.keyOf_str Tryz.underlying9 e1
    obtain ⟨c, rfl, rfl, -⟩ := plainElem_int_inv Tryz.underlying3 e3
    refine ⟨⟨x.toArray⟩, c, w', cnt', by simpa [ByteArray.size] using hx, by rw [← h3]; simpa using e2, ?_, e5, ⟨D, _, e6, h2, fun z => ?_⟩, e7, keep_of_grown e8, e9, e10⟩
    · have h4 := e4 (litI (c + 1))
      rw [h2 x] at h4
      show K x.toArray.toList = some c
      rw [List.toList_toArray]
      cases hk : K x with
      | none =>
        rw [hk] at h4
        have h5 := litI_inj h4
        omega
      | some k =>
        rw [hk] at h4
        rw [litI_inj h4]
    · show (left (.string z) && !(Lit.string z).sameKey (.string x)) = _
      rw [h3 z, show (Lit.string z).sameKey (.string x) = (z == x) from rfl]
      show (L z && !(z == x)) = (L z && !decide (z = x.toArray.toList))
      rw [List.toList_toArray]
      by_cases hz : z = x
      · rw [decide_eq_true hz, beq_iff_eq.2 hz]
      · rw [decide_eq_false hz, beq_eq_false_iff_ne.2 hz]
theorem ARng.next {w : World} {b r N cnt : Nat} {R : List (List UInt8)} {L : List UInt8 → Bool} (h : ARng w b r N R L cnt) (ty : TypeId) :
    (cnt = 0 ∧ (∀ x, L x = false) ∧ (Instr.next (.pointer (some ⟨r, 0, none⟩)) false ty).run Tryz.prog w = .ok (.tuple #[.bool false]) w) ∨
    ∃ (X : ByteArray) (z : Bool) (w' : World) (cnt' : Nat), X.size ≤ maxLen ∧ L X.data.toList = true ∧ X.data.toList ∈ R ∧ (Instr.next (.pointer (some ⟨r, 0, none⟩)) false ty).run Tryz.prog w = .ok (.tuple #[.bool true, .string X, .bool z]) w' ∧
      ARng w' b r N R (fun z => L z && !decide (z = X.data.toList)) cnt' ∧ cnt' < cnt ∧ Keeps (fun i => i = r) w w' ∧ w'.heap.size = w.heap.size ∧ (Instr.entry (.pointer (some ⟨r, 0, none⟩))).run Tryz.prog w' = .ok (.tuple #[.string X, .bool z]) w' := by
  obtain ⟨D, left, h1, h2, h3⟩ := h
  rcases h1.next keyedS ty with ⟨e1, e2, e3⟩ | ⟨key, v, kl, y, w', cnt', e1, e2, e3, e4, e5, e6, e7, e8, e9, e10⟩
  · exact .inl ⟨e1, fun x => by rw [← h3 x]; exact e2 _, e3⟩
  · right
    obtain ⟨x, rfl, rfl, hx⟩ := Maps.keyOf_str Tryz.underlying9 e1
    have hv : ∃ z, v = .bool z := bool_inv Tryz.underlying4 e3
    obtain ⟨c, rfl⟩ := hv
    refine ⟨⟨x.toArray⟩, c, w', cnt', by simpa [ByteArray.size] using hx, by rw [← h3]; simpa using e2, ?_, e5, ⟨D, _, e6, h2, fun z => ?_⟩, e7, keep_of_grown e8, e9, e10⟩
    · have h4 : Maps.has D (.string x) = true := Maps.has_true_of_atKey e4
      rw [h2 x] at h4
      show x.toArray.toList ∈ R
      rw [List.toList_toArray]
      exact of_decide_eq_true h4
    · show (left (.string z) && !(Lit.string z).sameKey (.string x)) = _
      rw [h3 z, show (Lit.string z).sameKey (.string x) = (z == x) from rfl]
      show (L z && !(z == x)) = (L z && !decide (z = x.toArray.toList))
      rw [List.toList_toArray]
      by_cases hz : z = x
      · rw [decide_eq_true hz, beq_iff_eq.2 hz]
      · rw [decide_eq_false hz, beq_eq_false_iff_ne.2 hz]
end Go.Proofs.YtmclnamgihphcaaGreat
