/- Rows of structs in memory, of whatever kind; rows of the call's own (the first part of PA, for seats without packets). -/
import Derived.Test.YthofplmjlfhloaaMC06
import Derived.Deep.DeepCutAuto
import Derived.OwnWalk
set_option linter.unusedVariables false
set_option linter.unusedSimpArgs false
namespace Go.Proofs.Ythofplmjlfhloaa
open Go.RowKit

/-- a slice of structs of sz cells reads as these -/
def RowsAt {α : Type} (sz : Nat) (cv : α → List Value) (w : World) (v : Value) (xs : List α) : Prop :=
  ∃ p c, v = .slice p xs.length c ∧ (p = none → c = 0) ∧ xs.length ≤ c ∧ (0 < xs.length → ∃ g o, p = some ⟨g, o, none⟩ ∧ ∀ i x, xs[i]? = some x → w.rangeAt g (o + i * sz) (cv x))
section
variable {α : Type} {sz : Nat} {cv : α → List Value}
theorem RowsAt.keepF {F : Nat → Prop} {w w' : World} {v : Value} {xs : List α} (h : RowsAt sz cv w v xs) (k : Keeps F w w') (hF : 0 < xs.length → ∀ i, v.ownBlock = some i → ¬ F i) : RowsAt sz cv w' v xs := by
  obtain ⟨p, c, rfl, hp, hc, h⟩ := h
  refine ⟨p, c, rfl, hp, hc, fun h0 => ?_⟩
  obtain ⟨g, o, rfl, hr⟩ := h h0
  exact ⟨g, o, rfl, fun i x hx => k.rangeAt (hr i x hx) (hF h0 g rfl)⟩
theorem RowsAt.keep {w w' : World} {v : Value} {xs : List α} (h : RowsAt sz cv w v xs) (k : Keeps (fun _ => False) w w') : RowsAt sz cv w' v xs := h.keepF k (fun _ _ _ f => f)
theorem RowsAt.nil (w : World) : RowsAt sz cv w (.slice none 0 0) ([] : List α) := ⟨none, 0, rfl, fun _ => rfl, Nat.le_refl _, fun h => by simp at h⟩
theorem RowsAt.slice {w : World} {v : Value} {xs : List α} (h : RowsAt sz cv w v xs) : ∃ p c, v = .slice p xs.length c := by
  obtain ⟨p, c, rfl, _⟩ := h; exact ⟨p, c, rfl⟩
theorem RowsAt.open {w : World} {p : Option Addr} {n c : Nat} {xs : List α} (h : RowsAt sz cv w (.slice p n c) xs) (h0 : 0 < xs.length) : ∃ g o, p = some ⟨g, o, none⟩ ∧ ∀ i x, xs[i]? = some x → w.rangeAt g (o + i * sz) (cv x) := by
  obtain ⟨p', c', e, -, -, hr⟩ := h
  injection e with e1 e2 e3
  subst e1
  exact hr h0
theorem RowsAt.len {w : World} {p : Option Addr} {n c : Nat} {xs : List α} (h : RowsAt sz cv w (.slice p n c) xs) : n = xs.length := by
  obtain ⟨p', c', e, _⟩ := h; injection e
theorem RowsAt.lt {w : World} {v : Value} {xs : List α} (h : RowsAt sz cv w v xs) (h0 : 0 < xs.length) (hcv : ∀ x, 0 < (cv x).length) : ∀ i, v.ownBlock = some i → i < w.heap.size := fun i e => by
  obtain ⟨p, c, rfl, -, -, hr⟩ := h
  obtain ⟨g, o, rfl, hra⟩ := hr h0
  simp only [Value.ownBlock, Option.some.injEq] at e
  subst e
  have := hra 0 xs[0] (List.getElem?_eq_getElem h0) 0 _ (List.getElem?_eq_getElem (hcv _))
  have := World.block_lt_of_cell? w _ this
  exact this

def rowCells (cv : α → List Value) (xs : List α) : List Value := xs.flatMap cv
theorem rowCells_len (hcv : ∀ x, (cv x).length = sz) (xs : List α) : (rowCells cv xs).length = xs.length * sz := by
  induction xs with
  | nil => simp [rowCells]
  | cons n ns ih => unfold rowCells at *; rw [List.flatMap_cons, List.length_append, ih, List.length_cons, hcv, Nat.add_mul]; omega
theorem rowCells_snoc (xs : List α) (x : α) : rowCells cv (xs ++ [x]) = rowCells cv xs ++ cv x := by unfold rowCells; simp
theorem rowCells_get (hcv : ∀ x, (cv x).length = sz) (xs : List α) : ∀ (i : Nat) (x : α), xs[i]? = some x → ∀ j, j < sz → (rowCells cv xs)[i * sz + j]? = (cv x)[j]? := by
  induction xs with
  | nil => intro i l h; simp at h
  | cons n ns ih =>
    intro i x h j hj
    have e : rowCells cv (n :: ns) = cv n ++ rowCells cv ns := by unfold rowCells; rw [List.flatMap_cons]
    rw [e, List.getElem?_append, hcv]
    cases i with
    | zero => simp at h; subst h; rw [if_pos (by omega)]; simp
    | succ i =>
      rw [if_neg (by rw [Nat.add_mul]; omega), ← ih i x (by simpa using h) j hj]; congr 1; rw [Nat.add_mul]; omega
/-- structs of the call's own -/
def OwnR (t : TypeId) (sz : Nat) (cv : α → List Value) (w0 w : World) (v : Value) (xs : List α) : Prop :=
  w.ownsRow 0 t sz v xs.length (rowCells cv xs) ∧ (∀ k, v.ownBlock = some k → w0.heap.size ≤ k) ∧ w0.heap.size ≤ w.heap.size
theorem OwnR.nil {t : TypeId} (w0 w : World) (h : w0.heap.size ≤ w.heap.size) : OwnR t sz cv w0 w (.slice none 0 0) ([] : List α) := ⟨⟨by simp [rowCells], .inl ⟨rfl, by simp [rowCells]⟩⟩, by simp [Value.ownBlock], h⟩
theorem OwnR.slice {t : TypeId} {w0 w : World} {v : Value} {xs : List α} (h : OwnR t sz cv w0 w v xs) : ∃ p c, v = .slice p xs.length c := ownsRow_slice h.1
theorem OwnR.keep {t : TypeId} {F : Nat → Prop} {w0 w w' : World} {v : Value} {xs : List α} (h : OwnR t sz cv w0 w v xs) (k : Keeps F w w') (hF : ∀ i, v.ownBlock = some i → ¬ F i) : OwnR t sz cv w0 w' v xs :=
  ⟨k.ownsRow h.1 hF, h.2.1, Nat.le_trans h.2.2 k.size⟩
theorem OwnR.older {t : TypeId} {w0 w1 w : World} {v : Value} {xs : List α} (h : OwnR t sz cv w1 w v xs) (hs : w0.heap.size ≤ w1.heap.size) : OwnR t sz cv w0 w v xs := ⟨h.1, fun k e => Nat.le_trans hs (h.2.1 k e), Nat.le_trans hs h.2.2⟩
theorem OwnR.at {t : TypeId} {w0 w : World} {v : Value} {xs : List α} (hcv : ∀ x, (cv x).length = sz) (h : OwnR t sz cv w0 w v xs) : RowsAt sz cv w v xs := by
  obtain ⟨p, c, rfl⟩ := h.slice
  rcases h.1.2 with ⟨e, h2⟩ | ⟨g, cap, cur, he, _, _, hle, _⟩
  · injection e with e1 e2 e3; subst e1; subst e3
    exact ⟨none, 0, rfl, fun _ => rfl, by omega, fun h0 => by omega⟩
  · injection he with e1 e2 e3
    subst e1; subst e3
    refine ⟨_, _, rfl, fun h => (by cases h), hle, fun h0 => ⟨g, 0, rfl, fun i l hl j u hu => ?_⟩⟩
    have hj : j < sz := by have := (List.getElem?_eq_some_iff.1 hu).1; rw [hcv] at this; exact this
    have := h.1.cells (g := g) rfl (i * sz + j) u (by rw [rowCells_get hcv xs i l hl j hj]; exact hu)
    rw [Addr.add_mid] at this
    rw [Nat.zero_add]; rw [Nat.zero_add] at this; exact this
/-- a struct behind structs of the call's own: one operation -/
theorem wp_append_r {P : Program} {w : World} {o : Oper} {a : Act} {K : Act → World → Prop} {Q : Exit → Act → World → Prop} (s x : Operand) (t e : TypeId)
    (ho : o.op = .call { callee := .builtin .append, args := #[s, x], argTypes := #[t, t] })
    (i : TypeInfo) (z : Value) (by_ : Nat) (ht : P.underlying t = some (.slice e)) (hi : P.info? e = some i) (hz : i.zero = some z) (hsize : i.size = sz) (hby : i.bytes = by_) (hzs : z.cells.size = sz) (hsz0 : 0 < sz) (hby1 : by_ ≤ 100000)
    (hcv : ∀ x, (cv x).length = sz) (w0 : World) (v : Value) (n : Nat) (xs : List α) (hn : xs.length = n) (hs : a.eval s = v) (hown : OwnR e sz cv w0 w v xs) (ad : Addr) (hx : a.eval x = .slice (some ad) 1 1) (l : α) (hl : ∀ j u, (cv l)[j]? = some u → w.cell? (ad.add j) = some u) (h1 : ∀ u ∈ cv l, u.oneCell' = true) (hsz : n ≤ 1000000000)
    (h : ∀ p c w', OwnR e sz cv w0 w' (.slice p (n + 1) c) (xs ++ [l]) → Grown w v p (n + 1) c w' → K (a.put o.dst (.slice p (n + 1) c)) w') : Oper.wp P o a w K Q := by
  subst hn
  have hb : (xs.length + 1) * by_ ≤ 1000000001 * 100000 := Nat.mul_le_mul (by omega) hby1
  obtain ⟨v', w', hr, h2, h3, h4⟩ := run_append_sep (P := P) w t o.type e i z sz by_ ht hi hz hsize hby hzs hsz0 v xs.length (rowCells cv xs) hown.1 ad 1 1 (cv l) (by rw [hcv]; omega) hl h1 (by unfold maxLen; omega) (by omega)
  obtain ⟨p, c, rfl⟩ := ownsRow_slice h2
  unfold Oper.wp execOp
  simp only [ho, resolve, invoke, builtin, Sem.run_bind, Sem.run_pure, Result.andThen_ok, List.map_toArray, List.map_cons, List.map_nil, hs, hx, hr]
  refine h p c w' ⟨by rw [rowCells_snoc]; simpa using h2, fun k e => ?_, Nat.le_trans hown.2.2 h3.size⟩ ⟨(Keeps.refl _ _).grown h3 (fun k e => .inl e), h4⟩
  rcases h4 k e with e | e
  · exact hown.2.1 k e
  · exact Nat.le_trans hown.2.2 e
theorem wpList_append_r {P : Program} {w : World} {ops : Array Oper} {rest : List Oper} {o : Oper} {a : Act} {Q : Exit → Act → World → Prop} (hgd : o.guard = none) (s x : Operand) (t e : TypeId)
    (ho : o.op = .call { callee := .builtin .append, args := #[s, x], argTypes := #[t, t] })
    (i : TypeInfo) (z : Value) (by_ : Nat) (ht : P.underlying t = some (.slice e)) (hi : P.info? e = some i) (hz : i.zero = some z) (hsize : i.size = sz) (hby : i.bytes = by_) (hzs : z.cells.size = sz) (hsz0 : 0 < sz) (hby1 : by_ ≤ 100000)
    (hcv : ∀ x, (cv x).length = sz) (w0 : World) (v : Value) (n : Nat) (xs : List α) (hn : xs.length = n) (hs : a.eval s = v) (hown : OwnR e sz cv w0 w v xs) (ad : Addr) (hx : a.eval x = .slice (some ad) 1 1) (l : α) (hl : ∀ j u, (cv l)[j]? = some u → w.cell? (ad.add j) = some u) (h1 : ∀ u ∈ cv l, u.oneCell' = true) (hsz : n ≤ 1000000000)
    (h : ∀ p c w', Hid (OwnR e sz cv w0 w' (.slice p (n + 1) c) (xs ++ [l])) → Hid (Grown w v p (n + 1) c w') → wpList P ops Q rest (a.put o.dst (.slice p (n + 1) c)) w') : wpList P ops Q (o :: rest) a w :=
  wpList_plain hgd fun _ hK => wp_append_r s x t e ho i z by_ ht hi hz hsize hby hzs hsz0 hby1 hcv w0 v n xs hn hs hown ad hx l hl h1 hsz (fun p c w' h1 h2 => hK _ _ (h p c w' (Lib.hid h1) (Lib.hid h2)))
end
theorem OwnR.keeps {α : Type} {t sz : Nat} {cv : α → List Value} {w0 W W' : World} {v : Value} {xs : List α} (h : OwnR t sz cv w0 W v xs) (k : Keeps (fun _ => False) w0 W) {p : Option Addr} {n c : Nat} (g : Grown W v p n c W') : Keeps (fun _ => False) w0 W' :=
  k.trans' g.k (fun i e => .inr (h.2.1 i e))

section
variable {α : Type} {sz : Nat} {cv : α → List Value}
/-- what a slice of rows is, cut -/
theorem RowsAt.take {w : World} {p : Option Addr} {n c : Nat} {xs : List α} (h : RowsAt sz cv w (.slice p n c) xs) (k : Nat) (hk : k ≤ xs.length) : RowsAt sz cv w (.slice p k c) (xs.take k) := by
  obtain ⟨p', c', e, hp, hc, hr⟩ := h
  injection e with e1 e2 e3
  subst e1; subst e3
  refine ⟨p, c, by rw [List.length_take, Nat.min_eq_left hk], hp, by rw [List.length_take]; omega, fun h0 => ?_⟩
  rw [List.length_take] at h0
  obtain ⟨g, o, rfl, hra⟩ := hr (by omega)
  refine ⟨g, o, rfl, fun i x hx => hra i x ?_⟩
  rw [List.getElem?_take] at hx
  split at hx
  · exact hx
  · cases hx
theorem RowsAt.drop {w : World} {g o n c : Nat} {xs : List α} (h : RowsAt sz cv w (.slice (some ⟨g, o, none⟩) n c) xs) (k : Nat) (hk : k ≤ xs.length) (c' : Nat) (hc' : xs.length - k ≤ c') : RowsAt sz cv w (.slice (some ⟨g, o + k * sz, none⟩) (xs.length - k) c') (xs.drop k) := by
  obtain ⟨p', c2, e, hp, hc, hr⟩ := h
  injection e with e1 e2 e3
  subst e1
  refine ⟨_, c', by rw [List.length_drop], fun h => (by cases h), by rw [List.length_drop]; exact hc', fun h0 => ⟨g, o + k * sz, rfl, fun i x hx => ?_⟩⟩
  rw [List.length_drop] at h0
  obtain ⟨g2, o2, e, hra⟩ := hr (by omega)
  injection e with e; injection e with e1 e2; subst e1; subst e2
  have := hra (k + i) x (by simpa [List.getElem?_drop] using hx)
  rw [Nat.add_mul, ← Nat.add_assoc] at this
  exact this
/-- a slice of rows from row k on, as the walk spells it -/
theorem RowsAt.from {w : World} {p : Option Addr} {n c : Nat} {xs : List α} (h : RowsAt sz cv w (.slice p n c) xs) (k : Nat) (hk : k ≤ xs.length) : RowsAt sz cv w (.slice (if c = k then p else Option.map (fun x => x.add (k * sz)) p) (xs.length - k) (c - k)) (xs.drop k) := by
  obtain ⟨p', c', e, hp, hc, hr⟩ := h
  injection e with e1 e2 e3
  subst e1; subst e3
  refine ⟨_, c - k, by rw [List.length_drop], fun h0 => ?_, by rw [List.length_drop]; omega, fun h0 => ?_⟩
  · split at h0
    · omega
    · cases p with
      | none => have := hp rfl; omega
      | some a => cases h0
  · rw [List.length_drop] at h0
    obtain ⟨g, o, rfl, hra⟩ := hr (by omega)
    refine ⟨g, o + k * sz, ?_, fun i x hx => ?_⟩
    · rw [if_neg (by omega), Option.map_some, Addr.add_mid]
    · have := hra (k + i) x (by simpa [List.getElem?_drop] using hx)
      rw [Nat.add_mul, ← Nat.add_assoc] at this
      exact this
theorem rowCells_app (xs ys : List α) : rowCells cv (xs ++ ys) = rowCells cv xs ++ rowCells cv ys := by unfold rowCells; simp
theorem rowCells_at {w : World} {v : Value} (hcv : ∀ x, (cv x).length = sz) (h0 : 0 < sz) {g o : Nat} (xs : List α) (hr : ∀ i x, xs[i]? = some x → w.rangeAt g (o + i * sz) (cv x)) : ∀ j u, (rowCells cv xs)[j]? = some u → w.cell? ⟨g, o + j, none⟩ = some u := by
  intro j u hu
  have hj : j < xs.length * sz := by rw [← rowCells_len hcv]; exact (List.getElem?_eq_some_iff.1 hu).1
  have hq : j / sz < xs.length := (Nat.div_lt_iff_lt_mul h0).2 hj
  have e : j = j / sz * sz + j % sz := by rw [Nat.mul_comm]; exact (Nat.div_add_mod j sz).symm
  have hm : j % sz < sz := Nat.mod_lt _ h0
  obtain ⟨x, hx⟩ : ∃ x, xs[j / sz]? = some x := ⟨_, List.getElem?_eq_getElem hq⟩
  rw [e, rowCells_get hcv xs _ x hx _ hm] at hu
  have := hr _ x hx (j % sz) u hu
  rw [Nat.add_assoc, ← e] at this
  exact this
/-- rows of whatever source behind rows of the call's own -/
theorem wp_append_rows {P : Program} {w : World} {o : Oper} {a : Act} {K : Act → World → Prop} {Q : Exit → Act → World → Prop} (s x : Operand) (t e : TypeId)
    (ho : o.op = .call { callee := .builtin .append, args := #[s, x], argTypes := #[t, t] })
    (i : TypeInfo) (z : Value) (by_ : Nat) (ht : P.underlying t = some (.slice e)) (hi : P.info? e = some i) (hz : i.zero = some z) (hsize : i.size = sz) (hby : i.bytes = by_) (hzs : z.cells.size = sz) (hsz0 : 0 < sz) (hby1 : by_ ≤ 100000)
    (hcv : ∀ x, (cv x).length = sz) (h1 : ∀ (x : α), ∀ u ∈ cv x, u.oneCell' = true) (w0 : World) (v : Value) (xs : List α) (hs : a.eval s = v) (hown : OwnR e sz cv w0 w v xs) (sv : Value) (hx : a.eval x = sv) (ys : List α) (hl : RowsAt sz cv w sv ys) (hsz : xs.length + ys.length ≤ 1000000000)
    (h : ∀ p c w', OwnR e sz cv w0 w' (.slice p (xs.length + ys.length) c) (xs ++ ys) → Grown w v p (xs.length + ys.length) c w' → K (a.put o.dst (.slice p (xs.length + ys.length) c)) w') : Oper.wp P o a w K Q := by
  obtain ⟨sp, sc, rfl, hp, -, hlr⟩ := hl
  have hb : (xs.length + ys.length) * by_ ≤ 1000000000 * 100000 := Nat.mul_le_mul hsz hby1
  have fin : ∀ {ad : Addr} {c2 : Nat}, a.eval x = .slice (some ad) ys.length c2 → (∀ j u, (rowCells cv ys)[j]? = some u → w.cell? (ad.add j) = some u) → Oper.wp P o a w K Q := by
    intro ad c2 hx hcl
    obtain ⟨v', w', hr, h2, h3, h4⟩ := run_append_sep (P := P) w t o.type e i z sz by_ ht hi hz hsize hby hzs hsz0 v xs.length (rowCells cv xs) hown.1 ad ys.length c2 (rowCells cv ys) (by rw [rowCells_len hcv]) hcl (fun u hu => by
      unfold rowCells at hu
      obtain ⟨y, _, hy⟩ := List.mem_flatMap.1 hu
      exact h1 y u hy) (by unfold maxLen; omega) (by omega)
    obtain ⟨p, c, rfl⟩ := ownsRow_slice h2
    unfold Oper.wp execOp
    simp only [ho, resolve, invoke, builtin, Sem.run_bind, Sem.run_pure, Result.andThen_ok, List.map_toArray, List.map_cons, List.map_nil, hs, hx, hr]
    refine h p c w' ⟨by rw [rowCells_app, List.length_append]; exact h2, fun k e => ?_, Nat.le_trans hown.2.2 h3.size⟩ ⟨(Keeps.refl _ _).grown h3 (fun k e => .inl e), h4⟩
    rcases h4 k e with e | e
    · exact hown.2.1 k e
    · exact Nat.le_trans hown.2.2 e
  cases sp with
  | none =>
    have h0 : ys.length = 0 := by
      rcases Nat.eq_zero_or_pos ys.length with h | h
      · exact h
      · obtain ⟨b, o, e, _⟩ := hlr h; cases e
    have hc := hp rfl
    subst hc
    have hl0 : ys = [] := List.length_eq_zero_iff.1 h0
    subst hl0
    obtain ⟨p, c, rfl⟩ := hown.slice
    have hrun := run_append_owned_none (P := P) (w := w) 0 t o.type e i sz ht hi (.slice p xs.length c) xs.length (rowCells cv xs) hown.1
    have hh := h p c w (by simpa using hown) ⟨Keeps.refl _ _, fun k e => .inl e⟩
    unfold Oper.wp
    simp [execOp, ho, resolve, invoke, builtin, hs, hx, hrun, Result.andThen]
    exact hh
  | some ad =>
    refine fin hx (fun j u hu => ?_)
    have h0 : 0 < ys.length := by
      have := (List.getElem?_eq_some_iff.1 hu).1
      rw [rowCells_len hcv] at this
      exact Nat.pos_of_ne_zero fun e => by rw [e] at this; omega
    obtain ⟨g, o2, e, hr⟩ := hlr h0
    injection e with e; subst e
    rw [Addr.add_mid]
    exact rowCells_at (v := .bool true) hcv hsz0 ys hr j u hu
end
end Go.Proofs.Ythofplmjlfhloaa
/- conf.Set, walked: where there is room, and where there isn't (gen_cfi.py). -/
set_option linter.unusedVariables false
set_option linter.unusedSimpArgs false
namespace Go.Proofs.Ythofplmjlfhloaa
open Go.RowKit

theorem lineVals_len (l : LineD) : (lineVals l).length = 4 := rfl
theorem lineVals_one (l : LineD) : ∀ u ∈ lineVals l, u.oneCell' = true := by
  intro u hu; simp [lineVals, strv] at hu; rcases hu with rfl | rfl | rfl | rfl <;> rfl
theorem RowsAt.lines {w : World} {v : Value} {ls : List LineD} (h : RowsAt 4 lineVals w v ls) : LinesAt w v ls := by
  obtain ⟨p, c, rfl, -, -, hr⟩ := h
  exact ⟨p, c, rfl, hr⟩
theorem lineAll : ∃ i, Try.prog.info? 58 = some i ∧ i.zero = some (.agg #[.int .i64 0, .string ⟨#[]⟩, .string ⟨#[]⟩, .string ⟨#[]⟩]) ∧ i.size = 4 ∧ i.bytes = 56 := by
  have h : (Try.prog.info? 58).map (fun i => (i.zero, i.size, i.bytes)) = some (some (.agg #[.int .i64 0, .string ⟨#[]⟩, .string ⟨#[]⟩, .string ⟨#[]⟩]), 4, 56) := by kernel_rfl
  obtain ⟨i, hi, e⟩ := Option.map_eq_some_iff.1 h
  injection e with e1 e; injection e with e2 e3
  exact ⟨i, hi, e1, e2, e3⟩
/-- make of rows of no length -/
theorem wp_make_r {α : Type} {sz : Nat} {cv : α → List Value} {P : Program} {w : World} {o : Oper} {a : Act} {K : Act → World → Prop} {Q : Exit → Act → World → Prop} (l c : Operand) (t : TypeId) (ho : o.op = .makeSlice t l c) (e : TypeId) (i : TypeInfo) (z : Value)
    (ht : P.underlying t = some (.slice e)) (hi : P.info? e = some i) (hz : i.zero = some z) (hsize : i.size = sz) (by_ : Nat) (hby : i.bytes = by_) (hby1 : by_ ≤ 100000) (n : Nat) (C : Int) (hC : C = (n : Int)) (hl : a.eval l = .int .i64 0) (hc : a.eval c = .int .i64 C) (hn : n ≤ 1000000000)
    (h : ∀ w', OwnR (α := α) e sz cv w w' (.slice (some ⟨w.heap.size, 0, none⟩) 0 n) [] → Keeps (fun _ => False) w w' → K (a.put o.dst (.slice (some ⟨w.heap.size, 0, none⟩) 0 n)) w') : Oper.wp P o a w K Q := by
  subst hC
  subst hby
  have hb : i.bytes * n ≤ 100000 * 1000000000 := Nat.mul_le_mul hby1 hn
  obtain ⟨w', hrun, r1, r2⟩ := run_make_own (P := P) w 0 t e i z sz ht hi hz hsize .i64 .i64 n (by omega) (by unfold maxLen; omega) (Nat.zero_le _)
  unfold Oper.wp
  simp [execOp, ho, hl, hc, hrun, Result.andThen]
  refine h w' ⟨by simpa [rowCells] using r1, fun k e => ?_, r2.size⟩ ((Keeps.refl _ _).grown r2 (fun k e => by cases e))
  simp only [Value.ownBlock, Option.some.injEq] at e
  omega
theorem wpList_append_rows {α : Type} {sz : Nat} {cv : α → List Value} {P : Program} {w : World} {ops : Array Oper} {rest : List Oper} {o : Oper} {a : Act} {Q : Exit → Act → World → Prop} (hgd : o.guard = none) (s x : Operand) (t e : TypeId)
    (ho : o.op = .call { callee := .builtin .append, args := #[s, x], argTypes := #[t, t] })
    (i : TypeInfo) (z : Value) (by_ : Nat) (ht : P.underlying t = some (.slice e)) (hi : P.info? e = some i) (hz : i.zero = some z) (hsize : i.size = sz) (hby : i.bytes = by_) (hzs : z.cells.size = sz) (hsz0 : 0 < sz) (hby1 : by_ ≤ 100000)
    (hcv : ∀ x, (cv x).length = sz) (h1 : ∀ (x : α), ∀ u ∈ cv x, u.oneCell' = true) (w0 : World) (v : Value) (xs : List α) (hs : a.eval s = v) (hown : OwnR e sz cv w0 w v xs) (sv : Value) (hx : a.eval x = sv) (ys : List α) (hl : RowsAt sz cv w sv ys) (hsz : xs.length + ys.length ≤ 1000000000)
    (h : ∀ p c w', Hid (OwnR e sz cv w0 w' (.slice p (xs.length + ys.length) c) (xs ++ ys)) → Hid (Grown w v p (xs.length + ys.length) c w') → wpList P ops Q rest (a.put o.dst (.slice p (xs.length + ys.length) c)) w') : wpList P ops Q (o :: rest) a w :=
  wpList_plain hgd fun _ hK => wp_append_rows s x t e ho i z by_ ht hi hz hsize hby hzs hsz0 hby1 hcv h1 w0 v xs hs hown sv hx ys hl hsz (fun p c w' h1 h2 => hK _ _ (h p c w' (Lib.hid h1) (Lib.hid h2)))

/-- lines of the call's own, and no error -/
def SetPost (ls : List LineD) (w : World) (e : Ending) (w' : World) : Prop :=
  ∃ p c, e = .returned (.tuple #[.slice p ls.length c, .int .i64 0]) ∧ OwnR 58 4 lineVals w w' (.slice p ls.length c) ls ∧ Keeps (fun _ => False) w w'
end Go.Proofs.Ythofplmjlfhloaa
/- The document's Set, of a right configuration and a right line, walked (gen_cgb.py). -/
set_option linter.unusedVariables false
set_option linter.unusedSimpArgs false
namespace Go.Proofs.Ythofplmjlfhloaa
open Go.RowKit

theorem line5All : ∃ i, Try.prog.info? 45 = some i ∧ i.zero = some (.agg #[.int .i64 0, .string ⟨#[]⟩, .string ⟨#[]⟩, .string ⟨#[]⟩]) ∧ i.size = 4 ∧ i.bytes = 56 := by
  have h : (Try.prog.info? 45).map (fun i => (i.zero, i.size, i.bytes)) = some (some (.agg #[.int .i64 0, .string ⟨#[]⟩, .string ⟨#[]⟩, .string ⟨#[]⟩]), 4, 56) := by kernel_rfl
  obtain ⟨i, hi, e⟩ := Option.map_eq_some_iff.1 h
  injection e with e1 e; injection e with e2 e3
  exact ⟨i, hi, e1, e2, e3⟩
theorem line5InfoG : (Try.prog.info? 45).map (·.size) = some 4 := by kernel_rfl
def stK (x : LineD) (ls : List LineD) (k : Nat) : List LineD × Bool := (ls.take k).foldl (stepR x) ([], false)
theorem stK_step {x q : LineD} {ls : List LineD} {k : Nat} (hq : ls[k]? = some q) : stK x ls (k + 1) = stepR x (stK x ls k) q := by
  obtain ⟨hk, e⟩ := List.getElem?_eq_some_iff.1 hq
  unfold stK
  rw [List.take_succ_eq_append_getElem hk, e, List.foldl_append]; rfl
theorem stepR_len (x q : LineD) (s : List LineD × Bool) : (stepR x s q).1.length ≤ s.1.length + 2 := by
  unfold stepR
  simp only
  split <;> split <;> simp
theorem stK_len (x : LineD) (ls : List LineD) : ∀ k, (stK x ls k).1.length ≤ 2 * k := by
  intro k
  induction k with
  | zero => simp [stK]
  | succ k ih =>
    by_cases hk : k < ls.length
    · rw [stK_step (List.getElem?_eq_getElem hk)]
      have := stepR_len x ls[k] (stK x ls k)
      omega
    · have : stK x ls (k + 1) = stK x ls k := by unfold stK; rw [List.take_of_length_le (by omega), List.take_of_length_le (by omega)]
      rw [this]; omega
def RSetPost (zs : List LineD) (w : World) (e : Ending) (w' : World) : Prop :=
  (zs.length ≤ 64 → ∃ p c, e = .returned (.tuple #[.slice p zs.length c, .int .i64 0]) ∧ OwnR 45 4 lineVals w w' (.slice p zs.length c) zs) ∧ (64 < zs.length → e = .returned (.tuple #[.slice none 0 0, .int .i64 5])) ∧ Keeps (fun _ => False) w w'

set_option maxRecDepth 100000 in
set_option maxHeartbeats 8000000 in
theorem rSet_c (v : Value) (ls : List LineD) (h : Int) (N F V : ByteArray) (w : World) (hv : Hid (RowsAt 4 lineVals w v ls)) (hlt : Hid (LinesLt ls 8796093022000)) (hn : N.size ≤ 8796093022000) (hvs : V.size ≤ 8796093022000)
    (hlen : ls.length ≤ 64) (hr : Hid (rightC ls = true)) (hx : Hid (lineB ⟨h, N.data.toList, F.data.toList, V.data.toList⟩ = true)) :
    Calls Try.prog 16 #[v, .agg #[.int .i64 h, .string N, .string F, .string V]] w (RSetPost (setC ⟨h, N.data.toList, F.data.toList, V.data.toList⟩ ls) w) := by
  obtain ⟨p, c, rfl⟩ := hv.out.slice
  obtain ⟨i0, hi0, hi1, hi2, hi3⟩ := line5All
  have hLn := Lib.hid hv.out.lines
  have hB : Hid (BlkAt (w.alloc (.cells #[.int .i64 h, .string N, .string F, .string V] 45)) w.heap.size 45 [.int .i64 h, .string N, .string F, .string V]) := Lib.hid (BlkAt.new _ _ _)
  have hK0 : Hid (Keeps (fun _ => False) w (w.alloc (.cells #[.int .i64 h, .string N, .string F, .string V] 45))) := Lib.hid ((Keeps.refl _ _).alloc _)
  go_enter Try.func16, Try.ntmps16
  go_upto_region 1 with fail
  generalize w.alloc (.cells #[.int .i64 h, .string N, .string F, .string V] 45) = w1 at hB hK0 ⊢
  generalize hgb : w.heap.size = gb at hB ⊢
  clear hgb
  go_wp2_with fail
  refine (rRight_c _ ls true _ (Lib.hid (hLn.out.keep hK0.out (fun _ _ _ f => f))) (by omega) hlt hr).mono ?_
  rintro e w2 ⟨rfl, k2⟩
  have k2' := Lib.hid k2
  clear k2
  have hB2 := Lib.hid (hB.out.keep k2'.out id)
  go_wp2_with ((with_reducible refine at_slot 13 ?_); refine wpList_load_mid_g (by rfl) 45 (.tmp 3) rfl gb 0 rfl [.int .i64 h, .string N, .string F, .string V] _ hB2.out.range Try.underlying45 rfl line5InfoG ?_)
  refine (rRightLine_any h N F V true _ hn hvs hx).mono ?_
  rintro e w3 ⟨rfl, k3⟩
  have hB3 := Lib.hid (hB2.out.keep k3 id)
  have hK3 := Lib.hid (hK0.out.trans (k2'.out.trans k3))
  have hv3 := Lib.hid (hv.out.keep hK3.out)
  clear k3 k2' hB hB2 hK0 hLn hlt hx
  obtain ⟨x, hxe⟩ : ∃ x : LineD, x = ⟨h, N.data.toList, F.data.toList, V.data.toList⟩ := ⟨_, rfl⟩
  have hxe' := Lib.hid hxe
  rw [← hxe]
  clear hxe
  go_wp2_with fail
  go_loopw [8, 6, 7] (fun iv ov pv wr => ∃ (k : Nat) (q : Option Addr) (d : Nat), k ≤ ls.length ∧ iv = .int .i64 k ∧ ov = .slice q (stK x ls k).1.length d ∧ pv = .bool (stK x ls k).2 ∧ Hid (OwnR 45 4 lineVals w3 wr ov (stK x ls k).1) ∧ Hid (Keeps (fun _ => False) w3 wr)) (fun iv _ _ _ => ls.length - (intOf iv).toNat)
  case atStart => exact ⟨0, none, 0, by omega, rfl, rfl, rfl, Lib.hid (OwnR.nil _ _ (Nat.le_refl _)), Lib.hid (Keeps.refl _ _)⟩
  case round =>
    obtain ⟨k, qa, d, hk, rfl, rfl, rfl, hO, hK⟩ := hrel
    have hsl := stK_len x ls k
    generalize hst : stK x ls k = st at hO hsl ⊢
    have hst' := Lib.hid hst
    clear hst
    obtain ⟨oL, pb⟩ := st
    simp only at hO hsl ⊢
    by_cases hlk : k < ls.length
    · obtain ⟨g, o, rfl, hrows⟩ := hv3.out.open (by omega)
      obtain ⟨q, hq⟩ : ∃ q, ls[k]? = some q := ⟨_, List.getElem?_eq_getElem hlk⟩
      obtain ⟨Nq, hN⟩ : ∃ N : ByteArray, N = ⟨q.name.toArray⟩ := ⟨_, rfl⟩
      obtain ⟨Fq, hF⟩ : ∃ N : ByteArray, N = ⟨q.leaf.toArray⟩ := ⟨_, rfl⟩
      obtain ⟨Vq, hV⟩ : ∃ N : ByteArray, N = ⟨q.value.toArray⟩ := ⟨_, rfl⟩
      have hrow : Hid (w3.rangeAt g (o + k * 4) [.int .i64 q.head, .string Nq, .string Fq, .string Vq]) := Lib.hid (by rw [hN, hF, hV]; exact hrows k q hq)
      have hqd : Hid (q = ⟨q.head, Nq.data.toList, Fq.data.toList, Vq.data.toList⟩) := Lib.hid (by rw [hN, hF, hV])
      have hstep := Lib.hid (stK_step (x := x) hq)
      rw [hst'.out] at hstep
      have hsl' := Lib.hid hsl
      have m1 : (0 : Int) ≤ (k : Int) := by omega
      have m2 : (k : Int) < (ls.length : Int) := by omega
      clear hrows hN hF hV hq hst' hsl
      obtain ⟨zl, hzl⟩ : ∃ z, lessB ⟨q.head, Nq.data.toList, Fq.data.toList, Vq.data.toList⟩ ⟨h, N.data.toList, F.data.toList, V.data.toList⟩ = z := ⟨_, rfl⟩
      obtain ⟨zx, hzx⟩ : ∃ z, lessB ⟨h, N.data.toList, F.data.toList, V.data.toList⟩ ⟨q.head, Nq.data.toList, Fq.data.toList, Vq.data.toList⟩ = z := ⟨_, rfl⟩
      have el : Hid (lessB q x = zl) := Lib.hid (by rw [hqd.out, hxe'.out]; exact hzl)
      have ex : Hid (lessB x q = zx) := Lib.hid (by rw [hqd.out, hxe'.out]; exact hzx)
      have hzl' := Lib.hid hzl; have hzx' := Lib.hid hzx
      clear hzl hzx
      generalize hWr : wr = W0 at hO hK ⊢
      clear hWr
      cases pb with
      | true =>
        go_upto_region 8 with fail
        refine wp_region_noPanic ?_
        refine wp_region_held_drew (S := (fun W => Keeps (fun _ => False) W0 W)) (by kernel_rfl) (((Keeps.refl _ _).drew)) (fun hHeld => ?_)
        refine tk 0 rfl ?_
        refine tk 1 rfl ?_
        refine tk 2 rfl ?_
        refine tkS 3 rfl ?_
        refine tkS 4 rfl ?_
        refine tkS 5 rfl ?_
        refine tkS 6 rfl ?_
        refine tkS 7 rfl ?_
        refine tkS 8 rfl ?_
        refine tkS 9 rfl ?_
        refine tk 10 rfl ?_
        refine wpAnyH_done (by kernel_rfl) (NoPanic.normal ?_) _
        have hK1 := Lib.hid (hK.out.trans hHeld)
        have hO1 := Lib.hid (hO.out.keep hHeld (fun _ _ f => f))
        clear hHeld
        go_upto_region 10 with fail
        generalize hW1 : W0.drew = W1 at hO1 hK1 ⊢
        clear hW1
        cases zl with
        | true =>
          refine wp_region_noPanic ?_
          refine wp_region_held_drew (S := (fun W => Keeps (fun _ => False) W1 W)) (by kernel_rfl) (((Keeps.refl _ _).drew)) (fun hHeld => ?_)
          refine tk 0 rfl ?_
          refine tk 1 rfl ?_
          refine tk 2 rfl ?_
          refine tkL 3 rfl (yieldsIf_load_mid (by rfl) 45 (.tmp 40) rfl g (o + k * 4) rfl [.int .i64 q.head, .string Nq, .string Fq, .string Vq] _ (fun _ s => (hK1.out.trans s).rangeAt hrow.out id) Try.underlying45 rfl line5InfoG) ?_
          refine tkL 4 rfl (yieldsIf_load_mid (by rfl) 45 (.tmp 3) rfl gb 0 rfl [.int .i64 h, .string N, .string F, .string V] _ (fun _ s => (hB3.out.keep (hK1.out.trans s) id).range) Try.underlying45 rfl line5InfoG) ?_
          refine stepL 5 rfl (by kernel_rfl) (fun K hK => ?_)
          go_simp
          (refine (rLess_any q.head h Nq Fq Vq N F V _ _ hzl').mono ?_; rintro e wc ⟨rfl, kc⟩; have kc' := Lib.hid kc; clear kc)
          go_wp2_with fail
          refine hK.out _ _ ((hHeld.trans kc'.out)) (fun hHeld => ?_)
          clear hK K
          try simp only [Act.put, sA, sZ, sS]
          refine tk 6 rfl ?_
          refine tkS 7 rfl ?_
          refine tkS 8 rfl ?_
          refine tkS 9 rfl ?_
          refine tkS 10 rfl ?_
          refine tkS 11 rfl ?_
          refine tkS 12 rfl ?_
          refine tk 13 rfl ?_
          refine wpAnyH_done (by kernel_rfl) (NoPanic.normal ?_) _
          have hK2 := Lib.hid (hK1.out.trans hHeld)
          have hO2 := Lib.hid (hO1.out.keep hHeld (fun _ _ f => f))
          clear hHeld
          have hl3 := Lib.hid (show (oL).length ≤ 200 by have := hsl'.out; first | omega | (simp; omega))
          go_wp2_with (first | ((with_reducible refine at_slot 56 ?_); refine wpList_load_mid rfl 45 (.tmp 55) rfl g (o + k * 4) rfl [.int .i64 q.head, .string Nq, .string Fq, .string Vq] _ (hK2.out.rangeAt hrow.out id) Try.underlying45 rfl line5InfoG ?_) | ((with_reducible refine at_slot 58 ?_); go_must (refine wpList_append_r rfl (.tmp 52) (.tmp 57) 22 45 rfl i0 _ 56 Try.underlying22 hi0 hi1 hi2 hi3 rfl (by decide) (by decide) lineVals_len w3 _ (oL.length) (oL) (by simp) rfl (hO2.out.keep ((Keeps.refl (fun _ => False) _).alloc _) (fun _ _ f => f)) _ rfl ⟨q.head, Nq.data.toList, Fq.data.toList, Vq.data.toList⟩ (cells_new rfl _ _) (lineVals_one _) (by have := hsl'.out; omega) ?_); intro q3 d3 w3x hO3 hg3))
          have hK3 := Lib.hid (OwnR.keeps (hO2.out.keep ((Keeps.refl (fun _ => False) _).alloc _) (fun _ _ f => f)) (hK2.out.alloc _) hg3.out)
          clear hg3
          have hfin := Lib.hid (show stK x ls (k + 1) = (oL ++ [(⟨q.head, Nq.data.toList, Fq.data.toList, Vq.data.toList⟩ : LineD)], true) by rw [hstep.out]; unfold stepR; simp [el.out, ex.out, ← hqd.out, ← hxe'.out])
          skip
          refine ⟨⟨k + 1, q3, d3, by omega, by go_num, by simp [hfin.out], by rw [hfin.out], by rw [hfin.out]; exact hO3, hK3⟩, by simp [intOf]; omega⟩
        | false =>
          cases zx with
          | true =>
            refine wp_region_noPanic ?_
            refine wp_region_held_drew (S := (fun W => Keeps (fun _ => False) W1 W)) (by kernel_rfl) (((Keeps.refl _ _).drew)) (fun hHeld => ?_)
            refine tk 0 rfl ?_
            refine tk 1 rfl ?_
            refine tk 2 rfl ?_
            refine tkL 3 rfl (yieldsIf_load_mid (by rfl) 45 (.tmp 40) rfl g (o + k * 4) rfl [.int .i64 q.head, .string Nq, .string Fq, .string Vq] _ (fun _ s => (hK1.out.trans s).rangeAt hrow.out id) Try.underlying45 rfl line5InfoG) ?_
            refine tkL 4 rfl (yieldsIf_load_mid (by rfl) 45 (.tmp 3) rfl gb 0 rfl [.int .i64 h, .string N, .string F, .string V] _ (fun _ s => (hB3.out.keep (hK1.out.trans s) id).range) Try.underlying45 rfl line5InfoG) ?_
            refine stepL 5 rfl (by kernel_rfl) (fun K hK => ?_)
            go_simp
            (refine (rLess_any q.head h Nq Fq Vq N F V _ _ hzl').mono ?_; rintro e wc ⟨rfl, kc⟩; have kc' := Lib.hid kc; clear kc)
            go_wp2_with fail
            refine hK.out _ _ ((hHeld.trans kc'.out)) (fun hHeld => ?_)
            clear hK K
            try simp only [Act.put, sA, sZ, sS]
            refine tk 6 rfl ?_
            refine tkL 7 rfl (yieldsIf_load_mid (by rfl) 45 (.tmp 3) rfl gb 0 rfl [.int .i64 h, .string N, .string F, .string V] _ (fun _ s => (hB3.out.keep (hK1.out.trans s) id).range) Try.underlying45 rfl line5InfoG) ?_
            refine tk 8 rfl ?_
            refine tk 9 rfl ?_
            refine tk 10 rfl ?_
            refine tkL 11 rfl (yieldsIf_load_mid (by rfl) 45 (.tmp 48) rfl g (o + k * 4) rfl [.int .i64 q.head, .string Nq, .string Fq, .string Vq] _ (fun _ s => (hK1.out.trans s).rangeAt hrow.out id) Try.underlying45 rfl line5InfoG) ?_
            refine stepL 12 rfl (by kernel_rfl) (fun K hK => ?_)
            go_simp
            (refine (rLess_any h q.head N F V Nq Fq Vq _ _ hzx').mono ?_; rintro e wc ⟨rfl, kc⟩; have kc' := Lib.hid kc; clear kc)
            go_wp2_with fail
            refine hK.out _ _ ((hHeld.trans kc'.out)) (fun hHeld => ?_)
            clear hK K
            try simp only [Act.put, sA, sZ, sS]
            refine tk 13 rfl ?_
            refine wpAnyH_done (by kernel_rfl) (NoPanic.normal ?_) _
            have hK4 := Lib.hid (hK1.out.trans hHeld)
            have hO4 := Lib.hid (hO1.out.keep hHeld (fun _ _ f => f))
            clear hHeld
            have hl5 := Lib.hid (show (oL).length ≤ 200 by have := hsl'.out; first | omega | (simp; omega))
            go_wp2_with (first | ((with_reducible refine at_slot 56 ?_); refine wpList_load_mid rfl 45 (.tmp 55) rfl g (o + k * 4) rfl [.int .i64 q.head, .string Nq, .string Fq, .string Vq] _ (hK4.out.rangeAt hrow.out id) Try.underlying45 rfl line5InfoG ?_) | ((with_reducible refine at_slot 58 ?_); go_must (refine wpList_append_r rfl (.tmp 52) (.tmp 57) 22 45 rfl i0 _ 56 Try.underlying22 hi0 hi1 hi2 hi3 rfl (by decide) (by decide) lineVals_len w3 _ (oL.length) (oL) (by simp) rfl (hO4.out.keep ((Keeps.refl (fun _ => False) _).alloc _) (fun _ _ f => f)) _ rfl ⟨q.head, Nq.data.toList, Fq.data.toList, Vq.data.toList⟩ (cells_new rfl _ _) (lineVals_one _) (by have := hsl'.out; omega) ?_); intro q5 d5 w5x hO5 hg5))
            have hK5 := Lib.hid (OwnR.keeps (hO4.out.keep ((Keeps.refl (fun _ => False) _).alloc _) (fun _ _ f => f)) (hK4.out.alloc _) hg5.out)
            clear hg5
            have hfin := Lib.hid (show stK x ls (k + 1) = (oL ++ [(⟨q.head, Nq.data.toList, Fq.data.toList, Vq.data.toList⟩ : LineD)], true) by rw [hstep.out]; unfold stepR; simp [el.out, ex.out, ← hqd.out, ← hxe'.out])
            skip
            refine ⟨⟨k + 1, q5, d5, by omega, by go_num, by simp [hfin.out], by rw [hfin.out], by rw [hfin.out]; exact hO5, hK5⟩, by simp [intOf]; omega⟩
          | false =>
            refine wp_region_noPanic ?_
            refine wp_region_held_drew (S := (fun W => Keeps (fun _ => False) W1 W)) (by kernel_rfl) (((Keeps.refl _ _).drew)) (fun hHeld => ?_)
            refine tk 0 rfl ?_
            refine tk 1 rfl ?_
            refine tk 2 rfl ?_
            refine tkL 3 rfl (yieldsIf_load_mid (by rfl) 45 (.tmp 40) rfl g (o + k * 4) rfl [.int .i64 q.head, .string Nq, .string Fq, .string Vq] _ (fun _ s => (hK1.out.trans s).rangeAt hrow.out id) Try.underlying45 rfl line5InfoG) ?_
            refine tkL 4 rfl (yieldsIf_load_mid (by rfl) 45 (.tmp 3) rfl gb 0 rfl [.int .i64 h, .string N, .string F, .string V] _ (fun _ s => (hB3.out.keep (hK1.out.trans s) id).range) Try.underlying45 rfl line5InfoG) ?_
            refine stepL 5 rfl (by kernel_rfl) (fun K hK => ?_)
            go_simp
            (refine (rLess_any q.head h Nq Fq Vq N F V _ _ hzl').mono ?_; rintro e wc ⟨rfl, kc⟩; have kc' := Lib.hid kc; clear kc)
            go_wp2_with fail
            refine hK.out _ _ ((hHeld.trans kc'.out)) (fun hHeld => ?_)
            clear hK K
            try simp only [Act.put, sA, sZ, sS]
            refine tk 6 rfl ?_
            refine tkL 7 rfl (yieldsIf_load_mid (by rfl) 45 (.tmp 3) rfl gb 0 rfl [.int .i64 h, .string N, .string F, .string V] _ (fun _ s => (hB3.out.keep (hK1.out.trans s) id).range) Try.underlying45 rfl line5InfoG) ?_
            refine tk 8 rfl ?_
            refine tk 9 rfl ?_
            refine tk 10 rfl ?_
            refine tkL 11 rfl (yieldsIf_load_mid (by rfl) 45 (.tmp 48) rfl g (o + k * 4) rfl [.int .i64 q.head, .string Nq, .string Fq, .string Vq] _ (fun _ s => (hK1.out.trans s).rangeAt hrow.out id) Try.underlying45 rfl line5InfoG) ?_
            refine stepL 12 rfl (by kernel_rfl) (fun K hK => ?_)
            go_simp
            (refine (rLess_any h q.head N F V Nq Fq Vq _ _ hzx').mono ?_; rintro e wc ⟨rfl, kc⟩; have kc' := Lib.hid kc; clear kc)
            go_wp2_with fail
            refine hK.out _ _ ((hHeld.trans kc'.out)) (fun hHeld => ?_)
            clear hK K
            try simp only [Act.put, sA, sZ, sS]
            refine tk 13 rfl ?_
            refine wpAnyH_done (by kernel_rfl) (NoPanic.normal ?_) _
            have hK6 := Lib.hid (hK1.out.trans hHeld)
            have hO6 := Lib.hid (hO1.out.keep hHeld (fun _ _ f => f))
            clear hHeld
            have hfin := Lib.hid (show stK x ls (k + 1) = (oL, true) by rw [hstep.out]; unfold stepR; simp [el.out, ex.out, ← hqd.out, ← hxe'.out])
            go_wp2_with fail
            refine ⟨⟨k + 1, qa, d, by omega, by go_num, by simp [hfin.out], by rw [hfin.out], by rw [hfin.out]; exact hO6, hK6⟩, by simp [intOf]; omega⟩
      | false =>
        go_upto_region 8 with fail
        cases zl with
        | true =>
          refine wp_region_noPanic ?_
          refine wp_region_held_drew (S := (fun W => Keeps (fun _ => False) W0 W)) (by kernel_rfl) (((Keeps.refl _ _).drew)) (fun hHeld => ?_)
          refine tk 0 rfl ?_
          refine tk 1 rfl ?_
          refine tk 2 rfl ?_
          refine tk 3 rfl ?_
          refine tk 4 rfl ?_
          refine tk 5 rfl ?_
          refine tkL 6 rfl (yieldsIf_load_mid (by rfl) 45 (.tmp 28) rfl g (o + k * 4) rfl [.int .i64 q.head, .string Nq, .string Fq, .string Vq] _ (fun _ s => (hK.out.trans s).rangeAt hrow.out id) Try.underlying45 rfl line5InfoG) ?_
          refine tkL 7 rfl (yieldsIf_load_mid (by rfl) 45 (.tmp 3) rfl gb 0 rfl [.int .i64 h, .string N, .string F, .string V] _ (fun _ s => (hB3.out.keep (hK.out.trans s) id).range) Try.underlying45 rfl line5InfoG) ?_
          refine stepL 8 rfl (by kernel_rfl) (fun K hK => ?_)
          go_simp
          (refine (rLess_any q.head h Nq Fq Vq N F V _ _ hzl').mono ?_; rintro e wc ⟨rfl, kc⟩; have kc' := Lib.hid kc; clear kc)
          go_wp2_with fail
          refine hK.out _ _ ((hHeld.trans kc'.out)) (fun hHeld => ?_)
          clear hK K
          try simp only [Act.put, sA, sZ, sS]
          refine tk 9 rfl ?_
          refine tk 10 rfl ?_
          refine wpAnyH_done (by kernel_rfl) (NoPanic.normal ?_) _
          have hK7 := Lib.hid (hK.out.trans hHeld)
          have hO7 := Lib.hid (hO.out.keep hHeld (fun _ _ f => f))
          clear hHeld
          go_upto_region 10 with fail
          skip
          refine wp_region_noPanic ?_
          refine wp_region_held_drew (S := (fun W => Keeps (fun _ => False) wc W)) (by kernel_rfl) (((Keeps.refl _ _).drew)) (fun hHeld => ?_)
          refine tk 0 rfl ?_
          refine tk 1 rfl ?_
          refine tk 2 rfl ?_
          refine tkL 3 rfl (yieldsIf_load_mid (by rfl) 45 (.tmp 40) rfl g (o + k * 4) rfl [.int .i64 q.head, .string Nq, .string Fq, .string Vq] _ (fun _ s => (hK7.out.trans s).rangeAt hrow.out id) Try.underlying45 rfl line5InfoG) ?_
          refine tkL 4 rfl (yieldsIf_load_mid (by rfl) 45 (.tmp 3) rfl gb 0 rfl [.int .i64 h, .string N, .string F, .string V] _ (fun _ s => (hB3.out.keep (hK7.out.trans s) id).range) Try.underlying45 rfl line5InfoG) ?_
          refine stepL 5 rfl (by kernel_rfl) (fun K hK => ?_)
          go_simp
          (refine (rLess_any q.head h Nq Fq Vq N F V _ _ hzl').mono ?_; rintro e wc ⟨rfl, kc⟩; have kc' := Lib.hid kc; clear kc)
          go_wp2_with fail
          refine hK.out _ _ ((hHeld.trans kc'.out)) (fun hHeld => ?_)
          clear hK K
          try simp only [Act.put, sA, sZ, sS]
          refine tk 6 rfl ?_
          refine tkS 7 rfl ?_
          refine tkS 8 rfl ?_
          refine tkS 9 rfl ?_
          refine tkS 10 rfl ?_
          refine tkS 11 rfl ?_
          refine tkS 12 rfl ?_
          refine tk 13 rfl ?_
          refine wpAnyH_done (by kernel_rfl) (NoPanic.normal ?_) _
          have hK8 := Lib.hid (hK7.out.trans hHeld)
          have hO8 := Lib.hid (hO7.out.keep hHeld (fun _ _ f => f))
          clear hHeld
          have hl9 := Lib.hid (show (oL).length ≤ 200 by have := hsl'.out; first | omega | (simp; omega))
          go_wp2_with (first | ((with_reducible refine at_slot 56 ?_); refine wpList_load_mid rfl 45 (.tmp 55) rfl g (o + k * 4) rfl [.int .i64 q.head, .string Nq, .string Fq, .string Vq] _ (hK8.out.rangeAt hrow.out id) Try.underlying45 rfl line5InfoG ?_) | ((with_reducible refine at_slot 58 ?_); go_must (refine wpList_append_r rfl (.tmp 52) (.tmp 57) 22 45 rfl i0 _ 56 Try.underlying22 hi0 hi1 hi2 hi3 rfl (by decide) (by decide) lineVals_len w3 _ (oL.length) (oL) (by simp) rfl (hO8.out.keep ((Keeps.refl (fun _ => False) _).alloc _) (fun _ _ f => f)) _ rfl ⟨q.head, Nq.data.toList, Fq.data.toList, Vq.data.toList⟩ (cells_new rfl _ _) (lineVals_one _) (by have := hsl'.out; omega) ?_); intro q9 d9 w9x hO9 hg9))
          have hK9 := Lib.hid (OwnR.keeps (hO8.out.keep ((Keeps.refl (fun _ => False) _).alloc _) (fun _ _ f => f)) (hK8.out.alloc _) hg9.out)
          clear hg9
          have hfin := Lib.hid (show stK x ls (k + 1) = (oL ++ [(⟨q.head, Nq.data.toList, Fq.data.toList, Vq.data.toList⟩ : LineD)], false) by rw [hstep.out]; unfold stepR; simp [el.out, ex.out, ← hqd.out, ← hxe'.out])
          skip
          refine ⟨⟨k + 1, q9, d9, by omega, by go_num, by simp [hfin.out], by rw [hfin.out], by rw [hfin.out]; exact hO9, hK9⟩, by simp [intOf]; omega⟩
        | false =>
          refine wp_region_noPanic ?_
          refine wp_region_held_drew (S := (fun W => Keeps (fun _ => False) W0 W)) (by kernel_rfl) (((Keeps.refl _ _).drew)) (fun hHeld => ?_)
          refine tk 0 rfl ?_
          refine tk 1 rfl ?_
          refine tk 2 rfl ?_
          refine tk 3 rfl ?_
          refine tk 4 rfl ?_
          refine tk 5 rfl ?_
          refine tkL 6 rfl (yieldsIf_load_mid (by rfl) 45 (.tmp 28) rfl g (o + k * 4) rfl [.int .i64 q.head, .string Nq, .string Fq, .string Vq] _ (fun _ s => (hK.out.trans s).rangeAt hrow.out id) Try.underlying45 rfl line5InfoG) ?_
          refine tkL 7 rfl (yieldsIf_load_mid (by rfl) 45 (.tmp 3) rfl gb 0 rfl [.int .i64 h, .string N, .string F, .string V] _ (fun _ s => (hB3.out.keep (hK.out.trans s) id).range) Try.underlying45 rfl line5InfoG) ?_
          refine stepL 8 rfl (by kernel_rfl) (fun K hK => ?_)
          go_simp
          (refine (rLess_any q.head h Nq Fq Vq N F V _ _ hzl').mono ?_; rintro e wc ⟨rfl, kc⟩; have kc' := Lib.hid kc; clear kc)
          go_wp2_with fail
          refine hK.out _ _ ((hHeld.trans kc'.out)) (fun hHeld => ?_)
          clear hK K
          try simp only [Act.put, sA, sZ, sS]
          refine tk 9 rfl ?_
          refine tk 10 rfl ?_
          refine wpAnyH_done (by kernel_rfl) (NoPanic.normal ?_) _
          have hK10 := Lib.hid (hK.out.trans hHeld)
          have hO10 := Lib.hid (hO.out.keep hHeld (fun _ _ f => f))
          clear hHeld
          have hl11 := Lib.hid (show (oL).length ≤ 200 by have := hsl'.out; first | omega | (simp; omega))
          go_upto_region 10 with (first | ((with_reducible refine at_slot 35 ?_); refine wpList_load_mid rfl 45 (.tmp 3) rfl gb 0 rfl [.int .i64 h, .string N, .string F, .string V] _ (hB3.out.keep hK10.out id).range Try.underlying45 rfl line5InfoG ?_) | ((with_reducible refine at_slot 37 ?_); go_must (refine wpList_append_r rfl (.tmp 34) (.tmp 36) 22 45 rfl i0 _ 56 Try.underlying22 hi0 hi1 hi2 hi3 rfl (by decide) (by decide) lineVals_len w3 _ (oL.length) (oL) (by simp) rfl (hO10.out.keep ((Keeps.refl (fun _ => False) _).alloc _) (fun _ _ f => f)) _ rfl ⟨h, N.data.toList, F.data.toList, V.data.toList⟩ (cells_new rfl _ _) (lineVals_one _) (by have := hsl'.out; omega) ?_); intro q11 d11 w11x hO11 hg11))
          have hK11 := Lib.hid (OwnR.keeps (hO10.out.keep ((Keeps.refl (fun _ => False) _).alloc _) (fun _ _ f => f)) (hK10.out.alloc _) hg11.out)
          clear hg11
          cases zx with
          | true =>
            refine wp_region_noPanic ?_
            refine wp_region_held_drew (S := (fun W => Keeps (fun _ => False) w11x W)) (by kernel_rfl) (((Keeps.refl _ _).drew)) (fun hHeld => ?_)
            refine tk 0 rfl ?_
            refine tk 1 rfl ?_
            refine tk 2 rfl ?_
            refine tkL 3 rfl (yieldsIf_load_mid (by rfl) 45 (.tmp 40) rfl g (o + k * 4) rfl [.int .i64 q.head, .string Nq, .string Fq, .string Vq] _ (fun _ s => (hK11.out.trans s).rangeAt hrow.out id) Try.underlying45 rfl line5InfoG) ?_
            refine tkL 4 rfl (yieldsIf_load_mid (by rfl) 45 (.tmp 3) rfl gb 0 rfl [.int .i64 h, .string N, .string F, .string V] _ (fun _ s => (hB3.out.keep (hK11.out.trans s) id).range) Try.underlying45 rfl line5InfoG) ?_
            refine stepL 5 rfl (by kernel_rfl) (fun K hK => ?_)
            go_simp
            (refine (rLess_any q.head h Nq Fq Vq N F V _ _ hzl').mono ?_; rintro e wc ⟨rfl, kc⟩; have kc' := Lib.hid kc; clear kc)
            go_wp2_with fail
            refine hK.out _ _ ((hHeld.trans kc'.out)) (fun hHeld => ?_)
            clear hK K
            try simp only [Act.put, sA, sZ, sS]
            refine tk 6 rfl ?_
            refine tkL 7 rfl (yieldsIf_load_mid (by rfl) 45 (.tmp 3) rfl gb 0 rfl [.int .i64 h, .string N, .string F, .string V] _ (fun _ s => (hB3.out.keep (hK11.out.trans s) id).range) Try.underlying45 rfl line5InfoG) ?_
            refine tk 8 rfl ?_
            refine tk 9 rfl ?_
            refine tk 10 rfl ?_
            refine tkL 11 rfl (yieldsIf_load_mid (by rfl) 45 (.tmp 48) rfl g (o + k * 4) rfl [.int .i64 q.head, .string Nq, .string Fq, .string Vq] _ (fun _ s => (hK11.out.trans s).rangeAt hrow.out id) Try.underlying45 rfl line5InfoG) ?_
            refine stepL 12 rfl (by kernel_rfl) (fun K hK => ?_)
            go_simp
            (refine (rLess_any h q.head N F V Nq Fq Vq _ _ hzx').mono ?_; rintro e wc ⟨rfl, kc⟩; have kc' := Lib.hid kc; clear kc)
            go_wp2_with fail
            refine hK.out _ _ ((hHeld.trans kc'.out)) (fun hHeld => ?_)
            clear hK K
            try simp only [Act.put, sA, sZ, sS]
            refine tk 13 rfl ?_
            refine wpAnyH_done (by kernel_rfl) (NoPanic.normal ?_) _
            have hK12 := Lib.hid (hK11.out.trans hHeld)
            have hO12 := Lib.hid (hO11.out.keep hHeld (fun _ _ f => f))
            clear hHeld
            have hl13 := Lib.hid (show (oL ++ [(⟨h, N.data.toList, F.data.toList, V.data.toList⟩ : LineD)]).length ≤ 200 by have := hsl'.out; first | omega | (simp; omega))
            go_wp2_with (first | ((with_reducible refine at_slot 56 ?_); refine wpList_load_mid rfl 45 (.tmp 55) rfl g (o + k * 4) rfl [.int .i64 q.head, .string Nq, .string Fq, .string Vq] _ (hK12.out.rangeAt hrow.out id) Try.underlying45 rfl line5InfoG ?_) | ((with_reducible refine at_slot 58 ?_); go_must (refine wpList_append_r rfl (.tmp 52) (.tmp 57) 22 45 rfl i0 _ 56 Try.underlying22 hi0 hi1 hi2 hi3 rfl (by decide) (by decide) lineVals_len w3 _ (oL.length + 1) (oL ++ [(⟨h, N.data.toList, F.data.toList, V.data.toList⟩ : LineD)]) (by simp) rfl (hO12.out.keep ((Keeps.refl (fun _ => False) _).alloc _) (fun _ _ f => f)) _ rfl ⟨q.head, Nq.data.toList, Fq.data.toList, Vq.data.toList⟩ (cells_new rfl _ _) (lineVals_one _) (by have := hsl'.out; omega) ?_); intro q13 d13 w13x hO13 hg13))
            have hK13 := Lib.hid (OwnR.keeps (hO12.out.keep ((Keeps.refl (fun _ => False) _).alloc _) (fun _ _ f => f)) (hK12.out.alloc _) hg13.out)
            clear hg13
            have hfin := Lib.hid (show stK x ls (k + 1) = (oL ++ [(⟨h, N.data.toList, F.data.toList, V.data.toList⟩ : LineD)] ++ [(⟨q.head, Nq.data.toList, Fq.data.toList, Vq.data.toList⟩ : LineD)], true) by rw [hstep.out]; unfold stepR; simp [el.out, ex.out, ← hqd.out, ← hxe'.out])
            skip
            refine ⟨⟨k + 1, q13, d13, by omega, by go_num, by simp [hfin.out], by rw [hfin.out], by rw [hfin.out]; exact hO13, hK13⟩, by simp [intOf]; omega⟩
          | false =>
            refine wp_region_noPanic ?_
            refine wp_region_held_drew (S := (fun W => Keeps (fun _ => False) w11x W)) (by kernel_rfl) (((Keeps.refl _ _).drew)) (fun hHeld => ?_)
            refine tk 0 rfl ?_
            refine tk 1 rfl ?_
            refine tk 2 rfl ?_
            refine tkL 3 rfl (yieldsIf_load_mid (by rfl) 45 (.tmp 40) rfl g (o + k * 4) rfl [.int .i64 q.head, .string Nq, .string Fq, .string Vq] _ (fun _ s => (hK11.out.trans s).rangeAt hrow.out id) Try.underlying45 rfl line5InfoG) ?_
            refine tkL 4 rfl (yieldsIf_load_mid (by rfl) 45 (.tmp 3) rfl gb 0 rfl [.int .i64 h, .string N, .string F, .string V] _ (fun _ s => (hB3.out.keep (hK11.out.trans s) id).range) Try.underlying45 rfl line5InfoG) ?_
            refine stepL 5 rfl (by kernel_rfl) (fun K hK => ?_)
            go_simp
            (refine (rLess_any q.head h Nq Fq Vq N F V _ _ hzl').mono ?_; rintro e wc ⟨rfl, kc⟩; have kc' := Lib.hid kc; clear kc)
            go_wp2_with fail
            refine hK.out _ _ ((hHeld.trans kc'.out)) (fun hHeld => ?_)
            clear hK K
            try simp only [Act.put, sA, sZ, sS]
            refine tk 6 rfl ?_
            refine tkL 7 rfl (yieldsIf_load_mid (by rfl) 45 (.tmp 3) rfl gb 0 rfl [.int .i64 h, .string N, .string F, .string V] _ (fun _ s => (hB3.out.keep (hK11.out.trans s) id).range) Try.underlying45 rfl line5InfoG) ?_
            refine tk 8 rfl ?_
            refine tk 9 rfl ?_
            refine tk 10 rfl ?_
            refine tkL 11 rfl (yieldsIf_load_mid (by rfl) 45 (.tmp 48) rfl g (o + k * 4) rfl [.int .i64 q.head, .string Nq, .string Fq, .string Vq] _ (fun _ s => (hK11.out.trans s).rangeAt hrow.out id) Try.underlying45 rfl line5InfoG) ?_
            refine stepL 12 rfl (by kernel_rfl) (fun K hK => ?_)
            go_simp
            (refine (rLess_any h q.head N F V Nq Fq Vq _ _ hzx').mono ?_; rintro e wc ⟨rfl, kc⟩; have kc' := Lib.hid kc; clear kc)
            go_wp2_with fail
            refine hK.out _ _ ((hHeld.trans kc'.out)) (fun hHeld => ?_)
            clear hK K
            try simp only [Act.put, sA, sZ, sS]
            refine tk 13 rfl ?_
            refine wpAnyH_done (by kernel_rfl) (NoPanic.normal ?_) _
            have hK14 := Lib.hid (hK11.out.trans hHeld)
            have hO14 := Lib.hid (hO11.out.keep hHeld (fun _ _ f => f))
            clear hHeld
            have hfin := Lib.hid (show stK x ls (k + 1) = (oL ++ [(⟨h, N.data.toList, F.data.toList, V.data.toList⟩ : LineD)], true) by rw [hstep.out]; unfold stepR; simp [el.out, ex.out, ← hqd.out, ← hxe'.out])
            go_wp2_with fail
            refine ⟨⟨k + 1, q11, d11, by omega, by go_num, by simp [hfin.out], by rw [hfin.out], by rw [hfin.out]; exact hO14, hK14⟩, by simp [intOf]; omega⟩
    · obtain rfl : k = ls.length := by omega
      have hend := set_fold (x := x) hr.out
      have hst2 : stK x ls ls.length = ls.foldl (stepR x) ([], false) := by unfold stK; rw [List.take_length]
      rw [← hst2, hst'.out] at hend
      unfold endR at hend
      simp only at hend
      have hend' := Lib.hid hend
      clear hend hst2 hst' hlk hk
      skip
      cases pb with
      | true =>
        simp only [if_true] at hend'
        have hxx : setC ⟨h, N.data.toList, F.data.toList, V.data.toList⟩ ls = oL := by
          have e := hend'.out
          rw [hxe'.out] at e
          exact e.symm
        have hxx' := Lib.hid hxx
        clear hxx hend'
        by_cases h65 : 64 < oL.length
        · go_wp2_with fail
          go_ret2
          show RSetPost (setC ⟨h, N.data.toList, F.data.toList, V.data.toList⟩ ls) w _ _
          rw [hxx'.out]
          exact ⟨fun hh => absurd h65 (by first | omega | (simp at hh; omega)), fun _ => rfl, hK3.out.trans hK.out⟩
        · go_wp2_with fail
          go_ret2
          show RSetPost (setC ⟨h, N.data.toList, F.data.toList, V.data.toList⟩ ls) w _ _
          rw [hxx'.out]
          exact ⟨fun _ => ⟨qa, d, by simp, by have hh := hO.out.older (w0 := w) hK3.out.size; simpa using hh⟩, fun hh => absurd hh (by first | omega | (simp; omega)), hK3.out.trans hK.out⟩
      | false =>
        simp only [Bool.false_eq_true, if_false] at hend'
        have hsl' := Lib.hid hsl
        skip
        go_upto_region 14 with (first | ((with_reducible refine at_slot 62 ?_); refine wpList_load_mid rfl 45 (.tmp 3) rfl gb 0 rfl [.int .i64 h, .string N, .string F, .string V] _ (hB3.out.keep hK.out id).range Try.underlying45 rfl line5InfoG ?_) | ((with_reducible refine at_slot 64 ?_); go_must (refine wpList_append_r rfl (.tmp 61) (.tmp 63) 22 45 rfl i0 _ 56 Try.underlying22 hi0 hi1 hi2 hi3 rfl (by decide) (by decide) lineVals_len w3 _ oL.length oL rfl rfl (hO.out.keep ((Keeps.refl (fun _ => False) _).alloc _) (fun _ _ f => f)) _ rfl ⟨h, N.data.toList, F.data.toList, V.data.toList⟩ (cells_new rfl _ _) (lineVals_one _) (by have := hsl'.out; omega) ?_); intro qz dz wz hOz hgz))
        have hKz := Lib.hid (OwnR.keeps (hO.out.keep ((Keeps.refl (fun _ => False) _).alloc _) (fun _ _ f => f)) (hK.out.alloc _) hgz.out)
        clear hgz
        have hxx : setC ⟨h, N.data.toList, F.data.toList, V.data.toList⟩ ls = oL ++ [(⟨h, N.data.toList, F.data.toList, V.data.toList⟩ : LineD)] := by
          have e := hend'.out
          rw [hxe'.out] at e
          exact e.symm
        have hxx' := Lib.hid hxx
        clear hxx hend'
        by_cases h65 : 64 < oL.length + 1
        · go_wp2_with fail
          go_ret2
          show RSetPost (setC ⟨h, N.data.toList, F.data.toList, V.data.toList⟩ ls) w _ _
          rw [hxx'.out]
          exact ⟨fun hh => absurd h65 (by first | omega | (simp at hh; omega)), fun _ => rfl, hK3.out.trans hKz.out⟩
        · go_wp2_with fail
          go_ret2
          show RSetPost (setC ⟨h, N.data.toList, F.data.toList, V.data.toList⟩ ls) w _ _
          rw [hxx'.out]
          exact ⟨fun _ => ⟨qz, dz, by simp, by have hh := hOz.out.older (w0 := w) hK3.out.size; simpa using hh⟩, fun hh => absurd hh (by first | omega | (simp; omega)), hK3.out.trans hKz.out⟩
end Go.Proofs.Ythofplmjlfhloaa
