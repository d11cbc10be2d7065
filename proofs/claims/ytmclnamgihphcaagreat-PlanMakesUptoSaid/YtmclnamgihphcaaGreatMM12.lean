/- Rows of structs in memory, of whatever kind; rows of the call's own (the first part of PA, for seats without packets). -/
import Derived.Test.YtmclnamgihphcaaGreatMM11
import Derived.Test.YtmclnamgihphcaaGreatMM10
import Derived.Deep.DeepCutAuto
import Derived.OwnWalk
set_option linter.unusedVariables false
set_option linter.unusedSimpArgs false
namespace Go.Proofs.YtmclnamgihphcaaGreat
open Go.RowKit

/-- a slice of structs of sz cells reads as these -/
def RowsAt {α : Type} (sz : Nat) (cv : α → List Value) (w : World) (v : Value) (xs : List α) : Prop :=
  ∃ p c, v = .slice p xs.length c ∧ (p = none → c = 0) ∧ xs.length ≤ c ∧ (0 < xs.length → ∃ g o, p = some ⟨g, o, none⟩ ∧ ∀ i x, xs[i]? = some x → w.rangeAt g (o + i * sz) (cv x))
section
variable {α : Type} {sz : Nat} {cv : α → List Value}
theorem RowsAt.keepF {F : Nat → Prop} {w w' : World} {v : Value} {xs : List α} (h : RowsAt sz cv w v xs) (k : Keeps F w w') (hF : 0 < xs.length → ∀ i, v.ownBlock = some i → ¬ F i) : RowsAt sz cv w' v xs := by
  obtain ⟨p, c, rfl, hp, hc, h⟩ := h
  refine ⟨p, c, rfl, hp, hc, fun h0 => ?_⟩
  obtain ⟨g, o, rfl, hr⟩ := h h0
  exact ⟨g, o, rfl, fun i x hx => k.rangeAt (hr i x hx) (hF h0 g rfl)⟩
theorem RowsAt.keep {w w' : World} {v : Value} {xs : List α} (h : RowsAt sz cv w v xs) (k : Keeps (fun _ => False) w w') : RowsAt sz cv w' v xs := h.keepF k (fun _ _ _ f => f)
theorem RowsAt.nil (w : World) : RowsAt sz cv w (.slice none 0 0) ([] : List α) := ⟨none, 0, rfl, fun _ => rfl, Nat.le_refl _, fun h => by simp at h⟩
theorem RowsAt.slice {w : World} {v : Value} {xs : List α} (h : RowsAt sz cv w v xs) : ∃ p c, v = .slice p xs.length c := by
  obtain ⟨p, c, rfl, _⟩ := h; exact ⟨p, c, rfl⟩
theorem RowsAt.open {w : World} {p : Option Addr} {n c : Nat} {xs : List α} (h : RowsAt sz cv w (.slice p n c) xs) (h0 : 0 < xs.length) : ∃ g o, p = some ⟨g, o, none⟩ ∧ ∀ i x, xs[i]? = some x → w.rangeAt g (o + i * sz) (cv x) := by
  obtain ⟨p', c', e, -, -, hr⟩ := h
  injection e with e1 e2 e3
  subst e1
  exact hr h0
theorem RowsAt.len {w : World} {p : Option Addr} {n c : Nat} {xs : List α} (h : RowsAt sz cv w (.slice p n c) xs) : n = xs.length := by
  obtain ⟨p', c', e, _⟩ := h; injection e
theorem RowsAt.lt {w : World} {v : Value} {xs : List α} (h : RowsAt sz cv w v xs) (h0 : 0 < xs.length) (hcv : ∀ x, 0 < (cv x).length) : ∀ i, v.ownBlock = some i → i < w.heap.size := fun i e => by
  obtain ⟨p, c, rfl, -, -, hr⟩ := h
  obtain ⟨g, o, rfl, hra⟩ := hr h0
  simp only [Value.ownBlock, Option.some.injEq] at e
  subst e
  have := hra 0 xs[0] (List.getElem?_eq_getElem h0) 0 _ (List.getElem?_eq_getElem (hcv _))
  have := World.block_lt_of_cell? w _ this
  exact this

def rowCells (cv : α → List Value) (xs : List α) : List Value := xs.flatMap cv
theorem rowCells_len (hcv : ∀ x, (cv x).length = sz) (xs : List α) : (rowCells cv xs).length = xs.length * sz := by
  induction xs with
  | nil => simp [rowCells]
  | cons n ns ih => unfold rowCells at *; rw [List.flatMap_cons, List.length_append, ih, List.length_cons, hcv, Nat.add_mul]; omega
theorem rowCells_snoc (xs : List α) (x : α) : rowCells cv (xs ++ [x]) = rowCells cv xs ++ cv x := by unfold rowCells; simp
theorem rowCells_get (hcv : ∀ x, (cv x).length = sz) (xs : List α) : ∀ (i : Nat) (x : α), xs[i]? = some x → ∀ j, j < sz → (rowCells cv xs)[i * sz + j]? = (cv x)[j]? := by
  induction xs with
  | nil => intro i l h; simp at h
  | cons n ns ih =>
    intro i x h j hj
    have e : rowCells cv (n :: ns) = cv n ++ rowCells cv ns := by unfold rowCells; rw [List.flatMap_cons]
    rw [e, List.getElem?_append, hcv]
    cases i with
    | zero => simp at h; subst h; rw [if_pos (by omega)]; simp
    | succ i =>
      rw [if_neg (by rw [Nat.add_mul]; omega), ← ih i x (by simpa using h) j hj]; congr 1; rw [Nat.add_mul]; omega
/-- structs of the call's own -/
def OwnR (t : TypeId) (sz : Nat) (cv : α → List Value) (w0 w : World) (v : Value) (xs : List α) : Prop :=
  w.ownsRow 0 t sz v xs.length (rowCells cv xs) ∧ (∀ k, v.ownBlock = some k → w0.heap.size ≤ k) ∧ w0.heap.size ≤ w.heap.size
theorem OwnR.nil {t : TypeId} (w0 w : World) (h : w0.heap.size ≤ w.heap.size) : OwnR t sz cv w0 w (.slice none 0 0) ([] : List α) := ⟨⟨by simp [rowCells], .inl ⟨rfl, by simp [rowCells]⟩⟩, by simp [Value.ownBlock], h⟩
theorem OwnR.slice {t : TypeId} {w0 w : World} {v : Value} {xs : List α} (h : OwnR t sz cv w0 w v xs) : ∃ p c, v = .slice p xs.length c := ownsRow_slice h.1
theorem OwnR.keep {t : TypeId} {F : Nat → Prop} {w0 w w' : World} {v : Value} {xs : List α} (h : OwnR t sz cv w0 w v xs) (k : Keeps F w w') (hF : ∀ i, v.ownBlock = some i → ¬ F i) : OwnR t sz cv w0 w' v xs :=
  ⟨k.ownsRow h.1 hF, h.2.1, Nat.le_trans h.2.2 k.size⟩
theorem OwnR.older {t : TypeId} {w0 w1 w : World} {v : Value} {xs : List α} (h : OwnR t sz cv w1 w v xs) (hs : w0.heap.size ≤ w1.heap.size) : OwnR t sz cv w0 w v xs := ⟨h.1, fun k e => Nat.le_trans hs (h.2.1 k e), Nat.le_trans hs h.2.2⟩
theorem OwnR.at {t : TypeId} {w0 w : World} {v : Value} {xs : List α} (hcv : ∀ x, (cv x).length = sz) (h : OwnR t sz cv w0 w v xs) : RowsAt sz cv w v xs := by
  obtain ⟨p, c, rfl⟩ := h.slice
  rcases h.1.2 with ⟨e, h2⟩ | ⟨g, cap, cur, he, _, _, hle, _⟩
  · injection e with e1 e2 e3; subst e1; subst e3
    exact ⟨none, 0, rfl, fun _ => rfl, by omega, fun h0 => by omega⟩
  · injection he with e1 e2 e3
    subst e1; subst e3
    refine ⟨_, _, rfl, fun h => (by cases h), hle, fun h0 => ⟨g, 0, rfl, fun i l hl j u hu => ?_⟩⟩
    have hj : j < sz := by have := (List.getElem?_eq_some_iff.1 hu).1; rw [hcv] at this; exact this
    have := h.1.cells (g := g) rfl (i * sz + j) u (by rw [rowCells_get hcv xs i l hl j hj]; exact hu)
    rw [Addr.add_mid] at this
    rw [Nat.zero_add]; rw [Nat.zero_add] at this; exact this
/-- a struct behind structs of the call's own: one operation -/
theorem wp_append_r {P : Program} {w : World} {o : Oper} {a : Act} {K : Act → World → Prop} {Q : Exit → Act → World → Prop} (s x : Operand) (t e : TypeId)
    (ho : o.op = .call { callee := .builtin .append, args := #[s, x], argTypes := #[t, t] })
    (i : TypeInfo) (z : Value) (by_ : Nat) (ht : P.underlying t = some (.slice e)) (hi : P.info? e = some i) (hz : i.zero = some z) (hsize : i.size = sz) (hby : i.bytes = by_) (hzs : z.cells.size = sz) (hsz0 : 0 < sz) (hby1 : by_ ≤ 100000)
    (hcv : ∀ x, (cv x).length = sz) (w0 : World) (v : Value) (n : Nat) (xs : List α) (hn : xs.length = n) (hs : a.eval s = v) (hown : OwnR e sz cv w0 w v xs) (ad : Addr) (hx : a.eval x = .slice (some ad) 1 1) (l : α) (hl : ∀ j u, (cv l)[j]? = some u → w.cell? (ad.add j) = some u) (h1 : ∀ u ∈ cv l, u.oneCell' = true) (hsz : n ≤ 1000000000)
    (h : ∀ p c w', OwnR e sz cv w0 w' (.slice p (n + 1) c) (xs ++ [l]) → Grown w v p (n + 1) c w' → K (a.put o.dst (.slice p (n + 1) c)) w') : Oper.wp P o a w K Q := by
  subst hn
  have hb : (xs.length + 1) * by_ ≤ 1000000001 * 100000 := Nat.mul_le_mul (by omega) hby1
  obtain ⟨v', w', hr, h2, h3, h4⟩ := run_append_sep (P := P) w t o.type e i z sz by_ ht hi hz hsize hby hzs hsz0 v xs.length (rowCells cv xs) hown.1 ad 1 1 (cv l) (by rw [hcv]; omega) hl h1 (by unfold maxLen; omega) (by omega)
  obtain ⟨p, c, rfl⟩ := ownsRow_slice h2
  unfold Oper.wp execOp
  simp only [ho, resolve, invoke, builtin, Sem.run_bind, Sem.run_pure, Result.andThen_ok, List.map_toArray, List.map_cons, List.map_nil, hs, hx, hr]
  refine h p c w' ⟨by rw [rowCells_snoc]; simpa using h2, fun k e => ?_, Nat.le_trans hown.2.2 h3.size⟩ ⟨(Keeps.refl _ _).grown h3 (fun k e => .inl e), h4⟩
  rcases h4 k e with e | e
  · exact hown.2.1 k e
  · exact Nat.le_trans hown.2.2 e
theorem wpList_append_r {P : Program} {w : World} {ops : Array Oper} {rest : List Oper} {o : Oper} {a : Act} {Q : Exit → Act → World → Prop} (hgd : o.guard = none) (s x : Operand) (t e : TypeId)
    (ho : o.op = .call { callee := .builtin .append, args := #[s, x], argTypes := #[t, t] })
    (i : TypeInfo) (z : Value) (by_ : Nat) (ht : P.underlying t = some (.slice e)) (hi : P.info? e = some i) (hz : i.zero = some z) (hsize : i.size = sz) (hby : i.bytes = by_) (hzs : z.cells.size = sz) (hsz0 : 0 < sz) (hby1 : by_ ≤ 100000)
    (hcv : ∀ x, (cv x).length = sz) (w0 : World) (v : Value) (n : Nat) (xs : List α) (hn : xs.length = n) (hs : a.eval s = v) (hown : OwnR e sz cv w0 w v xs) (ad : Addr) (hx : a.eval x = .slice (some ad) 1 1) (l : α) (hl : ∀ j u, (cv l)[j]? = some u → w.cell? (ad.add j) = some u) (h1 : ∀ u ∈ cv l, u.oneCell' = true) (hsz : n ≤ 1000000000)
    (h : ∀ p c w', Hid (OwnR e sz cv w0 w' (.slice p (n + 1) c) (xs ++ [l])) → Hid (Grown w v p (n + 1) c w') → wpList P ops Q rest (a.put o.dst (.slice p (n + 1) c)) w') : wpList P ops Q (o :: rest) a w :=
  wpList_plain hgd fun _ hK => wp_append_r s x t e ho i z by_ ht hi hz hsize hby hzs hsz0 hby1 hcv w0 v n xs hn hs hown ad hx l hl h1 hsz (fun p c w' h1 h2 => hK _ _ (h p c w' (Lib.hid h1) (Lib.hid h2)))
end
theorem OwnR.keeps {α : Type} {t sz : Nat} {cv : α → List Value} {w0 W W' : World} {v : Value} {xs : List α} (h : OwnR t sz cv w0 W v xs) (k : Keeps (fun _ => False) w0 W) {p : Option Addr} {n c : Nat} (g : Grown W v p n c W') : Keeps (fun _ => False) w0 W' :=
  k.trans' g.k (fun i e => .inr (h.2.1 i e))

section
variable {α : Type} {sz : Nat} {cv : α → List Value}
/-- what a slice of rows is, cut -/
theorem RowsAt.take {w : World} {p : Option Addr} {n c : Nat} {xs : List α} (h : RowsAt sz cv w (.slice p n c) xs) (k : Nat) (hk : k ≤ xs.length) : RowsAt sz cv w (.slice p k c) (xs.take k) := by
  obtain ⟨p', c', e, hp, hc, hr⟩ := h
  injection e with e1 e2 e3
  subst e1; subst e3
  refine ⟨p, c, by rw [List.length_take, Nat.min_eq_left hk], hp, by rw [List.length_take]; omega, fun h0 => ?_⟩
  rw [List.length_take] at h0
  obtain ⟨g, o, rfl, hra⟩ := hr (by omega)
  refine ⟨g, o, rfl, fun i x hx => hra i x ?_⟩
  rw [List.getElem?_take] at hx
  split at hx
  · exact hx
  · cases hx
theorem RowsAt.drop {w : World} {g o n c : Nat} {xs : List α} (h : RowsAt sz cv w (.slice (some ⟨g, o, none⟩) n c) xs) (k : Nat) (hk : k ≤ xs.length) (c' : Nat) (hc' : xs.length - k ≤ c') : RowsAt sz cv w (.slice (some ⟨g, o + k * sz, none⟩) (xs.length - k) c') (xs.drop k) := by
  obtain ⟨p', c2, e, hp, hc, hr⟩ := h
  injection e with e1 e2 e3
  subst e1
  refine ⟨_, c', by rw [List.length_drop], fun h => (by cases h), by rw [List.length_drop]; exact hc', fun h0 => ⟨g, o + k * sz, rfl, fun i x hx => ?_⟩⟩
  rw [List.length_drop] at h0
  obtain ⟨g2, o2, e, hra⟩ := hr (by omega)
  injection e with e; injection e with e1 e2; subst e1; subst e2
  have := hra (k + i) x (by simpa [List.getElem?_drop] using hx)
  rw [Nat.add_mul, ← Nat.add_assoc] at this
  exact this
/-- a slice of rows from row k on, as the walk spells it -/
theorem RowsAt.from {w : World} {p : Option Addr} {n c : Nat} {xs : List α} (h : RowsAt sz cv w (.slice p n c) xs) (k : Nat) (hk : k ≤ xs.length) : RowsAt sz cv w (.slice (if c = k then p else Option.map (fun x => x.add (k * sz)) p) (xs.length - k) (c - k)) (xs.drop k) := by
  obtain ⟨p', c', e, hp, hc, hr⟩ := h
  injection e with e1 e2 e3
  subst e1; subst e3
  refine ⟨_, c - k, by rw [List.length_drop], fun h0 => ?_, by rw [List.length_drop]; omega, fun h0 => ?_⟩
  · split at h0
    · omega
    · cases p with
      | none => have := hp rfl; omega
      | some a => cases h0
  · rw [List.length_drop] at h0
    obtain ⟨g, o, rfl, hra⟩ := hr (by omega)
    refine ⟨g, o + k * sz, ?_, fun i x hx => ?_⟩
    · rw [if_neg (by omega), Option.map_some, Addr.add_mid]
    · have := hra (k + i) x (by simpa [List.getElem?_drop] using hx)
      rw [Nat.add_mul, ← Nat.add_assoc] at this
      exact this
theorem rowCells_app (xs ys : List α) : rowCells cv (xs ++ ys) = rowCells cv xs ++ rowCells cv ys := by unfold rowCells; simp
theorem rowCells_at {w : World} {v : Value} (hcv : ∀ x, (cv x).length = sz) (h0 : 0 < sz) {g o : Nat} (xs : List α) (hr : ∀ i x, xs[i]? = some x → w.rangeAt g (o + i * sz) (cv x)) : ∀ j u, (rowCells cv xs)[j]? = some u → w.cell? ⟨g, o + j, none⟩ = some u := by
  intro j u hu
  have hj : j < xs.length * sz := by rw [← rowCells_len hcv]; exact (List.getElem?_eq_some_iff.1 hu).1
  have hq : j / sz < xs.length := (Nat.div_lt_iff_lt_mul h0).2 hj
  have e : j = j / sz * sz + j % sz := by rw [Nat.mul_comm]; exact (Nat.div_add_mod j sz).symm
  have hm : j % sz < sz := Nat.mod_lt _ h0
  obtain ⟨x, hx⟩ : ∃ x, xs[j / sz]? = some x := ⟨_, List.getElem?_eq_getElem hq⟩
  rw [e, rowCells_get hcv xs _ x hx _ hm] at hu
  have := hr _ x hx (j % sz) u hu
  rw [Nat.add_assoc, ← e] at this
  exact this
/-- rows of whatever source behind rows of the call's own -/
theorem wp_append_rows {P : Program} {w : World} {o : Oper} {a : Act} {K : Act → World → Prop} {Q : Exit → Act → World → Prop} (s x : Operand) (t e : TypeId)
    (ho : o.op = .call { callee := .builtin .append, args := #[s, x], argTypes := #[t, t] })
    (i : TypeInfo) (z : Value) (by_ : Nat) (ht : P.underlying t = some (.slice e)) (hi : P.info? e = some i) (hz : i.zero = some z) (hsize : i.size = sz) (hby : i.bytes = by_) (hzs : z.cells.size = sz) (hsz0 : 0 < sz) (hby1 : by_ ≤ 100000)
    (hcv : ∀ x, (cv x).length = sz) (h1 : ∀ (x : α), ∀ u ∈ cv x, u.oneCell' = true) (w0 : World) (v : Value) (xs : List α) (hs : a.eval s = v) (hown : OwnR e sz cv w0 w v xs) (sv : Value) (hx : a.eval x = sv) (ys : List α) (hl : RowsAt sz cv w sv ys) (hsz : xs.length + ys.length ≤ 1000000000)
    (h : ∀ p c w', OwnR e sz cv w0 w' (.slice p (xs.length + ys.length) c) (xs ++ ys) → Grown w v p (xs.length + ys.length) c w' → K (a.put o.dst (.slice p (xs.length + ys.length) c)) w') : Oper.wp P o a w K Q := by
  obtain ⟨sp, sc, rfl, hp, -, hlr⟩ := hl
  have hb : (xs.length + ys.length) * by_ ≤ 1000000000 * 100000 := Nat.mul_le_mul hsz hby1
  have fin : ∀ {ad : Addr} {c2 : Nat}, a.eval x = .slice (some ad) ys.length c2 → (∀ j u, (rowCells cv ys)[j]? = some u → w.cell? (ad.add j) = some u) → Oper.wp P o a w K Q := by
    intro ad c2 hx hcl
    obtain ⟨v', w', hr, h2, h3, h4⟩ := run_append_sep (P := P) w t o.type e i z sz by_ ht hi hz hsize hby hzs hsz0 v xs.length (rowCells cv xs) hown.1 ad ys.length c2 (rowCells cv ys) (by rw [rowCells_len hcv]) hcl (fun u hu => by
      unfold rowCells at hu
      obtain ⟨y, _, hy⟩ := List.mem_flatMap.1 hu
      exact h1 y u hy) (by unfold maxLen; omega) (by omega)
    obtain ⟨p, c, rfl⟩ := ownsRow_slice h2
    unfold Oper.wp execOp
    simp only [ho, resolve, invoke, builtin, Sem.run_bind, Sem.run_pure, Result.andThen_ok, List.map_toArray, List.map_cons, List.map_nil, hs, hx, hr]
    refine h p c w' ⟨by rw [rowCells_app, List.length_append]; exact h2, fun k e => ?_, Nat.le_trans hown.2.2 h3.size⟩ ⟨(Keeps.refl _ _).grown h3 (fun k e => .inl e), h4⟩
    rcases h4 k e with e | e
    · exact hown.2.1 k e
    · exact Nat.le_trans hown.2.2 e
  cases sp with
  | none =>
    have h0 : ys.length = 0 := by
      rcases Nat.eq_zero_or_pos ys.length with h | h
      · exact h
      · obtain ⟨b, o, e, _⟩ := hlr h; cases e
    have hc := hp rfl
    subst hc
    have hl0 : ys = [] := List.length_eq_zero_iff.1 h0
    subst hl0
    obtain ⟨p, c, rfl⟩ := hown.slice
    have hrun := run_append_owned_none (P := P) (w := w) 0 t o.type e i sz ht hi (.slice p xs.length c) xs.length (rowCells cv xs) hown.1
    have hh := h p c w (by simpa using hown) ⟨Keeps.refl _ _, fun k e => .inl e⟩
    unfold Oper.wp
    simp [execOp, ho, resolve, invoke, builtin, hs, hx, hrun, Result.andThen]
    exact hh
  | some ad =>
    refine fin hx (fun j u hu => ?_)
    have h0 : 0 < ys.length := by
      have := (List.getElem?_eq_some_iff.1 hu).1
      rw [rowCells_len hcv] at this
      exact Nat.pos_of_ne_zero fun e => by rw [e] at this; omega
    obtain ⟨g, o2, e, hr⟩ := hlr h0
    injection e with e; subst e
    rw [Addr.add_mid]
    exact rowCells_at (v := .bool true) hcv hsz0 ys hr j u hu
end
end Go.Proofs.YtmclnamgihphcaaGreat
/- conf.Set, walked: where there is room, and where there isn't (gen_cfi.py). -/
set_option linter.unusedVariables false
set_option linter.unusedSimpArgs false
namespace Go.Proofs.YtmclnamgihphcaaGreat
open Go.RowKit

theorem lineVals_len (l : LineD) : (lineVals l).length = 4 := rfl
theorem lineVals_one (l : LineD) : ∀ u ∈ lineVals l, u.oneCell' = true := by
  intro u hu; simp [lineVals, strv] at hu; rcases hu with rfl | rfl | rfl | rfl <;> rfl
theorem RowsAt.lines {w : World} {v : Value} {ls : List LineD} (h : RowsAt 4 lineVals w v ls) : LinesAt w v ls := by
  obtain ⟨p, c, rfl, -, -, hr⟩ := h
  exact ⟨p, c, rfl, hr⟩
theorem lineAll : ∃ i, Tryz.prog.info? 62 = some i ∧ i.zero = some (.agg #[.int .i64 0, .string ⟨#[]⟩, .string ⟨#[]⟩, .string ⟨#[]⟩]) ∧ i.size = 4 ∧ i.bytes = 56 := by
  have h : (Tryz.prog.info? 62).map (fun i => (i.zero, i.size, i.bytes)) = some (some (.agg #[.int .i64 0, .string ⟨#[]⟩, .string ⟨#[]⟩, .string ⟨#[]⟩]), 4, 56) := by kernel_rfl
  obtain ⟨i, hi, e⟩ := Option.map_eq_some_iff.1 h
  injection e with e1 e; injection e with e2 e3
  exact ⟨i, hi, e1, e2, e3⟩
/-- make of rows of no length -/
theorem wp_make_r {α : Type} {sz : Nat} {cv : α → List Value} {P : Program} {w : World} {o : Oper} {a : Act} {K : Act → World → Prop} {Q : Exit → Act → World → Prop} (l c : Operand) (t : TypeId) (ho : o.op = .makeSlice t l c) (e : TypeId) (i : TypeInfo) (z : Value)
    (ht : P.underlying t = some (.slice e)) (hi : P.info? e = some i) (hz : i.zero = some z) (hsize : i.size = sz) (by_ : Nat) (hby : i.bytes = by_) (hby1 : by_ ≤ 100000) (n : Nat) (C : Int) (hC : C = (n : Int)) (hl : a.eval l = .int .i64 0) (hc : a.eval c = .int .i64 C) (hn : n ≤ 1000000000)
    (h : ∀ w', OwnR (α := α) e sz cv w w' (.slice (some ⟨w.heap.size, 0, none⟩) 0 n) [] → Keeps (fun _ => False) w w' → K (a.put o.dst (.slice (some ⟨w.heap.size, 0, none⟩) 0 n)) w') : Oper.wp P o a w K Q := by
  subst hC
  subst hby
  have hb : i.bytes * n ≤ 100000 * 1000000000 := Nat.mul_le_mul hby1 hn
  obtain ⟨w', hrun, r1, r2⟩ := run_make_own (P := P) w 0 t e i z sz ht hi hz hsize .i64 .i64 n (by omega) (by unfold maxLen; omega) (Nat.zero_le _)
  unfold Oper.wp
  simp [execOp, ho, hl, hc, hrun, Result.andThen]
  refine h w' ⟨by simpa [rowCells] using r1, fun k e => ?_, r2.size⟩ ((Keeps.refl _ _).grown r2 (fun k e => by cases e))
  simp only [Value.ownBlock, Option.some.injEq] at e
  omega
theorem wpList_append_rows {α : Type} {sz : Nat} {cv : α → List Value} {P : Program} {w : World} {ops : Array Oper} {rest : List Oper} {o : Oper} {a : Act} {Q : Exit → Act → World → Prop} (hgd : o.guard = none) (s x : Operand) (t e : TypeId)
    (ho : o.op = .call { callee := .builtin .append, args := #[s, x], argTypes := #[t, t] })
    (i : TypeInfo) (z : Value) (by_ : Nat) (ht : P.underlying t = some (.slice e)) (hi : P.info? e = some i) (hz : i.zero = some z) (hsize : i.size = sz) (hby : i.bytes = by_) (hzs : z.cells.size = sz) (hsz0 : 0 < sz) (hby1 : by_ ≤ 100000)
    (hcv : ∀ x, (cv x).length = sz) (h1 : ∀ (x : α), ∀ u ∈ cv x, u.oneCell' = true) (w0 : World) (v : Value) (xs : List α) (hs : a.eval s = v) (hown : OwnR e sz cv w0 w v xs) (sv : Value) (hx : a.eval x = sv) (ys : List α) (hl : RowsAt sz cv w sv ys) (hsz : xs.length + ys.length ≤ 1000000000)
    (h : ∀ p c w', Hid (OwnR e sz cv w0 w' (.slice p (xs.length + ys.length) c) (xs ++ ys)) → Hid (Grown w v p (xs.length + ys.length) c w') → wpList P ops Q rest (a.put o.dst (.slice p (xs.length + ys.length) c)) w') : wpList P ops Q (o :: rest) a w :=
  wpList_plain hgd fun _ hK => wp_append_rows s x t e ho i z by_ ht hi hz hsize hby hzs hsz0 hby1 hcv h1 w0 v xs hs hown sv hx ys hl hsz (fun p c w' h1 h2 => hK _ _ (h p c w' (Lib.hid h1) (Lib.hid h2)))

/-- lines of the call's own, and no error -/
def SetPost (ls : List LineD) (w : World) (e : Ending) (w' : World) : Prop :=
  ∃ p c, e = .returned (.tuple #[.slice p ls.length c, .int .i64 0]) ∧ OwnR 62 4 lineVals w w' (.slice p ls.length c) ls ∧ Keeps (fun _ => False) w w'
end Go.Proofs.YtmclnamgihphcaaGreat
/- The order of lines; what the document's Set makes, plain. -/
set_option linter.unusedVariables false
set_option linter.unusedSimpArgs false
namespace Go.Proofs.YtmclnamgihphcaaGreat
open Go.RowKit

theorem bl_asymm : ∀ {a b : List UInt8}, Op.bytesLess a b = true → Op.bytesLess b a = false
  | [], [], h => by simp [Op.bytesLess] at h
  | [], _ :: _, _ => rfl
  | _ :: _, [], h => by simp [Op.bytesLess] at h
  | a :: x, b :: y, h => by
    simp only [Op.bytesLess, Bool.or_eq_true, Bool.and_eq_true, decide_eq_true_eq, beq_iff_eq] at h
    simp only [Op.bytesLess, Bool.or_eq_false_iff, Bool.and_eq_false_iff, decide_eq_false_iff_not, beq_eq_false_iff_ne]
    rcases h with h | ⟨rfl, h⟩
    · have := UInt8.lt_iff_toNat_lt.1 h
      refine ⟨fun h2 => ?_, .inl fun e => ?_⟩
      · have := UInt8.lt_iff_toNat_lt.1 h2; omega
      · subst e; omega
    · exact ⟨fun h2 => by have := UInt8.lt_iff_toNat_lt.1 h2; omega, .inr (bl_asymm h)⟩
theorem bl_tri : ∀ {a b : List UInt8}, Op.bytesLess a b = false → Op.bytesLess b a = false → a = b
  | [], [], _, _ => rfl
  | [], _ :: _, h, _ => by simp [Op.bytesLess] at h
  | _ :: _, [], _, h => by simp [Op.bytesLess] at h
  | a :: x, b :: y, h, h2 => by
    simp only [Op.bytesLess, Bool.or_eq_false_iff, Bool.and_eq_false_iff, decide_eq_false_iff_not, beq_eq_false_iff_ne] at h h2
    have e : a = b := by
      apply UInt8.toNat_inj.mp
      have h3 : ¬ a.toNat < b.toNat := fun h' => h.1 (UInt8.lt_iff_toNat_lt.2 h')
      have h4 : ¬ b.toNat < a.toNat := fun h' => h2.1 (UInt8.lt_iff_toNat_lt.2 h')
      omega
    subst e
    have h3 : Op.bytesLess x y = false := by rcases h.2 with h | h; exact absurd rfl h; exact h
    have h4 : Op.bytesLess y x = false := by rcases h2.2 with h | h; exact absurd rfl h; exact h
    exact congrArg (a :: ·) (bl_tri h3 h4)
theorem bl_trans : ∀ {a b c : List UInt8}, Op.bytesLess a b = true → Op.bytesLess b c = true → Op.bytesLess a c = true
  | _, [], _, h, _ => by simp [Op.bytesLess] at h
  | _, _ :: _, [], _, h => by simp [Op.bytesLess] at h
  | [], _ :: _, _ :: _, _, _ => rfl
  | a :: x, b :: y, c :: z, h, h2 => by
    simp only [Op.bytesLess, Bool.or_eq_true, Bool.and_eq_true, decide_eq_true_eq, beq_iff_eq] at h h2 ⊢
    rcases h with h | ⟨rfl, h⟩
    · rcases h2 with h2 | ⟨rfl, h2⟩
      · left
        have := UInt8.lt_iff_toNat_lt.1 h; have := UInt8.lt_iff_toNat_lt.1 h2
        exact UInt8.lt_iff_toNat_lt.2 (by omega)
      · exact .inl h
    · rcases h2 with h2 | ⟨rfl, h2⟩
      · exact .inl h2
      · exact .inr ⟨rfl, bl_trans h h2⟩
/-- as a proposition -/
theorem lessB_iff (a b : LineD) : lessB a b = true ↔ a.head < b.head ∨ (a.head = b.head ∧ (Op.bytesLess a.name b.name = true ∨ (a.name = b.name ∧ Op.bytesLess a.leaf b.leaf = true))) := by
  unfold lessB
  by_cases h : a.head = b.head
  · rw [if_pos h]
    by_cases n : a.name = b.name
    · rw [if_pos n]
      have e : Op.bytesLess a.name b.name = false := by rw [n]; cases hb : Op.bytesLess b.name b.name with
        | false => rfl
        | true => have := bl_asymm hb; rw [hb] at this; cases this
      simp [h, n]
      intro e2
      rw [n] at e
      rw [e] at e2; cases e2
    · rw [if_neg n]; simp [h, n]
  · rw [if_neg h]; simp [h]
theorem bl_irr (a : List UInt8) : Op.bytesLess a a = false := by
  cases hb : Op.bytesLess a a with
  | false => rfl
  | true => have := bl_asymm hb; rw [hb] at this; cases this
theorem less_asymm {a b : LineD} (h : lessB a b = true) : lessB b a = false := by
  rw [← Bool.not_eq_true]
  rw [lessB_iff] at h ⊢
  rintro h2
  rcases h with h | ⟨h, h3⟩
  · rcases h2 with h2 | ⟨h2, _⟩ <;> omega
  · rcases h2 with h2 | ⟨_, h4⟩
    · omega
    · rcases h3 with h3 | ⟨e, h3⟩
      · rcases h4 with h4 | ⟨e, h4⟩
        · rw [bl_asymm h3] at h4; cases h4
        · rw [e, bl_irr] at h3; cases h3
      · rcases h4 with h4 | ⟨_, h4⟩
        · rw [e, bl_irr] at h4; cases h4
        · rw [bl_asymm h3] at h4; cases h4
theorem less_trans {a b c : LineD} (h : lessB a b = true) (h2 : lessB b c = true) : lessB a c = true := by
  rw [lessB_iff] at h h2 ⊢
  rcases h with h | ⟨h, h3⟩
  · rcases h2 with h2 | ⟨h2, _⟩ <;> (left; omega)
  · rcases h2 with h2 | ⟨h2, h4⟩
    · left; omega
    · right
      refine ⟨by omega, ?_⟩
      rcases h3 with h3 | ⟨e, h3⟩
      · rcases h4 with h4 | ⟨e, h4⟩
        · exact .inl (bl_trans h3 h4)
        · exact .inl (by rw [← e]; exact h3)
      · rcases h4 with h4 | ⟨e2, h4⟩
        · exact .inl (by rw [e]; exact h4)
        · exact .inr ⟨by rw [e, e2], bl_trans h3 h4⟩
/-- not ahead, and ahead of a third one -/
theorem le_trans_less {x q r : LineD} (h : lessB q x = false) (h2 : lessB q r = true) : lessB x r = true := by
  cases hx : lessB x q with
  | true => exact less_trans hx h2
  | false =>
    have e : x.head = q.head ∧ x.name = q.name ∧ x.leaf = q.leaf := by
      have a1 := (not_congr (lessB_iff q x)).1 (by rw [h]; exact Bool.false_ne_true)
      have a2 := (not_congr (lessB_iff x q)).1 (by rw [hx]; exact Bool.false_ne_true)
      have eh : x.head = q.head := by
        have : ¬ q.head < x.head := fun h' => a1 (.inl h')
        have : ¬ x.head < q.head := fun h' => a2 (.inl h')
        omega
      have en : x.name = q.name := bl_tri (Bool.eq_false_iff.2 fun h' => a2 (.inr ⟨eh, .inl h'⟩)) (Bool.eq_false_iff.2 fun h' => a1 (.inr ⟨eh.symm, .inl h'⟩))
      exact ⟨eh, en, bl_tri (Bool.eq_false_iff.2 fun h' => a2 (.inr ⟨eh, .inr ⟨en, h'⟩⟩)) (Bool.eq_false_iff.2 fun h' => a1 (.inr ⟨eh.symm, .inr ⟨en.symm, h'⟩⟩))⟩
    rw [lessB_iff] at h2 ⊢
    rw [e.1, e.2.1, e.2.2]; exact h2

/-- each one is ahead of the next -/
def rises : List LineD → Prop
  | [] => True
  | [_] => True
  | a :: b :: ls => lessB a b = true ∧ rises (b :: ls)
theorem rises_head {a : LineD} : ∀ {ls : List LineD}, rises (a :: ls) → ∀ q ∈ ls, lessB a q = true := by
  intro ls
  induction ls generalizing a with
  | nil => intro _ q hq; cases hq
  | cons b ls ih =>
    intro h q hq
    rcases List.mem_cons.1 hq with rfl | hq
    · exact h.1
    · exact less_trans h.1 (ih h.2 q hq)
theorem rises_tail {a : LineD} {ls : List LineD} (h : rises (a :: ls)) : rises ls := by
  cases ls with
  | nil => trivial
  | cons b ls => exact h.2
/-- a round of the document's Set -/
def stepR (x : LineD) (s : List LineD × Bool) (q : LineD) : List LineD × Bool :=
  let t := if (!s.2 && !lessB q x) = true then (s.1 ++ [x], true) else s
  if (lessB q x || lessB x q) = true then (t.1 ++ [q], t.2) else t
theorem stepR_ahead {x q : LineD} (out : List LineD) (h : lessB q x = true) : stepR x (out, false) q = (out ++ [q], false) := by
  simp [stepR, h]
theorem stepR_behind {x q : LineD} (out : List LineD) (h : lessB x q = true) : stepR x (out, true) q = (out ++ [q], true) := by
  simp [stepR, h]
theorem fold_behind {x : LineD} : ∀ (ls out : List LineD), (∀ q ∈ ls, lessB x q = true) → ls.foldl (stepR x) (out, true) = (out ++ ls, true) := by
  intro ls
  induction ls with
  | nil => intro out _; simp
  | cons q ls ih =>
    intro out h
    rw [List.foldl_cons, stepR_behind out (h q (List.mem_cons_self ..)), ih _ (fun r hr => h r (List.mem_cons_of_mem _ hr)), List.append_assoc]; rfl
def endR (x : LineD) (s : List LineD × Bool) : List LineD := if s.2 = true then s.1 else s.1 ++ [x]
theorem fold_set {x : LineD} : ∀ (ls out : List LineD), rises ls → endR x (ls.foldl (stepR x) (out, false)) = out ++ setC x ls := by
  intro ls
  induction ls with
  | nil => intro out _; rfl
  | cons q ls ih =>
    intro out h
    by_cases hq : lessB q x = true
    · rw [List.foldl_cons, stepR_ahead out hq, ih _ (rises_tail h), List.append_assoc]
      congr 1
      have hp : posL x (q :: ls) = posL x ls + 1 := by rw [posL, if_pos hq]
      have ht : thereB x (q :: ls) = thereB x ls := by unfold thereB; rw [hp]; simp
      unfold setC
      rw [hp, ht]
      split <;> simp [Nat.add_right_comm]
    · have hq' : lessB q x = false := by simpa using hq
      have hp : posL x (q :: ls) = 0 := by rw [posL, if_neg hq]
      have hb : ∀ r ∈ ls, lessB x r = true := fun r hr => le_trans_less hq' (rises_head h r hr)
      rw [List.foldl_cons]
      cases hx : lessB x q with
      | true =>
        have e : stepR x (out, false) q = (out ++ [x] ++ [q], true) := by simp [stepR, hq', hx]
        have ht : thereB x (q :: ls) = false := by unfold thereB; rw [hp]; simp [hx]
        rw [e, fold_behind _ _ hb]
        unfold setC endR
        rw [hp, ht]; simp
      | false =>
        have e : stepR x (out, false) q = (out ++ [x], true) := by simp [stepR, hq', hx]
        have ht : thereB x (q :: ls) = true := by unfold thereB; rw [hp]; simp [hx]
        rw [e, fold_behind _ _ hb]
        unfold setC endR
        rw [hp, ht]; simp
theorem riseB_pre {ls : List LineD} : ∀ {k : Nat}, riseB ls k = true → k ≤ ls.length → ∀ i a b, i + 1 < k → ls[i]? = some a → ls[i + 1]? = some b → lessB a b = true := by
  intro k
  induction k with
  | zero => intro _ _ i a b hi; omega
  | succ k ih =>
    intro h hk i a b hi ha hb
    rw [riseB, Bool.and_eq_true] at h
    by_cases e : i + 1 < k
    · exact ih h.1 (by omega) i a b e ha hb
    · obtain rfl : k = i + 1 := by omega
      have h2 := h.2
      rw [hb] at h2
      simp only [Bool.and_eq_true] at h2
      rw [ha] at h2
      exact h2.2
theorem rises_of : ∀ {ls : List LineD}, (∀ i a b, ls[i]? = some a → ls[i + 1]? = some b → lessB a b = true) → rises ls := by
  intro ls
  induction ls with
  | nil => intro _; trivial
  | cons a ls ih =>
    intro h
    cases ls with
    | nil => trivial
    | cons b ls => exact ⟨h 0 a b rfl rfl, ih (fun i c d hc hd => h (i + 1) c d (by simpa using hc) (by simpa using hd))⟩
theorem right_rises {ls : List LineD} (h : rightC ls = true) : rises ls := by
  unfold rightC at h
  rw [Bool.and_eq_true] at h
  refine rises_of fun i a b ha hb => riseB_pre h.2 (Nat.le_refl _) i a b ?_ ha hb
  have := (List.getElem?_eq_some_iff.1 hb).1
  omega
/-- the document's Set makes the same -/
theorem set_fold {x : LineD} {ls : List LineD} (h : rightC ls = true) : endR x (ls.foldl (stepR x) ([], false)) = setC x ls := by
  rw [fold_set ls [] (right_rises h)]; rfl
end Go.Proofs.YtmclnamgihphcaaGreat
