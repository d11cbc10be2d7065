/- Rows of structs in memory, of whatever kind; rows of the call's own (the first part of PA, for seats without packets). -/
import Derived.Test.YtialookpnoaogaaGreatAA01
import Derived.WalkLawsBesides
import Derived.Lib.Strings
import Derived.Test.YtialookpnoaogaaGreatAA02
import Derived.Lib.Bytealg
import Derived.Laws.Externs
import Derived.Deep.Draws
set_option linter.unusedVariables false
set_option linter.unusedSimpArgs false
namespace Go.Proofs.YtialookpnoaogaaGreat
open Go.RowKit

/-- a slice of structs of sz cells reads as these -/
def RowsAt {α : Type} (sz : Nat) (cv : α → List Value) (w : World) (v : Value) (xs : List α) : Prop :=
  ∃ p c, v = .slice p xs.length c ∧ (p = none → c = 0) ∧ xs.length ≤ c ∧ (0 < xs.length → ∃ g o, p = some ⟨g, o, none⟩ ∧ ∀ i x, xs[i]? = some x → w.rangeAt g (o + i * sz) (cv x))
section
variable {α : Type} {sz : Nat} {cv : α → List Value}
theorem RowsAt.keepF {F : Nat → Prop} {w w' : World} {v : Value} {xs : List α} (h : RowsAt sz cv w v xs) (k : Keeps F w w') (hF : 0 < xs.length → ∀ i, v.ownBlock = some i → ¬ F i) : RowsAt sz cv w' v xs := by
  obtain ⟨p, c, rfl, hp, hc, h⟩ := h
  refine ⟨p, c, rfl, hp, hc, fun h0 => ?_⟩
  obtain ⟨g, o, rfl, hr⟩ := h h0
  exact ⟨g, o, rfl, fun i x hx => k.rangeAt (hr i x hx) (hF h0 g rfl)⟩
theorem RowsAt.keep {w w' : World} {v : Value} {xs : List α} (h : RowsAt sz cv w v xs) (k : Keeps (fun _ => False) w w') : RowsAt sz cv w' v xs := h.keepF k (fun _ _ _ f => f)
theorem RowsAt.nil (w : World) : RowsAt sz cv w (.slice none 0 0) ([] : List α) := ⟨none, 0, rfl, fun _ => rfl, Nat.le_refl _, fun h => by simp at h⟩
theorem RowsAt.slice {w : World} {v : Value} {xs : List α} (h : RowsAt sz cv w v xs) : ∃ p c, v = .slice p xs.length c := by
  obtain ⟨p, c, rfl, _⟩ := h; exact ⟨p, c, rfl⟩
theorem RowsAt.open {w : World} {p : Option Addr} {n c : Nat} {xs : List α} (h : RowsAt sz cv w (.slice p n c) xs) (h0 : 0 < xs.length) : ∃ g o, p = some ⟨g, o, none⟩ ∧ ∀ i x, xs[i]? = some x → w.rangeAt g (o + i * sz) (cv x) := by
  obtain ⟨p', c', e, -, -, hr⟩ := h
  injection e with e1 e2 e3
  subst e1
  exact hr h0
theorem RowsAt.len {w : World} {p : Option Addr} {n c : Nat} {xs : List α} (h : RowsAt sz cv w (.slice p n c) xs) : n = xs.length := by
  obtain ⟨p', c', e, _⟩ := h; injection e
theorem RowsAt.lt {w : World} {v : Value} {xs : List α} (h : RowsAt sz cv w v xs) (h0 : 0 < xs.length) (hcv : ∀ x, 0 < (cv x).length) : ∀ i, v.ownBlock = some i → i < w.heap.size := fun i e => by
  obtain ⟨p, c, rfl, -, -, hr⟩ := h
  obtain ⟨g, o, rfl, hra⟩ := hr h0
  simp only [Value.ownBlock, Option.some.injEq] at e
  subst e
  have := hra 0 xs[0] (List.getElem?_eq_getElem h0) 0 _ (List.getElem?_eq_getElem (hcv _))
  have := World.block_lt_of_cell? w _ this
  exact this

def rowCells (cv : α → List Value) (xs : List α) : List Value := xs.flatMap cv
theorem rowCells_len (hcv : ∀ x, (cv x).length = sz) (xs : List α) : (rowCells cv xs).length = xs.length * sz := by
  induction xs with
  | nil => simp [rowCells]
  | cons n ns ih => unfold rowCells at *; rw [List.flatMap_cons, List.length_append, ih, List.length_cons, hcv, Nat.add_mul]; omega
theorem rowCells_snoc (xs : List α) (x : α) : rowCells cv (xs ++ [x]) = rowCells cv xs ++ cv x := by unfold rowCells; simp
theorem rowCells_get (hcv : ∀ x, (cv x).length = sz) (xs : List α) : ∀ (i : Nat) (x : α), xs[i]? = some x → ∀ j, j < sz → (rowCells cv xs)[i * sz + j]? = (cv x)[j]? := by
  induction xs with
  | nil => intro i l h; simp at h
  | cons n ns ih =>
    intro i x h j hj
    have e : rowCells cv (n :: ns) = cv n ++ rowCells cv ns := by unfold rowCells; rw [List.flatMap_cons]
    rw [e, List.getElem?_append, hcv]
    cases i with
    | zero => simp at h; subst h; rw [if_pos (by omega)]; simp
    | succ i =>
      rw [if_neg (by rw [Nat.add_mul]; omega), ← ih i x (by simpa using h) j hj]; congr 1; rw [Nat.add_mul]; omega
/-- structs of the call's own -/
def OwnR (t : TypeId) (sz : Nat) (cv : α → List Value) (w0 w : World) (v : Value) (xs : List α) : Prop :=
  w.ownsRow 0 t sz v xs.length (rowCells cv xs) ∧ (∀ k, v.ownBlock = some k → w0.heap.size ≤ k) ∧ w0.heap.size ≤ w.heap.size
theorem OwnR.nil {t : TypeId} (w0 w : World) (h : w0.heap.size ≤ w.heap.size) : OwnR t sz cv w0 w (.slice none 0 0) ([] : List α) := ⟨⟨by simp [rowCells], .inl ⟨rfl, by simp [rowCells]⟩⟩, by simp [Value.ownBlock], h⟩
theorem OwnR.slice {t : TypeId} {w0 w : World} {v : Value} {xs : List α} (h : OwnR t sz cv w0 w v xs) : ∃ p c, v = .slice p xs.length c := ownsRow_slice h.1
theorem OwnR.keep {t : TypeId} {F : Nat → Prop} {w0 w w' : World} {v : Value} {xs : List α} (h : OwnR t sz cv w0 w v xs) (k : Keeps F w w') (hF : ∀ i, v.ownBlock = some i → ¬ F i) : OwnR t sz cv w0 w' v xs :=
  ⟨k.ownsRow h.1 hF, h.2.1, Nat.le_trans h.2.2 k.size⟩
theorem OwnR.older {t : TypeId} {w0 w1 w : World} {v : Value} {xs : List α} (h : OwnR t sz cv w1 w v xs) (hs : w0.heap.size ≤ w1.heap.size) : OwnR t sz cv w0 w v xs := ⟨h.1, fun k e => Nat.le_trans hs (h.2.1 k e), Nat.le_trans hs h.2.2⟩
theorem OwnR.at {t : TypeId} {w0 w : World} {v : Value} {xs : List α} (hcv : ∀ x, (cv x).length = sz) (h : OwnR t sz cv w0 w v xs) : RowsAt sz cv w v xs := by
  obtain ⟨p, c, rfl⟩ := h.slice
  rcases h.1.2 with ⟨e, h2⟩ | ⟨g, cap, cur, he, _, _, hle, _⟩
  · injection e with e1 e2 e3; subst e1; subst e3
    exact ⟨none, 0, rfl, fun _ => rfl, by omega, fun h0 => by omega⟩
  · injection he with e1 e2 e3
    subst e1; subst e3
    refine ⟨_, _, rfl, fun h => (by cases h), hle, fun h0 => ⟨g, 0, rfl, fun i l hl j u hu => ?_⟩⟩
    have hj : j < sz := by have := (List.getElem?_eq_some_iff.1 hu).1; rw [hcv] at this; exact this
    have := h.1.cells (g := g) rfl (i * sz + j) u (by rw [rowCells_get hcv xs i l hl j hj]; exact hu)
    rw [Addr.add_mid] at this
    rw [Nat.zero_add]; rw [Nat.zero_add] at this; exact this
/-- a struct behind structs of the call's own: one operation -/
theorem wp_append_r {P : Program} {w : World} {o : Oper} {a : Act} {K : Act → World → Prop} {Q : Exit → Act → World → Prop} (s x : Operand) (t e : TypeId)
    (ho : o.op = .call { callee := .builtin .append, args := #[s, x], argTypes := #[t, t] })
    (i : TypeInfo) (z : Value) (by_ : Nat) (ht : P.underlying t = some (.slice e)) (hi : P.info? e = some i) (hz : i.zero = some z) (hsize : i.size = sz) (hby : i.bytes = by_) (hzs : z.cells.size = sz) (hsz0 : 0 < sz) (hby1 : by_ ≤ 100000)
    (hcv : ∀ x, (cv x).length = sz) (w0 : World) (v : Value) (n : Nat) (xs : List α) (hn : xs.length = n) (hs : a.eval s = v) (hown : OwnR e sz cv w0 w v xs) (ad : Addr) (hx : a.eval x = .slice (some ad) 1 1) (l : α) (hl : ∀ j u, (cv l)[j]? = some u → w.cell? (ad.add j) = some u) (h1 : ∀ u ∈ cv l, u.oneCell' = true) (hsz : n ≤ 1000000000)
    (h : ∀ p c w', OwnR e sz cv w0 w' (.slice p (n + 1) c) (xs ++ [l]) → Grown w v p (n + 1) c w' → K (a.put o.dst (.slice p (n + 1) c)) w') : Oper.wp P o a w K Q := by
  subst hn
  have hb : (xs.length + 1) * by_ ≤ 1000000001 * 100000 := Nat.mul_le_mul (by omega) hby1
  obtain ⟨v', w', hr, h2, h3, h4⟩ := run_append_sep (P := P) w t o.type e i z sz by_ ht hi hz hsize hby hzs hsz0 v xs.length (rowCells cv xs) hown.1 ad 1 1 (cv l) (by rw [hcv]; omega) hl h1 (by unfold maxLen; omega) (by omega)
  obtain ⟨p, c, rfl⟩ := ownsRow_slice h2
  unfold Oper.wp execOp
  simp only [ho, resolve, invoke, builtin, Sem.run_bind, Sem.run_pure, Result.andThen_ok, List.map_toArray, List.map_cons, List.map_nil, hs, hx, hr]
  refine h p c w' ⟨by rw [rowCells_snoc]; simpa using h2, fun k e => ?_, Nat.le_trans hown.2.2 h3.size⟩ ⟨(Keeps.refl _ _).grown h3 (fun k e => .inl e), h4⟩
  rcases h4 k e with e | e
  · exact hown.2.1 k e
  · exact Nat.le_trans hown.2.2 e
theorem wpList_append_r {P : Program} {w : World} {ops : Array Oper} {rest : List Oper} {o : Oper} {a : Act} {Q : Exit → Act → World → Prop} (hgd : o.guard = none) (s x : Operand) (t e : TypeId)
    (ho : o.op = .call { callee := .builtin .append, args := #[s, x], argTypes := #[t, t] })
    (i : TypeInfo) (z : Value) (by_ : Nat) (ht : P.underlying t = some (.slice e)) (hi : P.info? e = some i) (hz : i.zero = some z) (hsize : i.size = sz) (hby : i.bytes = by_) (hzs : z.cells.size = sz) (hsz0 : 0 < sz) (hby1 : by_ ≤ 100000)
    (hcv : ∀ x, (cv x).length = sz) (w0 : World) (v : Value) (n : Nat) (xs : List α) (hn : xs.length = n) (hs : a.eval s = v) (hown : OwnR e sz cv w0 w v xs) (ad : Addr) (hx : a.eval x = .slice (some ad) 1 1) (l : α) (hl : ∀ j u, (cv l)[j]? = some u → w.cell? (ad.add j) = some u) (h1 : ∀ u ∈ cv l, u.oneCell' = true) (hsz : n ≤ 1000000000)
    (h : ∀ p c w', Hid (OwnR e sz cv w0 w' (.slice p (n + 1) c) (xs ++ [l])) → Hid (Grown w v p (n + 1) c w') → wpList P ops Q rest (a.put o.dst (.slice p (n + 1) c)) w') : wpList P ops Q (o :: rest) a w :=
  wpList_plain hgd fun _ hK => wp_append_r s x t e ho i z by_ ht hi hz hsize hby hzs hsz0 hby1 hcv w0 v n xs hn hs hown ad hx l hl h1 hsz (fun p c w' h1 h2 => hK _ _ (h p c w' (Lib.hid h1) (Lib.hid h2)))
end
theorem OwnR.keeps {α : Type} {t sz : Nat} {cv : α → List Value} {w0 W W' : World} {v : Value} {xs : List α} (h : OwnR t sz cv w0 W v xs) (k : Keeps (fun _ => False) w0 W) {p : Option Addr} {n c : Nat} (g : Grown W v p n c W') : Keeps (fun _ => False) w0 W' :=
  k.trans' g.k (fun i e => .inr (h.2.1 i e))

section
variable {α : Type} {sz : Nat} {cv : α → List Value}
/-- what a slice of rows is, cut -/
theorem RowsAt.take {w : World} {p : Option Addr} {n c : Nat} {xs : List α} (h : RowsAt sz cv w (.slice p n c) xs) (k : Nat) (hk : k ≤ xs.length) : RowsAt sz cv w (.slice p k c) (xs.take k) := by
  obtain ⟨p', c', e, hp, hc, hr⟩ := h
  injection e with e1 e2 e3
  subst e1; subst e3
  refine ⟨p, c, by rw [List.length_take, Nat.min_eq_left hk], hp, by rw [List.length_take]; omega, fun h0 => ?_⟩
  rw [List.length_take] at h0
  obtain ⟨g, o, rfl, hra⟩ := hr (by omega)
  refine ⟨g, o, rfl, fun i x hx => hra i x ?_⟩
  rw [List.getElem?_take] at hx
  split at hx
  · exact hx
  · cases hx
theorem RowsAt.drop {w : World} {g o n c : Nat} {xs : List α} (h : RowsAt sz cv w (.slice (some ⟨g, o, none⟩) n c) xs) (k : Nat) (hk : k ≤ xs.length) (c' : Nat) (hc' : xs.length - k ≤ c') : RowsAt sz cv w (.slice (some ⟨g, o + k * sz, none⟩) (xs.length - k) c') (xs.drop k) := by
  obtain ⟨p', c2, e, hp, hc, hr⟩ := h
  injection e with e1 e2 e3
  subst e1
  refine ⟨_, c', by rw [List.length_drop], fun h => (by cases h), by rw [List.length_drop]; exact hc', fun h0 => ⟨g, o + k * sz, rfl, fun i x hx => ?_⟩⟩
  rw [List.length_drop] at h0
  obtain ⟨g2, o2, e, hra⟩ := hr (by omega)
  injection e with e; injection e with e1 e2; subst e1; subst e2
  have := hra (k + i) x (by simpa [List.getElem?_drop] using hx)
  rw [Nat.add_mul, ← Nat.add_assoc] at this
  exact this
/-- a slice of rows from row k on, as the walk spells it -/
theorem RowsAt.from {w : World} {p : Option Addr} {n c : Nat} {xs : List α} (h : RowsAt sz cv w (.slice p n c) xs) (k : Nat) (hk : k ≤ xs.length) : RowsAt sz cv w (.slice (if c = k then p else Option.map (fun x => x.add (k * sz)) p) (xs.length - k) (c - k)) (xs.drop k) := by
  obtain ⟨p', c', e, hp, hc, hr⟩ := h
  injection e with e1 e2 e3
  subst e1; subst e3
  refine ⟨_, c - k, by rw [List.length_drop], fun h0 => ?_, by rw [List.length_drop]; omega, fun h0 => ?_⟩
  · split at h0
    · omega
    · cases p with
      | none => have := hp rfl; omega
      | some a => cases h0
  · rw [List.length_drop] at h0
    obtain ⟨g, o, rfl, hra⟩ := hr (by omega)
    refine ⟨g, o + k * sz, ?_, fun i x hx => ?_⟩
    · rw [if_neg (by omega), Option.map_some, Addr.add_mid]
    · have := hra (k + i) x (by simpa [List.getElem?_drop] using hx)
      rw [Nat.add_mul, ← Nat.add_assoc] at this
      exact this
theorem rowCells_app (xs ys : List α) : rowCells cv (xs ++ ys) = rowCells cv xs ++ rowCells cv ys := by unfold rowCells; simp
theorem rowCells_at {w : World} {v : Value} (hcv : ∀ x, (cv x).length = sz) (h0 : 0 < sz) {g o : Nat} (xs : List α) (hr : ∀ i x, xs[i]? = some x → w.rangeAt g (o + i * sz) (cv x)) : ∀ j u, (rowCells cv xs)[j]? = some u → w.cell? ⟨g, o + j, none⟩ = some u := by
  intro j u hu
  have hj : j < xs.length * sz := by rw [← rowCells_len hcv]; exact (List.getElem?_eq_some_iff.1 hu).1
  have hq : j / sz < xs.length := (Nat.div_lt_iff_lt_mul h0).2 hj
  have e : j = j / sz * sz + j % sz := by rw [Nat.mul_comm]; exact (Nat.div_add_mod j sz).symm
  have hm : j % sz < sz := Nat.mod_lt _ h0
  obtain ⟨x, hx⟩ : ∃ x, xs[j / sz]? = some x := ⟨_, List.getElem?_eq_getElem hq⟩
  rw [e, rowCells_get hcv xs _ x hx _ hm] at hu
  have := hr _ x hx (j % sz) u hu
  rw [Nat.add_assoc, ← e] at this
  exact this
/-- rows of whatever source behind rows of the call's own -/
theorem wp_append_rows {P : Program} {w : World} {o : Oper} {a : Act} {K : Act → World → Prop} {Q : Exit → Act → World → Prop} (s x : Operand) (t e : TypeId)
    (ho : o.op = .call { callee := .builtin .append, args := #[s, x], argTypes := #[t, t] })
    (i : TypeInfo) (z : Value) (by_ : Nat) (ht : P.underlying t = some (.slice e)) (hi : P.info? e = some i) (hz : i.zero = some z) (hsize : i.size = sz) (hby : i.bytes = by_) (hzs : z.cells.size = sz) (hsz0 : 0 < sz) (hby1 : by_ ≤ 100000)
    (hcv : ∀ x, (cv x).length = sz) (h1 : ∀ (x : α), ∀ u ∈ cv x, u.oneCell' = true) (w0 : World) (v : Value) (xs : List α) (hs : a.eval s = v) (hown : OwnR e sz cv w0 w v xs) (sv : Value) (hx : a.eval x = sv) (ys : List α) (hl : RowsAt sz cv w sv ys) (hsz : xs.length + ys.length ≤ 1000000000)
    (h : ∀ p c w', OwnR e sz cv w0 w' (.slice p (xs.length + ys.length) c) (xs ++ ys) → Grown w v p (xs.length + ys.length) c w' → K (a.put o.dst (.slice p (xs.length + ys.length) c)) w') : Oper.wp P o a w K Q := by
  obtain ⟨sp, sc, rfl, hp, -, hlr⟩ := hl
  have hb : (xs.length + ys.length) * by_ ≤ 1000000000 * 100000 := Nat.mul_le_mul hsz hby1
  have fin : ∀ {ad : Addr} {c2 : Nat}, a.eval x = .slice (some ad) ys.length c2 → (∀ j u, (rowCells cv ys)[j]? = some u → w.cell? (ad.add j) = some u) → Oper.wp P o a w K Q := by
    intro ad c2 hx hcl
    obtain ⟨v', w', hr, h2, h3, h4⟩ := run_append_sep (P := P) w t o.type e i z sz by_ ht hi hz hsize hby hzs hsz0 v xs.length (rowCells cv xs) hown.1 ad ys.length c2 (rowCells cv ys) (by rw [rowCells_len hcv]) hcl (fun u hu => by
      unfold rowCells at hu
      obtain ⟨y, _, hy⟩ := List.mem_flatMap.1 hu
      exact h1 y u hy) (by unfold maxLen; omega) (by omega)
    obtain ⟨p, c, rfl⟩ := ownsRow_slice h2
    unfold Oper.wp execOp
    simp only [ho, resolve, invoke, builtin, Sem.run_bind, Sem.run_pure, Result.andThen_ok, List.map_toArray, List.map_cons, List.map_nil, hs, hx, hr]
    refine h p c w' ⟨by rw [rowCells_app, List.length_append]; exact h2, fun k e => ?_, Nat.le_trans hown.2.2 h3.size⟩ ⟨(Keeps.refl _ _).grown h3 (fun k e => .inl e), h4⟩
    rcases h4 k e with e | e
    · exact hown.2.1 k e
    · exact Nat.le_trans hown.2.2 e
  cases sp with
  | none =>
    have h0 : ys.length = 0 := by
      rcases Nat.eq_zero_or_pos ys.length with h | h
      · exact h
      · obtain ⟨b, o, e, _⟩ := hlr h; cases e
    have hc := hp rfl
    subst hc
    have hl0 : ys = [] := List.length_eq_zero_iff.1 h0
    subst hl0
    obtain ⟨p, c, rfl⟩ := hown.slice
    have hrun := run_append_owned_none (P := P) (w := w) 0 t o.type e i sz ht hi (.slice p xs.length c) xs.length (rowCells cv xs) hown.1
    have hh := h p c w (by simpa using hown) ⟨Keeps.refl _ _, fun k e => .inl e⟩
    unfold Oper.wp
    simp [execOp, ho, resolve, invoke, builtin, hs, hx, hrun, Result.andThen]
    exact hh
  | some ad =>
    refine fin hx (fun j u hu => ?_)
    have h0 : 0 < ys.length := by
      have := (List.getElem?_eq_some_iff.1 hu).1
      rw [rowCells_len hcv] at this
      exact Nat.pos_of_ne_zero fun e => by rw [e] at this; omega
    obtain ⟨g, o2, e, hr⟩ := hlr h0
    injection e with e; subst e
    rw [Addr.add_mid]
    exact rowCells_at (v := .bool true) hcv hsz0 ys hr j u hu
end
end Go.Proofs.YtialookpnoaogaaGreat
/- Words of a text, as plain lists of bytes. -/
namespace Go.Proofs.YtialookpnoaogaaGreat

def blankB (c : UInt8) : Bool := c == 32 || c == 9 || c == 10
def signB (c : UInt8) : Bool := c == 123 || c == 125 || c == 59
def wordB (c : UInt8) : Bool := (97 ≤ c && c ≤ 122) || (65 ≤ c && c ≤ 90) || (48 ≤ c && c ≤ 57) || c == 46 || c == 47 || c == 45 || c == 95
/-- how many bytes of a word stand ahead -/
def wlen (l : List UInt8) : Nat := (l.takeWhile wordB).length
/-- how many bytes stand ahead of a line's end -/
def clen (l : List UInt8) : Nat := (l.takeWhile (fun c => c != 10)).length

theorem wlen_le (l : List UInt8) : wlen l ≤ l.length := (List.takeWhile_sublist _).length_le
theorem clen_le (l : List UInt8) : clen l ≤ l.length := (List.takeWhile_sublist _).length_le

/-- words, or how many bytes are left at the first that can't stand there -/
inductive LexR where
  | ok (l : List (List UInt8))
  | bad (rest : Nat)
def LexR.app (xs : List (List UInt8)) : LexR → LexR
  | .ok l => .ok (xs ++ l)
  | .bad n => .bad n
theorem LexR.app_nil (r : LexR) : r.app [] = r := by cases r <;> rfl
theorem LexR.app_app (xs ys : List (List UInt8)) (r : LexR) : (r.app ys).app xs = r.app (xs ++ ys) := by cases r <;> simp [LexR.app]

def lexL : List UInt8 → LexR
  | [] => .ok []
  | c :: r =>
    if blankB c then lexL r
    else if c = 35 then lexL (r.drop (clen r))
    else if signB c then (lexL r).app [[c]]
    else if h : 1 ≤ wlen (c :: r) ∧ wlen (c :: r) ≤ 31 then (lexL ((c :: r).drop (wlen (c :: r)))).app [(c :: r).take (wlen (c :: r))]
    else .bad (r.length + 1)
termination_by l => l.length
decreasing_by
  all_goals simp
  all_goals omega

theorem lexL_nil : lexL [] = .ok [] := by rw [lexL]
theorem lexL_blank {c : UInt8} {r : List UInt8} (h : blankB c = true) : lexL (c :: r) = lexL r := by rw [lexL, if_pos h]
theorem lexL_hash {r : List UInt8} : lexL (35 :: r) = lexL (r.drop (clen r)) := by rw [lexL, if_neg (by decide), if_pos rfl]
theorem lexL_sign {c : UInt8} {r : List UInt8} (h : signB c = true) : lexL (c :: r) = (lexL r).app [[c]] := by
  have e : c = 123 ∨ c = 125 ∨ c = 59 := by simpa [signB, or_assoc] using h
  rw [lexL, if_neg (by rcases e with rfl | rfl | rfl <;> decide), if_neg (by rcases e with rfl | rfl | rfl <;> decide), if_pos h]
theorem lexL_word {c : UInt8} {r : List UInt8} (h1 : blankB c = false) (h2 : c ≠ 35) (h3 : signB c = false) (h : 1 ≤ wlen (c :: r)) (h' : wlen (c :: r) ≤ 31) :
    lexL (c :: r) = (lexL ((c :: r).drop (wlen (c :: r)))).app [(c :: r).take (wlen (c :: r))] := by
  rw [lexL, if_neg (by simp [h1]), if_neg h2, if_neg (by simp [h3]), dif_pos ⟨h, h'⟩]
theorem lexL_bad {c : UInt8} {r : List UInt8} (h1 : blankB c = false) (h2 : c ≠ 35) (h3 : signB c = false) (h : ¬ (1 ≤ wlen (c :: r) ∧ wlen (c :: r) ≤ 31)) :
    lexL (c :: r) = .bad (r.length + 1) := by
  rw [lexL, if_neg (by simp [h1]), if_neg h2, if_neg (by simp [h3]), dif_neg h]

theorem wordB_kind {c : UInt8} (h : wordB c = true) : blankB c = false ∧ c ≠ 35 ∧ signB c = false := by
  have key : ∀ n : Nat, n < 256 → wordB (UInt8.ofNat n) = true → blankB (UInt8.ofNat n) = false ∧ UInt8.ofNat n ≠ 35 ∧ signB (UInt8.ofNat n) = false := by decide +kernel
  have := key c.toNat c.toNat_lt
  rw [UInt8.ofNat_toNat] at this
  exact this h
theorem wlen_cons {c : UInt8} {r : List UInt8} (h : wordB c = true) : wlen (c :: r) = wlen r + 1 := by unfold wlen; rw [List.takeWhile_cons, if_pos h]; rfl
theorem wlen_cons_no {c : UInt8} {r : List UInt8} (h : wordB c = false) : wlen (c :: r) = 0 := by unfold wlen; rw [List.takeWhile_cons, if_neg (by simp [h])]; rfl
theorem clen_cons {c : UInt8} {r : List UInt8} (h : c ≠ 10) : clen (c :: r) = clen r + 1 := by unfold clen; rw [List.takeWhile_cons, if_pos (by simpa using h)]; rfl
theorem clen_cons_no {r : List UInt8} : clen (10 :: r) = 0 := by unfold clen; rw [List.takeWhile_cons, if_neg (by simp)]; rfl

/-- what lex.Words answers -/
def lexWords (t : List UInt8) : List (List UInt8) × Nat × Nat :=
  match lexL t with
  | .ok l => (l, t.length, 0)
  | .bad n => ([], t.length - n, 3)
/-- what lex.IsWord answers -/
def isWordB (s : List UInt8) : Bool := decide (1 ≤ s.length ∧ s.length ≤ 31) && s.all wordB

theorem all_of_wlen {s : List UInt8} (h : wlen s = s.length) : s.all wordB = true := by
  induction s with
  | nil => rfl
  | cons c r ih =>
    by_cases hc : wordB c = true
    · rw [wlen_cons hc] at h; simp at h; simp [hc, ih h]
    · rw [wlen_cons_no (by simpa using hc)] at h; simp at h
theorem wlen_of_all {s : List UInt8} (h : s.all wordB = true) (r : List UInt8) : wlen (s ++ r) = s.length + wlen r := by
  induction s with
  | nil => simp
  | cons c s ih =>
    simp only [List.all_cons, Bool.and_eq_true] at h
    rw [List.cons_append, wlen_cons h.1, ih h.2]; simp; omega
theorem isWord_iff {s : List UInt8} : isWordB s = decide (1 ≤ s.length ∧ s.length ≤ 31 ∧ wlen s = s.length) := by
  unfold isWordB
  rw [Bool.eq_iff_iff]
  simp only [Bool.and_eq_true, decide_eq_true_eq]
  constructor
  · rintro ⟨⟨h1, h2⟩, h3⟩
    have := wlen_of_all h3 []
    simp [wlen] at this
    exact ⟨h1, h2, by unfold wlen; simpa using this⟩
  · rintro ⟨h1, h2, h3⟩
    exact ⟨⟨h1, h2⟩, all_of_wlen h3⟩

/-- the bytes of words together -/
def total (l : List (List UInt8)) : Nat := (l.map List.length).sum
theorem lexL_total : ∀ (n : Nat) (t : List UInt8), t.length ≤ n → ∀ l, lexL t = .ok l → total l ≤ t.length ∧ ∀ w ∈ l, (isWordB w = true ∨ ∃ c, w = [c] ∧ signB c = true) := by
  intro n
  induction n with
  | zero =>
    intro t ht l hl
    have : t = [] := List.eq_nil_of_length_eq_zero (by omega)
    subst this
    rw [lexL_nil] at hl
    injection hl with hl; subst hl
    simp [total]
  | succ n ih =>
    intro t ht l hl
    cases t with
    | nil =>
      rw [lexL_nil] at hl
      injection hl with hl; subst hl
      simp [total]
    | cons c r =>
      simp only [List.length_cons] at ht
      by_cases hb : blankB c = true
      · rw [lexL_blank hb] at hl
        have := ih r (by omega) l hl
        simp only [List.length_cons]
        exact ⟨by omega, this.2⟩
      have hb' : blankB c = false := by simpa using hb
      by_cases hc : c = 35
      · subst hc
        rw [lexL_hash] at hl
        have := ih _ (by simp; omega) l hl
        simp only [List.length_drop] at this
        simp only [List.length_cons]
        exact ⟨by omega, this.2⟩
      by_cases hs : signB c = true
      · rw [lexL_sign hs] at hl
        cases hr : lexL r with
        | bad m => rw [hr] at hl; simp [LexR.app] at hl
        | ok l' =>
          rw [hr] at hl
          simp only [LexR.app, LexR.ok.injEq] at hl
          subst hl
          have := ih r (by omega) l' hr
          simp only [List.length_cons, List.singleton_append, total, List.map_cons, List.sum_cons, List.length_nil] at *
          refine ⟨by omega, fun w hw => ?_⟩
          rcases List.mem_cons.1 hw with rfl | hw
          · exact .inr ⟨c, rfl, hs⟩
          · exact this.2 w hw
      have hs' : signB c = false := by simpa using hs
      by_cases hw : 1 ≤ wlen (c :: r) ∧ wlen (c :: r) ≤ 31
      · rw [lexL_word hb' hc hs' hw.1 hw.2] at hl
        have hle := wlen_le (c :: r)
        cases hr : lexL ((c :: r).drop (wlen (c :: r))) with
        | bad m => rw [hr] at hl; simp [LexR.app] at hl
        | ok l' =>
          rw [hr] at hl
          simp only [LexR.app, LexR.ok.injEq] at hl
          have := ih _ (by simp only [List.length_drop, List.length_cons]; omega) l' hr
          have htk : ((c :: r).take (wlen (c :: r))).length = wlen (c :: r) := by rw [List.length_take]; omega
          subst hl
          simp only [List.length_drop] at this
          simp only [List.singleton_append, total, List.map_cons, List.sum_cons] at *
          refine ⟨by omega, fun w hw2 => ?_⟩
          rcases List.mem_cons.1 hw2 with rfl | hw2
          · left
            have e : (c :: r).take (wlen (c :: r)) = (c :: r).takeWhile wordB := by
              exact (List.prefix_iff_eq_take.1 (List.takeWhile_prefix _)).symm
            unfold isWordB
            rw [htk]
            simp only [Bool.and_eq_true, decide_eq_true_eq]
            refine ⟨hw, ?_⟩
            rw [e]
            exact List.all_takeWhile
          · exact this.2 w hw2
      · rw [lexL_bad hb' hc hs' hw] at hl
        cases hl

theorem lexL_isWord {s : List UInt8} (h : isWordB s = true) (r : List UInt8) (hr : wlen r = 0) : lexL (s ++ r) = (lexL r).app [s] := by
  have h' := h
  rw [isWord_iff, decide_eq_true_eq] at h'
  unfold isWordB at h
  simp only [Bool.and_eq_true] at h
  have hw := wlen_of_all h.2 r
  cases s with
  | nil => simp at h'
  | cons c s =>
    have hc : wordB c = true := by have := h.2; simp only [List.all_cons, Bool.and_eq_true] at this; exact this.1
    obtain ⟨k1, k2, k3⟩ := wordB_kind hc
    rw [hr, Nat.add_zero] at hw
    rw [List.cons_append] at hw ⊢
    rw [lexL_word k1 k2 k3 (by rw [hw]; exact h'.1) (by rw [hw]; exact h'.2.1), hw, ← List.cons_append]
    rw [List.drop_left, List.take_left]
theorem lexL_one {s : List UInt8} : (lexL s = .ok [s] ∧ ∀ c, s = [c] → signB c = false) ↔ isWordB s = true := by
  constructor
  · rintro ⟨h, hn⟩
    have := (lexL_total s.length s (Nat.le_refl _) _ h).2 s (by simp)
    rcases this with h1 | ⟨c, rfl, h2⟩
    · exact h1
    · rw [hn c rfl] at h2; cases h2
  · intro h
    refine ⟨?_, ?_⟩
    · have := lexL_isWord h [] rfl
      rw [List.append_nil, lexL_nil] at this
      exact this
    · rintro c rfl
      unfold isWordB at h
      simp only [Bool.and_eq_true, List.all_cons] at h
      exact (wordB_kind h.2.1).2.2

/-- words with a blank ahead of each -/
def spaced (l : List (List UInt8)) : List UInt8 := (l.map fun w => 32 :: w).flatten
theorem spaced_cons (w : List UInt8) (l : List (List UInt8)) : spaced (w :: l) = 32 :: (w ++ spaced l) := by simp [spaced]
theorem spaced_snoc (l : List (List UInt8)) (w : List UInt8) : spaced (l ++ [w]) = spaced l ++ 32 :: w := by simp [spaced]
theorem wlen_spaced (l : List (List UInt8)) : wlen (spaced l) = 0 := by
  cases l with
  | nil => rfl
  | cons w l => rw [spaced_cons]; exact wlen_cons_no (by decide)
theorem lexL_spaced (l : List (List UInt8)) (h : ∀ w ∈ l, isWordB w = true ∨ ∃ c, w = [c] ∧ signB c = true) : lexL (spaced l) = .ok l := by
  induction l with
  | nil => exact lexL_nil
  | cons w l ih =>
    have ih := ih (fun x hx => h x (List.mem_cons_of_mem _ hx))
    rw [spaced_cons, lexL_blank (by decide)]
    rcases h w (by simp) with h1 | ⟨c, rfl, h2⟩
    · rw [lexL_isWord h1 _ (wlen_spaced l), ih]; rfl
    · rw [List.singleton_append, lexL_sign h2, ih]; rfl

/-- the document's row of bytes that may stand in a word -/
def wordRow : List UInt8 := "abcdefghijklmnopqrstuvwxyzABCDEFGHIJKLMNOPQRSTUVWXYZ0123456789./-_".toUTF8.data.toList
theorem wordRow_has (c : UInt8) : wordRow.contains c = wordB c := by
  have key : ∀ n : Nat, n < 256 → wordRow.contains (UInt8.ofNat n) = wordB (UInt8.ofNat n) := by decide +kernel
  have := key c.toNat c.toNat_lt
  rwa [UInt8.ofNat_toNat] at this
end Go.Proofs.YtialookpnoaogaaGreat
/- lex: the small functions, and Words, as the code has them. -/
namespace Go.Proofs.YtialookpnoaogaaGreat
open Go.RowKit

theorem u8_eq (c : UInt8) (n : Nat) (hn : n < 256) : (c == UInt8.ofNat n) = decide (c.toNat = n) := by
  rw [Bool.eq_iff_iff]
  simp only [beq_iff_eq, decide_eq_true_eq]
  constructor
  · rintro rfl; simp; omega
  · rintro rfl; simp
theorem blank_dec (c : UInt8) : blankB c = decide (c.toNat = 32 ∨ c.toNat = 9 ∨ c.toNat = 10) := by
  unfold blankB
  rw [show (32 : UInt8) = UInt8.ofNat 32 from rfl, show (9 : UInt8) = UInt8.ofNat 9 from rfl, show (10 : UInt8) = UInt8.ofNat 10 from rfl, u8_eq _ _ (by omega), u8_eq _ _ (by omega), u8_eq _ _ (by omega)]
  simp [Bool.or_assoc]
theorem sign_dec (c : UInt8) : signB c = decide (c.toNat = 123 ∨ c.toNat = 125 ∨ c.toNat = 59) := by
  unfold signB
  rw [show (123 : UInt8) = UInt8.ofNat 123 from rfl, show (125 : UInt8) = UInt8.ofNat 125 from rfl, show (59 : UInt8) = UInt8.ofNat 59 from rfl, u8_eq _ _ (by omega), u8_eq _ _ (by omega), u8_eq _ _ (by omega)]
  simp [Bool.or_assoc]
theorem word_dec (c : UInt8) : wordB c = decide ((97 ≤ c.toNat ∧ c.toNat ≤ 122) ∨ (65 ≤ c.toNat ∧ c.toNat ≤ 90) ∨ (48 ≤ c.toNat ∧ c.toNat ≤ 57) ∨ c.toNat = 46 ∨ c.toNat = 47 ∨ c.toNat = 45 ∨ c.toNat = 95) := by
  have key : ∀ n : Nat, n < 256 → wordB (UInt8.ofNat n) = decide ((97 ≤ (UInt8.ofNat n).toNat ∧ (UInt8.ofNat n).toNat ≤ 122) ∨ (65 ≤ (UInt8.ofNat n).toNat ∧ (UInt8.ofNat n).toNat ≤ 90) ∨ (48 ≤ (UInt8.ofNat n).toNat ∧ (UInt8.ofNat n).toNat ≤ 57) ∨ (UInt8.ofNat n).toNat = 46 ∨ (UInt8.ofNat n).toNat = 47 ∨ (UInt8.ofNat n).toNat = 45 ∨ (UInt8.ofNat n).toNat = 95) := by decide +kernel
  have := key c.toNat c.toNat_lt
  rwa [UInt8.ofNat_toNat] at this

theorem fits_any (n : Int) (w : World) (h0 : 0 ≤ n) :
    Calls Tryz.prog 146 #[.int .i64 n] w fun e w' => e = .returned (.bool (decide (1 ≤ n ∧ n ≤ 31))) ∧ w = w' := by
  by_cases h1 : 1 ≤ n
  · by_cases h2 : n ≤ 31
    · have hr : decide (1 ≤ n ∧ n ≤ 31) = true := by simp; omega
      rw [hr]; clear hr
      go_enter Tryz.func146, Tryz.ntmps146
      go_wp2
      go_ret
      exact ⟨rfl, rfl⟩
    · have hr : decide (1 ≤ n ∧ n ≤ 31) = false := by simp; omega
      rw [hr]; clear hr
      go_enter Tryz.func146, Tryz.ntmps146
      go_wp2
      go_ret
      exact ⟨rfl, rfl⟩
  · obtain rfl : n = 0 := by omega
    go_enter Tryz.func146, Tryz.ntmps146
    go_wp2
    go_ret
    exact ⟨rfl, rfl⟩

def wordN (c : Nat) : Bool := decide ((97 ≤ c ∧ c ≤ 122) ∨ (65 ≤ c ∧ c ≤ 90) ∨ (48 ≤ c ∧ c ≤ 57) ∨ c = 46 ∨ c = 47 ∨ c = 45 ∨ c = 95)
theorem isOfWord_any (c : Nat) (w : World) (hc : c < 256) :
    Calls Tryz.prog 152 #[.int .u8 c] w fun e w' => e = .returned (.bool (wordN c)) ∧ w = w' := by
  rcases (show (97 ≤ c ∧ c ≤ 122) ∨ (65 ≤ c ∧ c ≤ 90) ∨ (48 ≤ c ∧ c ≤ 57) ∨ (c < 48 ∨ (57 < c ∧ c < 65) ∨ (90 < c ∧ c < 97) ∨ 122 < c) by omega) with ⟨h1, h2⟩ | ⟨h1, h2⟩ | ⟨h1, h2⟩ | h
  · have hr : wordN c = true := by unfold wordN; simp; omega
    rw [hr]; clear hr
    go_enter Tryz.func152, Tryz.ntmps152
    go_wp2
    go_ret
    exact ⟨rfl, rfl⟩
  · have hr : wordN c = true := by unfold wordN; simp; omega
    rw [hr]; clear hr
    go_enter Tryz.func152, Tryz.ntmps152
    go_wp2
    go_ret
    exact ⟨rfl, rfl⟩
  · have hr : wordN c = true := by unfold wordN; simp; omega
    rw [hr]; clear hr
    go_enter Tryz.func152, Tryz.ntmps152
    go_wp2
    go_ret
    exact ⟨rfl, rfl⟩
  · have hw : wordN c = decide (c = 46 ∨ c = 47 ∨ c = 45 ∨ c = 95) := by unfold wordN; rw [decide_eq_decide]; omega
    rw [hw]; clear hw
    rcases (show c = 46 ∨ c = 47 ∨ c = 45 ∨ c = 95 ∨ (c ≠ 46 ∧ c ≠ 47 ∧ c ≠ 45 ∧ c ≠ 95) by omega) with rfl | rfl | rfl | rfl | ⟨k1, k2, k3, k4⟩
    any_goals
      clear h
      go_enter Tryz.func152, Tryz.ntmps152
      go_wp2
      go_ret
      exact ⟨rfl, rfl⟩
    have d1 : ((c : Int) == 46) = false := by rw [beq_eq_false_iff_ne]; omega
    have d2 : ((c : Int) == 47) = false := by rw [beq_eq_false_iff_ne]; omega
    have d3 : ((c : Int) == 45) = false := by rw [beq_eq_false_iff_ne]; omega
    have d4 : ((c : Int) == 95) = false := by rw [beq_eq_false_iff_ne]; omega
    have hr : decide (c = 46 ∨ c = 47 ∨ c = 45 ∨ c = 95) = false := by simp; omega
    rw [hr]; clear hr k1 k2 k3 k4
    rcases h with h | ⟨h1, h2⟩ | ⟨h1, h2⟩ | h
    all_goals
      go_enter Tryz.func152, Tryz.ntmps152
      go_wp2
      go_ret
      exact ⟨rfl, rfl⟩

theorem wordN_eq (c : UInt8) : wordN c.toNat = wordB c := by rw [word_dec]; rfl
theorem isOfWord_r (c : UInt8) (r : Bool) (w : World) (hr : Hid (wordB c = r)) :
    Calls Tryz.prog 152 #[.int .u8 (c.toNat : Nat)] w fun e w' => e = .returned (.bool r) ∧ w = w' :=
  (isOfWord_any c.toNat w c.toNat_lt).mono fun e w' ⟨he, hw⟩ => ⟨by rw [he, wordN_eq, hr.out], hw⟩
theorem drop_at (s : ByteArray) (j : Nat) (h : j < s.size) : s.data.toList.drop j = s[j] :: s.data.toList.drop (j + 1) := by
  have hl : j < s.data.toList.length := by simpa using h
  rw [List.drop_eq_getElem_cons hl, Array.getElem_toList]; rfl
theorem drop_end (s : ByteArray) : s.data.toList.drop s.size = [] := List.drop_of_length_le (by simp)

theorem ret_nat {k : IntKind} {a b : Nat} (h : a = b) : Ending.returned (.int k (a : Int)) = .returned (.int k (b : Int)) := by rw [h]
/-- the place behind the word that begins at k -/
theorem wordEnd_any (s : ByteArray) (k r : Nat) (w : World) (hr : Hid (k + wlen (s.data.toList.drop k) = r)) (hs : s.size ≤ 9223372036854775807) (hk : k ≤ s.size) :
    Calls Tryz.prog 147 #[.string s, .int .i64 k] w fun e w' => e = .returned (.int .i64 (r : Nat)) ∧ w = w' := by
  go_enter Tryz.func147, Tryz.ntmps147
  go_wp2
  go_loop [1] (fun i => ∃ j : Nat, k ≤ j ∧ j ≤ s.size ∧ i = .int .i64 j ∧ Hid (j + wlen (s.data.toList.drop j) = r)) (fun i => s.size - (intOf i).toNat)
  case atStart => exact ⟨k, by omega, hk, rfl, hr⟩
  case round =>
    obtain ⟨j, hj1, hj2, rfl, hrel⟩ := hrel
    by_cases hlt : j < s.size
    · have hd := drop_at s j hlt
      by_cases hw : wordB s[j] = true
      · have hrel' : Hid (j + 1 + wlen (s.data.toList.drop (j + 1)) = r) := by
          have := hrel.out
          rw [hd, wlen_cons hw] at this
          exact Lib.hid (by omega)
        clear hrel hd
        have hN := Lib.hid hw; clear hw
        go_wp2_with (go_at_call 152; refine (isOfWord_r _ true _ hN).mono ?_; rintro e w' ⟨rfl, rfl⟩)
        go_round
        case rel => exact ⟨j + 1, by omega, by omega, by go_num, hrel'⟩
        case measure => simp [intOf]; omega
      · have hrel' : Hid (j = r) := by
          have := hrel.out
          rw [hd, wlen_cons_no (by simpa using hw)] at this
          exact Lib.hid (by omega)
        clear hrel hd
        have hN := Lib.hid (show wordB s[j] = false by simpa using hw); clear hw
        go_wp2_with (go_at_call 152; refine (isOfWord_r _ false _ hN).mono ?_; rintro e w' ⟨rfl, rfl⟩)
        go_ret
        exact ⟨ret_nat hrel'.out, rfl⟩
    · have hrel' : Hid (j = r) := by
        have := hrel.out
        obtain rfl : j = s.size := by omega
        rw [drop_end] at this
        exact Lib.hid (by simpa [wlen] using this)
      clear hrel
      go_wp2
      go_ret
      exact ⟨ret_nat hrel'.out, rfl⟩

end Go.Proofs.YtialookpnoaogaaGreat
/- lex.Words, walked. -/
namespace Go.Proofs.YtialookpnoaogaaGreat
open Go.RowKit

def strv (l : List UInt8) : Value := .string ⟨l.toArray⟩
theorem strv_one (xs : List (List UInt8)) : ∀ v ∈ xs.map strv, v.oneCell' = true := by
  intro v hv; obtain ⟨x, _, rfl⟩ := List.mem_map.1 hv; rfl
theorem strInfoAll : (Tryz.prog.info? 9).map (fun i => (i.zero, i.size, i.bytes)) = some (some (.string ⟨#[]⟩), 1, 16) := by kernel_rfl
theorem extract_strv (s : ByteArray) (a b : Nat) : Value.string (s.extract a b) = strv ((s.data.toList.drop a).take (b - a)) := by
  unfold strv; rw [Lib.extract_eq]

/-- a row of texts of the call's own: no older block is part of it -/
def OwnStrs (w0 w : World) (v : Value) (xs : List (List UInt8)) : Prop :=
  w.ownsRow 0 9 1 v xs.length (xs.map strv) ∧ ∀ k, v.ownBlock = some k → w0.heap.size ≤ k
theorem OwnStrs.nil (w0 w : World) : OwnStrs w0 w (.slice none 0 0) [] := ⟨⟨rfl, .inl ⟨rfl, rfl⟩⟩, by simp [Value.ownBlock]⟩
theorem OwnStrs.slice {w0 w : World} {v : Value} {xs : List (List UInt8)} (h : OwnStrs w0 w v xs) : ∃ p c, v = .slice p xs.length c := ownsRow_slice h.1
/-- what an append to it leaves -/
theorem OwnStrs.push {w0 wr wb w1 : World} {v : Value} {xs : List (List UInt8)} (h : OwnStrs w0 wr v xs) (x : List UInt8) {p : Option Addr} {c : Nat} (hk : Keeps (fun _ => False) w0 wb)
    (ho : wb.grownBy w1 v.ownBlock) (h2 : w1.ownsRow 0 9 1 (.slice p (xs.length + 1) c) (xs.length + 1) (xs.map strv ++ [strv x]))
    (hs : ∀ k, (Value.slice p (xs.length + 1) c).ownBlock = some k → v.ownBlock = some k ∨ wb.heap.size ≤ k) :
    OwnStrs w0 w1 (.slice p (xs.length + 1) c) (xs ++ [x]) ∧ Keeps (fun _ => False) w0 w1 := by
  refine ⟨⟨by simpa using h2, fun k e => ?_⟩, hk.grown ho (fun k e => .inr (h.2 k e))⟩
  rcases hs k e with e | e
  · exact h.2 k e
  · have := hk.size; omega

/-- what Words answers -/
def WordsPost (t : List UInt8) (w0 : World) (e : Ending) (w' : World) : Prop :=
  ∃ p c, e = .returned (.tuple #[.slice p (lexWords t).1.length c, .int .i64 ((lexWords t).2.1 : Nat), .int .i64 ((lexWords t).2.2 : Nat)]) ∧ OwnStrs w0 w' (.slice p (lexWords t).1.length c) (lexWords t).1 ∧ Keeps (fun _ => False) w0 w'

theorem WordsPost.good {t : List UInt8} {l : List (List UInt8)} (h : lexL t = .ok l) {n : Nat} (hn : n = t.length) {w0 w' : World} {v : Value} (ho : OwnStrs w0 w' v l) (hk : Keeps (fun _ => False) w0 w') :
    WordsPost t w0 (.returned (.tuple #[v, .int .i64 (n : Nat), .int .i64 0])) w' := by
  obtain ⟨p, c, rfl⟩ := ho.slice
  have e : lexWords t = (l, t.length, 0) := by unfold lexWords; rw [h]
  refine ⟨p, c, ?_, ?_, hk⟩
  · rw [e]; simp [hn]
  · rw [e]; exact ho
theorem WordsPost.bad {t : List UInt8} {m : Nat} (h : lexL t = .bad m) {n : Nat} (hn : n = t.length - m) {w0 w' : World} (hk : Keeps (fun _ => False) w0 w') :
    WordsPost t w0 (.returned (.tuple #[.slice none 0 0, .int .i64 (n : Nat), .int .i64 3])) w' := by
  have e : lexWords t = ([], t.length - m, 3) := by unfold lexWords; rw [h]
  refine ⟨none, 0, ?_, ?_, hk⟩
  · rw [e]; simp [hn]
  · rw [e]; exact OwnStrs.nil _ _

theorem fits_r (n : Int) (r : Bool) (w : World) (h0 : 0 ≤ n) (hr : Hid (decide (1 ≤ n ∧ n ≤ 31) = r)) :
    Calls Tryz.prog 146 #[.int .i64 n] w fun e w' => e = .returned (.bool r) ∧ w = w' :=
  (fits_any n w h0).mono fun e w' ⟨he, hw⟩ => ⟨by rw [he, hr.out], hw⟩
theorem lexL_hash' {c : UInt8} {r : List UInt8} (h : c = 35) : lexL (c :: r) = lexL (r.drop (clen r)) := by subst h; exact lexL_hash
end Go.Proofs.YtialookpnoaogaaGreat
/- Of adv: an interface's numbers, as it is set and as it stands. -/
set_option linter.unusedVariables false
set_option linter.unusedSimpArgs false
namespace Go.Proofs.YtialookpnoaogaaGreat
open Go.RowKit

theorem setInfo : (Tryz.prog.info? 45).map (·.size) = some 10 := by kernel_rfl
structure SetD where
  area : Nat
  addr : Nat
  mask : Nat
  cost : Nat
  hello : Nat
  dead : Nat
  again : Nat
  prio : Nat
  two : Bool
  auth : List UInt8
def setVals (s : SetD) : List Value := [.int .u32 s.area, .int .u32 s.addr, .int .u32 s.mask, .int .i64 s.cost, .int .i64 s.hello, .int .i64 s.dead, .int .i64 s.again, .int .i64 s.prio, .bool s.two, strv s.auth]
end Go.Proofs.YtialookpnoaogaaGreat
/- strings.Index, Contains, Cut at a separator of one byte. -/
namespace Go.Proofs.YtialookpnoaogaaGreat
open Go.RowKit

/-- how many bytes stand ahead of the first c -/
def before (c : UInt8) (l : List UInt8) : Nat := (l.takeWhile (fun x => x != c)).length
theorem before_le (c : UInt8) (l : List UInt8) : before c l ≤ l.length := (List.takeWhile_sublist _).length_le
theorem before_lt {c : UInt8} {l : List UInt8} (h : c ∈ l) : before c l < l.length := by
  induction l with
  | nil => cases h
  | cons b l ih =>
    unfold before
    rw [List.takeWhile_cons]
    by_cases e : b = c
    · subst e; simp
    · rw [if_pos (by simpa using e)]
      have := ih (by rcases List.mem_cons.1 h with h | h; exact (e h.symm).elim; exact h)
      unfold before at this
      simp; omega
theorem indexByte_eq (l : List UInt8) (c : UInt8) : Lib.indexByte l c = if c ∈ l then ((before c l : Nat) : Int) else -1 := by
  induction l with
  | nil => simp [Lib.indexByte]
  | cons b l ih =>
    unfold Lib.indexByte
    by_cases h : b = c
    · subst h; simp [before]
    · have h1 : (b == c) = false := by simpa using h
      rw [h1, ih]
      have hb : before c (b :: l) = before c l + 1 := by unfold before; rw [List.takeWhile_cons, if_pos (by simpa using h)]; rfl
      by_cases hm : c ∈ l
      · have : c ∈ b :: l := by simp [hm]
        rw [if_pos hm, if_pos this, hb]
        have : (((before c l : Nat) : Int) == -1) = false := by rw [beq_eq_false_iff_ne]; omega
        simp [this]
      · have : ¬ c ∈ b :: l := by simp [hm, Ne.symm h]
        rw [if_neg hm, if_neg this]; simp

set_option maxRecDepth 100000 in
theorem sliteIndexByte_any (s : ByteArray) (c : UInt8) (w : World) :
    Calls Tryz.prog 141 #[.string s, .int .u8 (c.toNat : Nat)] w fun e w' => e = .returned (.int .i64 (Lib.indexByte s.data.toList c)) ∧ w = w' := by
  have hc : ((c.toNat : Nat) : Int).toNat.toUInt8 = c := by simp
  have hc' := Lib.hid hc; clear hc
  go_enter Tryz.func141, Tryz.ntmps141
  go_wp2
  rw [run_callFunc_extern Tryz.func150 (by kernel_rfl) (by kernel_rfl) (by kernel_rfl) (e := Extern.BytealgIndexByte.indexByte) (by kernel_rfl), Lib.run_indexByteString, hc'.out]
  simp only [Result.andThen]
  rw [Oper.upon_value]
  go_wp2
  go_ret
  exact ⟨rfl, rfl⟩

set_option maxRecDepth 100000 in
set_option maxHeartbeats 1000000 in
theorem sliteIndex_one (s : ByteArray) (c : UInt8) (r : Int) (w : World) (hr : Hid (Lib.indexByte s.data.toList c = r)) :
    Calls Tryz.prog 131 #[.string s, .string ⟨#[c]⟩] w fun e w' => e = .returned (.int .i64 r) ∧ w = w' := by
  go_enter Tryz.func131, Tryz.ntmps131
  go_wp2_with (go_at_call 141; refine (sliteIndexByte_any s c _).mono ?_; rintro e w' ⟨rfl, rfl⟩)
  · have h : ([c] == s.toList) = true := by assumption
    have e : s.data.toList = [c] := by rw [← Lib.toList_data]; exact (beq_iff_eq.1 h).symm
    have hr0 : (0 : Int) = r := by rw [← hr.out, e]; simp [Lib.indexByte]
    go_ret
    exact ⟨ret_int hr0, rfl⟩
  · go_ret
    exact ⟨ret_int hr.out, rfl⟩
theorem stringsIndex_one (s : ByteArray) (c : UInt8) (r : Int) (w : World) (hr : Hid (Lib.indexByte s.data.toList c = r)) :
    Calls Tryz.prog 148 #[.string s, .string ⟨#[c]⟩] w fun e w' => e = .returned (.int .i64 r) ∧ w = w' := by
  go_enter Tryz.func148, Tryz.ntmps148
  go_wp2_with (go_at_call 131; refine (sliteIndex_one s c r _ hr).mono ?_; rintro e w' ⟨rfl, rfl⟩)
  go_ret
  exact ⟨rfl, rfl⟩
theorem stringsContains_one (s : ByteArray) (c : UInt8) (w : World) (b : Bool) (hb : Hid (decide (c ∈ s.data.toList) = b)) :
    Calls Tryz.prog 135 #[.string s, .string ⟨#[c]⟩] w fun e w' => e = .returned (.bool b) ∧ w = w' := by
  have he := indexByte_eq s.data.toList c
  cases b with
  | true =>
    have hm : c ∈ s.data.toList := by simpa using hb.out
    rw [if_pos hm] at he
    have he' := Lib.hid he; clear he hm hb
    go_enter Tryz.func135, Tryz.ntmps135
    go_wp2_with (go_at_call 148; refine (stringsIndex_one s c _ _ he').mono ?_; rintro e w' ⟨rfl, rfl⟩)
    go_ret
    exact ⟨rfl, rfl⟩
  | false =>
    have hm : ¬ c ∈ s.data.toList := by simpa using hb.out
    rw [if_neg hm] at he
    have he' := Lib.hid he; clear he hm hb
    go_enter Tryz.func135, Tryz.ntmps135
    go_wp2_with (go_at_call 148; refine (stringsIndex_one s c _ _ he').mono ?_; rintro e w' ⟨rfl, rfl⟩)
    go_ret
    exact ⟨rfl, rfl⟩
set_option maxRecDepth 100000 in
theorem sliteCut_no (s : ByteArray) (c : UInt8) (w : World) (hm : Hid (c ∉ s.data.toList)) :
    Calls Tryz.prog 106 #[.string s, .string ⟨#[c]⟩] w fun e w' => e = .returned (.tuple #[.string s, .string ⟨#[]⟩, .bool false]) ∧ w = w' := by
  have he := indexByte_eq s.data.toList c
  rw [if_neg hm.out] at he
  have he' := Lib.hid he; clear he
  go_enter Tryz.func106, Tryz.ntmps106
  go_wp2_with (go_at_call 131; refine (sliteIndex_one s c _ _ he').mono ?_; rintro e w' ⟨rfl, rfl⟩)
  go_ret3
  exact ⟨rfl, rfl⟩
set_option maxRecDepth 100000 in
theorem sliteCut_yes (s : ByteArray) (c : UInt8) (k : Nat) (w : World) (hs : s.size ≤ 9223372036854775807) (hm : Hid (c ∈ s.data.toList)) (hk : Hid (before c s.data.toList = k)) :
    Calls Tryz.prog 106 #[.string s, .string ⟨#[c]⟩] w fun e w' => e = .returned (.tuple #[.string (s.extract 0 k), .string (s.extract (k + 1) s.size), .bool true]) ∧ ∃ n, w' = w.drewN n := by
  have he := indexByte_eq s.data.toList c
  rw [if_pos hm.out, hk.out] at he
  have he' := Lib.hid he; clear he
  have hlt : k < s.size := by
    have := before_lt hm.out
    rw [hk.out] at this
    simpa using this
  go_enter Tryz.func106, Tryz.ntmps106
  go_wp2_with (go_at_call 131; refine (sliteIndex_one s c _ _ he').mono ?_; rintro e w' ⟨rfl, rfl⟩)
  go_quiet (fail)
  go_wp2
  go_ret3
  exact ⟨rfl, _, rfl⟩
theorem stringsCut_no (s : ByteArray) (c : UInt8) (w : World) (hm : Hid (c ∉ s.data.toList)) :
    Calls Tryz.prog 70 #[.string s, .string ⟨#[c]⟩] w fun e w' => e = .returned (.tuple #[.string s, .string ⟨#[]⟩, .bool false]) ∧ w = w' := by
  go_enter Tryz.func70, Tryz.ntmps70
  go_wp2_with (go_at_call 106; refine (sliteCut_no s c _ hm).mono ?_; rintro e w' ⟨rfl, rfl⟩)
  go_ret3
  exact ⟨rfl, rfl⟩
theorem stringsCut_yes (s : ByteArray) (c : UInt8) (k : Nat) (w : World) (hs : s.size ≤ 9223372036854775807) (hm : Hid (c ∈ s.data.toList)) (hk : Hid (before c s.data.toList = k)) :
    Calls Tryz.prog 70 #[.string s, .string ⟨#[c]⟩] w fun e w' => e = .returned (.tuple #[.string (s.extract 0 k), .string (s.extract (k + 1) s.size), .bool true]) ∧ ∃ n, w' = w.drewN n := by
  go_enter Tryz.func70, Tryz.ntmps70
  go_wp2_with (go_at_call 106; refine (sliteCut_yes s c k _ hs hm hk).mono ?_; rintro e w' ⟨rfl, n, rfl⟩)
  go_ret3
  exact ⟨rfl, n, rfl⟩
/-- what stands ahead of the first c, and behind it -/
def CutAt (c : UInt8) (s X Y : ByteArray) : Prop := c ∈ s.data.toList ∧ X.data.toList = s.data.toList.take (before c s.data.toList) ∧ Y.data.toList = s.data.toList.drop (before c s.data.toList + 1) ∧ X.size ≤ s.size ∧ Y.size ≤ s.size
theorem cutAt_ex {c : UInt8} {s : ByteArray} (h : c ∈ s.data.toList) : ∃ X Y, CutAt c s X Y ∧ X = s.extract 0 (before c s.data.toList) ∧ Y = s.extract (before c s.data.toList + 1) s.size :=
  ⟨_, _, ⟨h, by rw [Lib.extract_data]; simp, by rw [Lib.extract_data]; exact List.take_of_length_le (by simp), by rw [ByteArray.size_extract]; omega, by rw [ByteArray.size_extract]; omega⟩, rfl, rfl⟩
theorem cutAt_eq {c : UInt8} {s X Y : ByteArray} (h : CutAt c s X Y) : X = s.extract 0 (before c s.data.toList) ∧ Y = s.extract (before c s.data.toList + 1) s.size := by
  obtain ⟨X', Y', h', hX, hY⟩ := cutAt_ex h.1
  have e : ∀ a b : ByteArray, a.data.toList = b.data.toList → a = b := fun a b e => by
    cases a with | mk a => cases b with | mk b => simp at e; rw [e]
  exact ⟨(e _ _ (h.2.1.trans h'.2.1.symm)).trans hX, (e _ _ (h.2.2.1.trans h'.2.2.1.symm)).trans hY⟩
theorem stringsCut_at (s : ByteArray) (c : UInt8) (X Y : ByteArray) (w : World) (hs : s.size ≤ 9223372036854775807) (h : Hid (CutAt c s X Y)) :
    Calls Tryz.prog 70 #[.string s, .string ⟨#[c]⟩] w fun e w' => e = .returned (.tuple #[.string X, .string Y, .bool true]) ∧ ∃ n, w' = w.drewN n := by
  obtain ⟨hX, hY⟩ := cutAt_eq h.out
  rw [hX, hY]
  exact stringsCut_yes s c _ w hs (Lib.hid h.out.1) (Lib.hid rfl)
end Go.Proofs.YtialookpnoaogaaGreat
/- Numbers, addresses and nets, as plain lists of bytes. -/
namespace Go.Proofs.YtialookpnoaogaaGreat

def digB (c : UInt8) : Bool := decide (48 ≤ c.toNat ∧ c.toNat ≤ 57)
def decVal (l : List UInt8) : Nat := l.foldl (fun n c => n * 10 + (c.toNat - 48)) 0
theorem decVal_snoc (l : List UInt8) (c : UInt8) : decVal (l ++ [c]) = decVal l * 10 + (c.toNat - 48) := by unfold decVal; rw [List.foldl_append]; rfl
theorem decVal_lt (n : Nat) : ∀ l : List UInt8, l.length = n → l.all digB = true → decVal l < 10 ^ n := by
  induction n with
  | zero => intro l hl _; have : l = [] := List.eq_nil_of_length_eq_zero hl; subst this; simp [decVal]
  | succ n ih =>
    intro l hl ha
    have hne : l ≠ [] := by rintro rfl; simp at hl
    have e := List.dropLast_concat_getLast hne
    rw [← e] at ha ⊢
    rw [List.all_append] at ha
    simp only [Bool.and_eq_true] at ha
    have h1 := ih l.dropLast (by simp [hl]) ha.1
    have h2 : digB (l.getLast hne) = true := by simpa using ha.2
    unfold digB at h2
    rw [decide_eq_true_eq] at h2
    rw [decVal_snoc, Nat.pow_succ]; omega
/-- may this be a number: its length, and no needless nought -/
def decShape (l : List UInt8) : Bool := decide (1 ≤ l.length ∧ l.length ≤ 9 ∧ ¬ (1 < l.length ∧ l.head? = some 48))
def decL (l : List UInt8) : Option Nat := if decShape l && l.all digB then some (decVal l) else none
theorem decL_lt {l : List UInt8} {n : Nat} (h : decL l = some n) : n < 1000000000 := by
  unfold decL at h
  split at h
  · rename_i h'
    simp only [Bool.and_eq_true] at h'
    have h1 := decVal_lt _ l rfl h'.2
    have h2 : l.length ≤ 9 := by have := h'.1; unfold decShape at this; rw [decide_eq_true_eq] at this; exact this.2.1
    injection h with h; subst h
    have : (10 : Nat) ^ l.length ≤ 10 ^ 9 := Nat.pow_le_pow_right (by omega) h2
    omega
  · cases h
theorem decL_digs {l : List UInt8} {n : Nat} (h : decL l = some n) : l.all digB = true := by
  unfold decL at h
  split at h
  · rename_i h'; simp only [Bool.and_eq_true] at h'; exact h'.2
  · cases h
theorem decL_no {l : List UInt8} {n : Nat} (h : decL l = some n) {c : UInt8} (hc : digB c = false) : c ∉ l := by
  intro hm
  have := List.all_eq_true.1 (decL_digs h) c hm
  rw [hc] at this; cases this

/-- the parts of a text at a sign -/
def partsL (c : UInt8) : List UInt8 → List (List UInt8)
  | [] => [[]]
  | b :: l => if b = c then [] :: partsL c l else match partsL c l with
    | p :: ps => (b :: p) :: ps
    | [] => [[b]]
theorem partsL_ne (c : UInt8) (l : List UInt8) : partsL c l ≠ [] := by
  cases l with
  | nil => simp [partsL]
  | cons b l =>
    unfold partsL
    split
    · simp
    · split <;> simp
theorem before_cons_ne {c b : UInt8} {l : List UInt8} (h : b ≠ c) : before c (b :: l) = before c l + 1 := by
  unfold before; rw [List.takeWhile_cons, if_pos (by simpa using h)]; rfl
theorem before_cons_eq {c : UInt8} {l : List UInt8} : before c (c :: l) = 0 := by
  unfold before; rw [List.takeWhile_cons, if_neg (by simp)]; rfl
theorem partsL_no {c : UInt8} {l : List UInt8} (h : c ∉ l) : partsL c l = [l] := by
  induction l with
  | nil => rfl
  | cons b l ih =>
    have hb : b ≠ c := by rintro rfl; exact h (by simp)
    have hl : c ∉ l := fun m => h (by simp [m])
    unfold partsL
    rw [if_neg hb, ih hl]
theorem partsL_yes {c : UInt8} {l : List UInt8} (h : c ∈ l) : partsL c l = l.take (before c l) :: partsL c (l.drop (before c l + 1)) := by
  induction l with
  | nil => cases h
  | cons b l ih =>
    by_cases hb : b = c
    · subst hb
      rw [before_cons_eq]
      simp [partsL]
    · have hl : c ∈ l := by rcases List.mem_cons.1 h with h | h; exact (hb h.symm).elim; exact h
      rw [before_cons_ne hb, show partsL c (b :: l) = (if b = c then [] :: partsL c l else match partsL c l with
        | p :: ps => (b :: p) :: ps
        | [] => [[b]]) from rfl, if_neg hb, ih hl]
      simp
/-- the parts of a text with one byte more -/
def pushLast (b : UInt8) : List (List UInt8) → List (List UInt8)
  | [] => [[b]]
  | [p] => [p ++ [b]]
  | p :: q :: ps => p :: pushLast b (q :: ps)
theorem pushLast_snoc (b : UInt8) (ps : List (List UInt8)) (p : List UInt8) : pushLast b (ps ++ [p]) = ps ++ [p ++ [b]] := by
  induction ps with
  | nil => rfl
  | cons q ps ih =>
    cases ps with
    | nil => rfl
    | cons r ps => show q :: pushLast b (r :: ps ++ [p]) = _; rw [ih]; rfl
theorem partsL_snoc (c b : UInt8) (l : List UInt8) : partsL c (l ++ [b]) = if b = c then partsL c l ++ [[]] else pushLast b (partsL c l) := by
  induction l with
  | nil =>
    by_cases h : b = c
    · subst h; simp [partsL]
    · simp [partsL, h, pushLast]
  | cons a l ih =>
    rw [List.cons_append]
    have hne := partsL_ne c l
    by_cases ha : a = c
    · subst ha
      unfold partsL
      rw [if_pos rfl, if_pos rfl, ih]
      by_cases h : b = a
      · rw [if_pos h, if_pos h]; rfl
      · rw [if_neg h, if_neg h]
        cases hp : partsL a l with
        | nil => exact (hne hp).elim
        | cons p ps => rfl
    · unfold partsL
      rw [if_neg ha, if_neg ha, ih]
      cases hp : partsL c l with
      | nil => exact (hne hp).elim
      | cons p ps =>
        by_cases h : b = c
        · rw [if_pos h, if_pos h]; rfl
        · rw [if_neg h, if_neg h]
          cases ps with
          | nil => rfl
          | cons q ps => rfl

/-- a number of parts, each from 0 to 255 -/
def foldParts (n : Nat) : List (List UInt8) → Option Nat
  | [] => some n
  | p :: ps => match decL p with
    | some b => if b ≤ 255 then foldParts (n * 256 + b) ps else none
    | none => none
/-- as the code reads it: k parts are to come -/
def addrGo : Nat → Nat → List UInt8 → Option Nat
  | 0, n, _ => some n
  | k + 1, n, s => match decL (if 46 ∈ s then s.take (before 46 s) else s) with
    | some b => if b ≤ 255 ∧ (46 ∈ s ↔ k ≠ 0) then addrGo k (n * 256 + b) (if 46 ∈ s then s.drop (before 46 s + 1) else []) else none
    | none => none
def addrL (l : List UInt8) : Option Nat := addrGo 4 0 l
theorem addrGo_yes {k n : Nat} {s : List UInt8} (h : 46 ∈ s) : addrGo (k + 1) n s = match decL (s.take (before 46 s)) with
    | some b => if b ≤ 255 ∧ k ≠ 0 then addrGo k (n * 256 + b) (s.drop (before 46 s + 1)) else none
    | none => none := by
  rw [addrGo]; simp only [h, if_true, true_iff]
theorem addrGo_no {k n : Nat} {s : List UInt8} (h : 46 ∉ s) : addrGo (k + 1) n s = match decL s with
    | some b => if b ≤ 255 ∧ k = 0 then addrGo k (n * 256 + b) [] else none
    | none => none := by
  rw [addrGo]; simp only [h, if_false, false_iff, Decidable.not_not]
theorem addrGo_eq (k : Nat) : ∀ (n : Nat) (s : List UInt8), addrGo (k + 1) n s = if (partsL 46 s).length = k + 1 then foldParts n (partsL 46 s) else none := by
  induction k with
  | zero =>
    intro n s
    by_cases h : 46 ∈ s
    · have e := partsL_yes h
      have hne := partsL_ne 46 (s.drop (before 46 s + 1))
      have hl : (partsL 46 s).length ≠ 0 + 1 := by
        rw [e]; cases hq : partsL 46 (s.drop (before 46 s + 1)) with | nil => exact (hne hq).elim | cons => simp
      rw [addrGo_yes h, if_neg hl]
      cases decL (s.take (before 46 s)) <;> simp
    · rw [addrGo_no h, partsL_no h, if_pos (by simp)]
      cases hd : decL s <;> simp [foldParts, hd, addrGo]
  | succ k ih =>
    intro n s
    by_cases h : 46 ∈ s
    · have e := partsL_yes h
      rw [addrGo_yes h, e]
      cases hd : decL (s.take (before 46 s)) with
      | none => simp [foldParts, hd]
      | some b =>
        simp only [foldParts, hd, List.length_cons]
        by_cases hb : b ≤ 255
        · rw [if_pos ⟨hb, by omega⟩, if_pos hb, ih]
          by_cases hl : (partsL 46 (s.drop (before 46 s + 1))).length = k + 1
          · rw [if_pos hl, if_pos (by omega)]
          · rw [if_neg hl, if_neg (by omega)]
        · rw [if_neg (fun x => hb x.1), if_neg hb]; simp
    · rw [addrGo_no h, partsL_no h, if_neg (by simp)]
      cases decL s <;> simp
theorem addrL_eq (l : List UInt8) : addrL l = if (partsL 46 l).length = 4 then foldParts 0 (partsL 46 l) else none := addrGo_eq 3 0 l
theorem foldParts_lt : ∀ (ps : List (List UInt8)) (n m : Nat), foldParts n ps = some m → m < (n + 1) * 256 ^ ps.length := by
  intro ps
  induction ps with
  | nil => intro n m h; simp [foldParts] at h; subst h; simp
  | cons p ps ih =>
    intro n m h
    unfold foldParts at h
    cases hd : decL p with
    | none => rw [hd] at h; cases h
    | some b =>
      rw [hd] at h
      simp only at h
      split at h
      · have := ih _ _ h
        refine Nat.lt_of_lt_of_le this ?_
        rw [List.length_cons, Nat.pow_succ, Nat.mul_comm (256 ^ ps.length), ← Nat.mul_assoc]
        exact Nat.mul_le_mul_right _ (by omega)
      · cases h
theorem addrL_lt {l : List UInt8} {n : Nat} (h : addrL l = some n) : n < 4294967296 := by
  rw [addrL_eq] at h
  split at h
  · rename_i hl
    have h1 := foldParts_lt _ _ _ h
    have h2 : (0 + 1) * 256 ^ (partsL 46 l).length = 4294967296 := by rw [hl]
    rw [h2] at h1
    exact h1
  · cases h

/-- an address and a length -/
def netL (l : List UInt8) : Option (Nat × Nat) :=
  if 47 ∈ l then match addrL (l.take (before 47 l)), decL (l.drop (before 47 l + 1)) with
    | some a, some n => if 1 ≤ n ∧ n ≤ 32 then some (a, n) else none
    | _, _ => none
  else none
/-- as the document reads it -/
def netParts : List (List UInt8) → Option (Nat × Nat)
  | [p, q] => match addrL p, decL q with
    | some a, some n => if 1 ≤ n ∧ n ≤ 32 then some (a, n) else none
    | _, _ => none
  | _ => none
theorem netL_eq (l : List UInt8) : netL l = netParts (partsL 47 l) := by
  unfold netL
  by_cases h : 47 ∈ l
  · rw [if_pos h, partsL_yes h]
    by_cases h2 : 47 ∈ l.drop (before 47 l + 1)
    · have hd : decL (l.drop (before 47 l + 1)) = none := by
        cases hd : decL (l.drop (before 47 l + 1)) with
        | none => rfl
        | some n => exact (decL_no hd (c := 47) (by decide) h2).elim
      rw [hd, partsL_yes h2]
      have hne := partsL_ne 47 ((l.drop (before 47 l + 1)).drop (before 47 (l.drop (before 47 l + 1)) + 1))
      cases hq : partsL 47 ((l.drop (before 47 l + 1)).drop (before 47 (l.drop (before 47 l + 1)) + 1)) with
      | nil => exact (hne hq).elim
      | cons a b => cases addrL (l.take (before 47 l)) <;> rfl
    · rw [partsL_no h2]; rfl
  · rw [if_neg h, partsL_no h]; rfl
end Go.Proofs.YtialookpnoaogaaGreat
