/- Numbers of whatever source behind numbers of the call's own; a new row of none. -/
import Derived.Test.YtialookpnoaogaaGreatZZ31
import Derived.Test.YtialookpnoaogaaGreatZZ30
set_option linter.unusedVariables false
set_option linter.unusedSimpArgs false
namespace Go.Proofs.YtialookpnoaogaaGreat
open Go.RowKit

theorem run_append_nums {P : Program} (w : World) (t ty : TypeId) (i : TypeInfo) (ht : P.underlying t = some (.slice 40)) (hi : P.info? 40 = some i) (hz : i.zero = some (.int .u32 0)) (hsize : i.size = 1) (hby : i.bytes = 4)
    (w0 : World) (v : Value) (xs : List Nat) (hown : OwnN w0 w v xs) (sv : Value) (l : List Nat) (hl : NumsAt w sv l) (hsz : xs.length + l.length ≤ 1000000000) :
    ∃ p c w', (Builtin.append_ #[t, t] ty #[v, sv]).run P w = .ok (.slice p (xs.length + l.length) c) w' ∧ OwnN w0 w' (.slice p (xs.length + l.length) c) (xs ++ l) ∧ Grown w v p (xs.length + l.length) c w' := by
  obtain ⟨sp, sc, rfl, hp, -, hlr⟩ := hl
  cases sp with
  | none =>
    have h0 : l.length = 0 := by
      rcases Nat.eq_zero_or_pos l.length with h | h
      · exact h
      · obtain ⟨b, o, e, _⟩ := hlr h; cases e
    have hc := hp rfl
    subst hc
    have hl0 : l = [] := List.length_eq_zero_iff.1 h0
    subst hl0
    obtain ⟨p, c, rfl⟩ := hown.slice
    exact ⟨p, c, w, run_append_owned_none (P := P) (w := w) 0 t ty 40 i 1 ht hi _ xs.length (xs.map nv) hown.1, by simpa using hown, Keeps.refl _ _, fun k e => .inl e⟩
  | some ad =>
    obtain ⟨v', w', hr, h2, h3, h4⟩ := run_append_sep (P := P) w t ty 40 i (.int .u32 0) 1 4 ht hi hz hsize hby rfl (by decide) v xs.length (xs.map nv) hown.1 ad l.length sc (l.map nv) (by simp) (fun j u hu => by
      have h0 : 0 < l.length := by
        have := (List.getElem?_eq_some_iff.1 hu).1; simp at this; omega
      obtain ⟨b, o, e, hr⟩ := hlr h0
      injection e with e; subst e
      rw [Addr.add_mid]; exact hr j u hu) (nv_one l) (by unfold maxLen; omega) (by omega)
    obtain ⟨p, c, rfl⟩ := ownsRow_slice h2
    refine ⟨p, c, w', hr, ⟨by rw [List.map_append, List.length_append]; exact h2, fun k e => ?_, Nat.le_trans hown.2.2 h3.size⟩, (Keeps.refl _ _).grown h3 (fun k e => .inl e), h4⟩
    rcases h4 k e with e | e
    · exact hown.2.1 k e
    · exact Nat.le_trans hown.2.2 e
/-- .. as one operation -/
theorem wp_append_nums {P : Program} {w : World} {o : Oper} {a : Act} {K : Act → World → Prop} {Q : Exit → Act → World → Prop} (s x : Operand) (t : TypeId)
    (ho : o.op = .call { callee := .builtin .append, args := #[s, x], argTypes := #[t, t] })
    (i : TypeInfo) (ht : P.underlying t = some (.slice 40)) (hi : P.info? 40 = some i) (hz : i.zero = some (.int .u32 0)) (hsize : i.size = 1) (hby : i.bytes = 4)
    (w0 : World) (v : Value) (n : Nat) (xs : List Nat) (hn : xs.length = n) (hs : a.eval s = v) (hown : OwnN w0 w v xs) (sv : Value) (hx : a.eval x = sv) (l : List Nat) (hl : NumsAt w sv l) (hsz : n + l.length ≤ 1000000000)
    (h : ∀ p c w', OwnN w0 w' (.slice p (n + l.length) c) (xs ++ l) → Grown w v p (n + l.length) c w' → K (a.put o.dst (.slice p (n + l.length) c)) w') : Oper.wp P o a w K Q := by
  subst hn
  obtain ⟨p, c, w', hr, h2, h3⟩ := run_append_nums (P := P) w t o.type i ht hi hz hsize hby w0 v xs hown sv l hl hsz
  unfold Oper.wp execOp
  simp only [ho, resolve, invoke, builtin, Sem.run_bind, Sem.run_pure, Result.andThen_ok, List.map_toArray, List.map_cons, List.map_nil, hs, hx, hr]
  exact h p c w' h2 h3
theorem OwnN.new (w0 w : World) (h : w0.heap.size ≤ w.heap.size) (l : List Nat) {n : Nat} (hn : l.length = n) (hm : n ≤ maxLen) : OwnN w0 (w.alloc (.cells (l.map nv).toArray 40)) (.slice (some ⟨w.heap.size, 0, none⟩) n n) l := by
  subst hn
  refine ⟨⟨by simp, .inr ⟨w.heap.size, l.length, (l.map nv).toArray, rfl, Nat.zero_le _, heap_alloc_last w _, Nat.le_refl _, hm, by simp, ?_⟩⟩, fun k e => by simp only [Value.ownBlock, Option.some.injEq] at e; omega, by simp; omega⟩
  rw [List.take_of_length_le (by simp)]
end Go.Proofs.YtialookpnoaogaaGreat
/- To, walked (gen_lz.py writes this). -/
namespace Go.Proofs.YtialookpnoaogaaGreat
open Go.RowKit

theorem OwnN.ne_blk {w0 w : World} {v : Value} {xs : List Nat} (h : OwnN w0 w v xs) {B : Nat} {cs : List Value} (hb : BlkAt w B 75 cs) : ∀ k, v.ownBlock = some k → k ≠ B := by
  rintro k e rfl
  rcases h.1.2 with ⟨e1, -⟩ | ⟨g, cap, cur, e1, -, hg, -⟩
  · rw [e1] at e; simp [Value.ownBlock] at e
  · rw [e1] at e
    simp only [Value.ownBlock, Option.some.injEq] at e
    subst e
    have hb2 : w.heap[g]? = _ := hb
    rw [hg] at hb2
    injection hb2 with hb2
    injection hb2 with _ hb2
    exact absurd hb2 (by decide)
theorem BlkAt.put {w : World} {B : Nat} {t : TypeId} {cs : List Value} (h : BlkAt w B t cs) (o : Nat) (v : Value) : BlkAt (w.setCell ⟨B, o, none⟩ v) B t (cs.set o v) := by
  have h2 : w.heap[B]? = _ := h
  have := heap_put h2 o v
  unfold BlkAt
  rw [this]; simp
/-- a link behind links of the call's own: one operation -/
theorem wp_append_lb {P : Program} {w : World} {o : Oper} {a : Act} {K : Act → World → Prop} {Q : Exit → Act → World → Prop} (s x : Operand) (t : TypeId)
    (ho : o.op = .call { callee := .builtin .append, args := #[s, x], argTypes := #[t, t] })
    (i : TypeInfo) (ht : P.underlying t = some (.slice 142)) (hi : P.info? 142 = some i) (hz : i.zero = some (.agg #[.int .u32 0, .int .u32 0, .int .i64 0, .int .i64 0])) (hsize : i.size = 4) (hby : i.bytes = 24)
    (w0 : World) (v : Value) (n : Nat) (xs : List LinkD) (hn : xs.length = n) (hs : a.eval s = v) (hown : OwnL w0 w v xs) (ad : Addr) (hx : a.eval x = .slice (some ad) 1 1) (l : LinkD) (hl : ∀ j u, (linkVals l)[j]? = some u → w.cell? (ad.add j) = some u) (hsz : (n + 1) * 24 ≤ 140737488355328)
    (h : ∀ p c w', OwnL w0 w' (.slice p (n + 1) c) (xs ++ [l]) → Grown w v p (n + 1) c w' → K (a.put o.dst (.slice p (n + 1) c)) w') : Oper.wp P o a w K Q := by
  subst hn
  obtain ⟨v', w', hr, h2, h3, h4⟩ := run_append_sep (P := P) w t o.type 142 i (.agg #[.int .u32 0, .int .u32 0, .int .i64 0, .int .i64 0]) 4 24 ht hi hz hsize hby rfl (by decide) v xs.length (linkCells xs) hown.1 ad 1 1 (linkVals l) rfl hl (linkVals_one l) (by unfold maxLen; omega) (by omega)
  obtain ⟨p, c, rfl⟩ := ownsRow_slice h2
  unfold Oper.wp execOp
  simp only [ho, resolve, invoke, builtin, Sem.run_bind, Sem.run_pure, Result.andThen_ok, List.map_toArray, List.map_cons, List.map_nil, hs, hx, hr]
  refine h p c w' ⟨by rw [linkCells_snoc]; simpa using h2, fun k e => ?_, Nat.le_trans hown.2.2 h3.size⟩ ⟨(Keeps.refl _ _).grown h3 (fun k e => .inl e), h4⟩
  rcases h4 k e with e | e
  · exact hown.2.1 k e
  · exact Nat.le_trans hown.2.2 e
theorem run_append_numsb {P : Program} (w : World) (t ty : TypeId) (i : TypeInfo) (ht : P.underlying t = some (.slice 40)) (hi : P.info? 40 = some i) (hz : i.zero = some (.int .u32 0)) (hsize : i.size = 1) (hby : i.bytes = 4)
    (w0 : World) (v : Value) (xs : List Nat) (hown : OwnN w0 w v xs) (sv : Value) (l : List Nat) (hl : NumsAt w sv l) (hsz : (xs.length + l.length) * 4 ≤ 140737488355328) :
    ∃ p c w', (Builtin.append_ #[t, t] ty #[v, sv]).run P w = .ok (.slice p (xs.length + l.length) c) w' ∧ OwnN w0 w' (.slice p (xs.length + l.length) c) (xs ++ l) ∧ Grown w v p (xs.length + l.length) c w' := by
  obtain ⟨sp, sc, rfl, hp, -, hlr⟩ := hl
  cases sp with
  | none =>
    have h0 : l.length = 0 := by
      rcases Nat.eq_zero_or_pos l.length with h | h
      · exact h
      · obtain ⟨b, o, e, _⟩ := hlr h; cases e
    have hc := hp rfl
    subst hc
    have hl0 : l = [] := List.length_eq_zero_iff.1 h0
    subst hl0
    obtain ⟨p, c, rfl⟩ := hown.slice
    exact ⟨p, c, w, run_append_owned_none (P := P) (w := w) 0 t ty 40 i 1 ht hi _ xs.length (xs.map nv) hown.1, by simpa using hown, Keeps.refl _ _, fun k e => .inl e⟩
  | some ad =>
    obtain ⟨v', w', hr, h2, h3, h4⟩ := run_append_sep (P := P) w t ty 40 i (.int .u32 0) 1 4 ht hi hz hsize hby rfl (by decide) v xs.length (xs.map nv) hown.1 ad l.length sc (l.map nv) (by simp) (fun j u hu => by
      have h0 : 0 < l.length := by
        have := (List.getElem?_eq_some_iff.1 hu).1; simp at this; omega
      obtain ⟨b, o, e, hr⟩ := hlr h0
      injection e with e; subst e
      rw [Addr.add_mid]; exact hr j u hu) (nv_one l) (by unfold maxLen; omega) (by omega)
    obtain ⟨p, c, rfl⟩ := ownsRow_slice h2
    refine ⟨p, c, w', hr, ⟨by rw [List.map_append, List.length_append]; exact h2, fun k e => ?_, Nat.le_trans hown.2.2 h3.size⟩, (Keeps.refl _ _).grown h3 (fun k e => .inl e), h4⟩
    rcases h4 k e with e | e
    · exact hown.2.1 k e
    · exact Nat.le_trans hown.2.2 e
/-- .. as one operation -/
theorem wp_append_numsb {P : Program} {w : World} {o : Oper} {a : Act} {K : Act → World → Prop} {Q : Exit → Act → World → Prop} (s x : Operand) (t : TypeId)
    (ho : o.op = .call { callee := .builtin .append, args := #[s, x], argTypes := #[t, t] })
    (i : TypeInfo) (ht : P.underlying t = some (.slice 40)) (hi : P.info? 40 = some i) (hz : i.zero = some (.int .u32 0)) (hsize : i.size = 1) (hby : i.bytes = 4)
    (w0 : World) (v : Value) (n : Nat) (xs : List Nat) (hn : xs.length = n) (hs : a.eval s = v) (hown : OwnN w0 w v xs) (sv : Value) (hx : a.eval x = sv) (l : List Nat) (hl : NumsAt w sv l) (hsz : (n + l.length) * 4 ≤ 140737488355328)
    (h : ∀ p c w', OwnN w0 w' (.slice p (n + l.length) c) (xs ++ l) → Grown w v p (n + l.length) c w' → K (a.put o.dst (.slice p (n + l.length) c)) w') : Oper.wp P o a w K Q := by
  subst hn
  obtain ⟨p, c, w', hr, h2, h3⟩ := run_append_numsb (P := P) w t o.type i ht hi hz hsize hby w0 v xs hown sv l hl hsz
  unfold Oper.wp execOp
  simp only [ho, resolve, invoke, builtin, Sem.run_bind, Sem.run_pure, Result.andThen_ok, List.map_toArray, List.map_cons, List.map_nil, hs, hx, hr]
  exact h p c w' h2 h3
theorem no_true {b : Bool} (h : b = true → False) : b = false := by cases b with
  | false => rfl
  | true => exact (h rfl).elim
theorem load_r10links (w : World) (b o : Nat) (v : Value) (h : w.cell? ⟨b, o, none⟩ = some v) : (loadVar 92 ⟨b, o, none⟩).run Tryz.prog w = .ok v w := by simp [go_sem, h]
theorem OwnL.type_ {w0 w : World} {v : Value} {xs : List LinkD} (h : OwnL w0 w v xs) (k : Nat) (e : v.ownBlock = some k) : ∃ cur, w.heap[k]? = some (.cells cur 142 (0, 0)) := by
  rcases h.1.2 with ⟨e1, -⟩ | ⟨g, cap, cur, e1, -, hg, -⟩
  · rw [e1] at e; simp [Value.ownBlock] at e
  · rw [e1] at e
    simp only [Value.ownBlock, Option.some.injEq] at e
    subst e; exact ⟨cur, hg⟩
theorem OwnN.type_ {w0 w : World} {v : Value} {xs : List Nat} (h : OwnN w0 w v xs) (k : Nat) (e : v.ownBlock = some k) : ∃ cur, w.heap[k]? = some (.cells cur 40 (0, 0)) := by
  rcases h.1.2 with ⟨e1, -⟩ | ⟨g, cap, cur, e1, -, hg, -⟩
  · rw [e1] at e; simp [Value.ownBlock] at e
  · rw [e1] at e
    simp only [Value.ownBlock, Option.some.injEq] at e
    subst e; exact ⟨cur, hg⟩
theorem OwnL.ne_blkL {w0 w : World} {v : Value} {xs : List LinkD} (h : OwnL w0 w v xs) {B : Nat} {cs : List Value} (hb : BlkAt w B 75 cs) : ∀ k, v.ownBlock = some k → k ≠ B := by
  rintro k e rfl
  obtain ⟨cur, hg⟩ := h.type_ k e
  have hb2 : w.heap[k]? = _ := hb
  rw [hg] at hb2
  injection hb2 with hb2
  injection hb2 with _ hb2
  exact absurd hb2 (by decide)
theorem OwnL.ne_nums {w0 w : World} {v u : Value} {xs : List LinkD} {ns : List Nat} (h : OwnL w0 w v xs) (hb : OwnN w0 w u ns) : ∀ k, v.ownBlock = some k → u.ownBlock = some k → False := by
  intro k e f
  obtain ⟨cur, hg⟩ := h.type_ k e
  obtain ⟨cur2, hb2⟩ := hb.type_ k f
  rw [hg] at hb2
  injection hb2 with hb2
  injection hb2 with _ hb2
  exact absurd hb2 (by decide)
end Go.Proofs.YtialookpnoaogaaGreat
