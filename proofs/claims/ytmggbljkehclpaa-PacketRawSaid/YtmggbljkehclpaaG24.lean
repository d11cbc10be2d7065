/- LAN LZ LAF -/
import Derived.Test.YtmggbljkehclpaaG12
import Derived.Test.YtmggbljkehclpaaG14
set_option linter.unusedVariables false
set_option linter.unusedSimpArgs false
namespace Go.Proofs.Ytmggbljkehclpaa
open Go.RowKit
theorem OwnN.new (w0 w : World) (h : w0.heap.size ≤ w.heap.size) (l : List Nat) {n : Nat} (hn : l.length = n) (hm : n ≤ maxLen) : OwnN w0 (w.alloc (.cells (l.map nv).toArray 22)) (.slice (some ⟨w.heap.size, 0, none⟩) n n) l := by
 subst hn
 refine ⟨⟨by simp, .inr ⟨w.heap.size, l.length, (l.map nv).toArray, rfl, Nat.zero_le _, heap_alloc_last w _, Nat.le_refl _, hm, by simp, ?_⟩⟩, fun k e => by simp only [Value.ownBlock, Option.some.injEq] at e; omega, by simp; omega⟩
 rw [List.take_of_length_le (by simp)]
theorem a06.put {w : World} {B : Nat} {t : TypeId} {cs : List Value} (h : a06 w B t cs) (o : Nat) (v : Value) : a06 (w.setCell ⟨B, o, none⟩ v) B t (cs.set o v) := by
 have h2 : w.heap[B]? = _ := h
 have := i0v h2 o v
 unfold a06
 rw [this]; simp
theorem i0p {P : Program} (w : World) (t ty : TypeId) (i : TypeInfo) (ht : P.underlying t = some (.slice 22)) (hi : P.info? 22 = some i) (hz : i.zero = some (.int .u32 0)) (hsize : i.size = 1) (hby : i.bytes = 4)
 (w0 : World) (v : Value) (xs : List Nat) (hown : OwnN w0 w v xs) (sv : Value) (l : List Nat) (hl : a0u w sv l) (hsz : (xs.length + l.length) * 4 ≤ 140737488355328) :
 ∃ p c w', (Builtin.append_ #[t, t] ty #[v, sv]).run P w = .ok (.slice p (xs.length + l.length) c) w' ∧ OwnN w0 w' (.slice p (xs.length + l.length) c) (xs ++ l) ∧ d06 w v p (xs.length + l.length) c w' := by
 obtain ⟨sp, sc, rfl, hp, -, hlr⟩ := hl
 cases sp with
 | none =>
  have h0 : l.length = 0 := by
   rcases Nat.eq_zero_or_pos l.length with h | h
   ·exact h
   ·obtain ⟨b, o, e, _⟩ := hlr h; cases e
  have hc := hp rfl
  subst hc
  have hl0 : l = [] := List.length_eq_zero_iff.1 h0
  subst hl0
  obtain ⟨p, c, rfl⟩ := hown.slice
  exact ⟨p, c, w, run_append_owned_none (P := P) (w := w) 0 t ty 22 i 1 ht hi _ xs.length (xs.map nv) hown.1, by simpa using hown, a02.refl _ _, fun k e => .inl e⟩
 | some ad =>
  obtain ⟨v', w', hr, h2, h3, h4⟩ := c04 (P := P) w t ty 22 i (.int .u32 0) 1 4 ht hi hz hsize hby rfl (by decide) v xs.length (xs.map nv) hown.1 ad l.length sc (l.map nv) (by simp) (fun j u hu => by
   have h0 : 0 < l.length := by
    have := (List.getElem?_eq_some_iff.1 hu).1; simp at this; omega
   obtain ⟨b, o, e, hr⟩ := hlr h0
   injection e with e; subst e
   rw [Addr.add_mid]; exact hr j u hu) (nv_one l) (by unfold maxLen; omega) (by omega)
  obtain ⟨p, c, rfl⟩ := b0e h2
  refine ⟨p, c, w', hr, ⟨by rw [List.map_append, List.length_append]; exact h2, fun k e => ?_, Nat.le_trans hown.2.2 h3.size⟩, (a02.refl _ _).grown h3 (fun k e => .inl e), h4⟩
  rcases h4 k e with e | e
  ·exact hown.2.1 k e
  ·exact Nat.le_trans hown.2.2 e
theorem d0f {P : Program} {w : World} {o : Oper} {a : Act} {K : Act → World → Prop} {Q : Exit → Act → World → Prop} (s x : Operand) (t : TypeId)
 (ho : o.op = .call { callee := .builtin .append, args := #[s, x], argTypes := #[t, t] })
 (i : TypeInfo) (ht : P.underlying t = some (.slice 22)) (hi : P.info? 22 = some i) (hz : i.zero = some (.int .u32 0)) (hsize : i.size = 1) (hby : i.bytes = 4)
 (w0 : World) (v : Value) (n : Nat) (xs : List Nat) (hn : xs.length = n) (hs : a.eval s = v) (hown : OwnN w0 w v xs) (sv : Value) (hx : a.eval x = sv) (l : List Nat) (hl : a0u w sv l) (hsz : (n + l.length) * 4 ≤ 140737488355328)
 (h : ∀ p c w', OwnN w0 w' (.slice p (n + l.length) c) (xs ++ l) → d06 w v p (n + l.length) c w' → K (a.put o.dst (.slice p (n + l.length) c)) w') : Oper.wp P o a w K Q := by
 subst hn
 obtain ⟨p, c, w', hr, h2, h3⟩ := i0p (P := P) w t o.type i ht hi hz hsize hby w0 v xs hown sv l hl hsz
 unfold Oper.wp execOp
 simp only [ho, resolve, invoke, builtin, Sem.run_bind, Sem.run_pure, Result.andThen_ok, List.map_toArray, List.map_cons, List.map_nil, hs, hx, hr]
 exact h p c w' h2 h3
theorem f0g {b : Bool} (h : b = true → False) : b = false := by cases b with
 | false => rfl
 | true => exact (h rfl).elim
theorem OwnN.type_ {w0 w : World} {v : Value} {xs : List Nat} (h : OwnN w0 w v xs) (k : Nat) (e : v.ownBlock = some k) : ∃ cur, w.heap[k]? = some (.cells cur 22 (0, 0)) := by
 rcases h.1.2 with ⟨e1, -⟩ | ⟨g, cap, cur, e1, -, hg, -⟩
 ·rw [e1] at e; simp [Value.ownBlock] at e
 ·rw [e1] at e
  simp only [Value.ownBlock, Option.some.injEq] at e
  subst e; exact ⟨cur, hg⟩
theorem i0j : (Try.prog.info? 107).map (fun i => (i.zero, i.size, i.bytes)) = some (some (.agg #[.int .u32 0, .int .u32 0, .int .i64 0, .int .i64 0]), 4, 24) := by kernel_rfl
def c0z (w0 w : World) (v : Value) (ls : List b09) : Prop :=
 w.ownsRow 0 107 4 v ls.length (c0n ls) ∧ (∀ k, v.ownBlock = some k → w0.heap.size ≤ k) ∧ w0.heap.size ≤ w.heap.size
theorem c0z.nil (w0 w : World) (h : w0.heap.size ≤ w.heap.size) : c0z w0 w (.slice none 0 0) [] := ⟨⟨rfl, .inl ⟨rfl, rfl⟩⟩, by simp [Value.ownBlock], h⟩
theorem c0z.slice {w0 w : World} {v : Value} {xs : List b09} (h : c0z w0 w v xs) : ∃ p c, v = .slice p xs.length c := b0e h.1
theorem c0z.keep {F : Nat → Prop} {w0 w w' : World} {v : Value} {xs : List b09} (h : c0z w0 w v xs) (k : a02 F w w') (hF : ∀ i, v.ownBlock = some i → ¬ F i) : c0z w0 w' v xs :=
 ⟨k.ownsRow h.1 hF, h.2.1, Nat.le_trans h.2.2 k.size⟩
theorem c0z.at {w0 w : World} {v : Value} {x : List b09} (h : c0z w0 w v x) : b02 w v x := by
 obtain ⟨p, c, rfl⟩ := h.slice
 rcases h.1.2 with ⟨e, h2⟩ | ⟨g, cap, cur, he, _, _, hle, _⟩
 ·injection e with e1 e2 e3; subst e1; subst e3
  exact ⟨none, 0, rfl, fun _ => rfl, by omega, fun h0 => by omega⟩
 ·injection he with e1 e2 e3
  subst e1; subst e3
  refine ⟨_, _, rfl, fun h => (by cases h), hle, fun h0 => ⟨g, 0, rfl, fun i l hl j u hu => ?_⟩⟩
  have hj : j < 4 := by have := (List.getElem?_eq_some_iff.1 hu).1; simpa [b0l] using this
  have := h.1.cells (g := g) rfl (i * 4 + j) u (by rw [h0m x i l hl j hj]; exact hu)
  rw [Addr.add_mid] at this
  rw [Nat.zero_add]; rw [Nat.zero_add] at this; exact this
theorem d07 {P : Program} {w : World} {o : Oper} {a : Act} {K : Act → World → Prop} {Q : Exit → Act → World → Prop} (s x : Operand) (t : TypeId)
 (ho : o.op = .call { callee := .builtin .append, args := #[s, x], argTypes := #[t, t] })
 (i : TypeInfo) (ht : P.underlying t = some (.slice 107)) (hi : P.info? 107 = some i) (hz : i.zero = some (.agg #[.int .u32 0, .int .u32 0, .int .i64 0, .int .i64 0])) (hsize : i.size = 4) (hby : i.bytes = 24)
 (w0 : World) (v : Value) (n : Nat) (xs : List b09) (hn : xs.length = n) (hs : a.eval s = v) (hown : c0z w0 w v xs) (ad : Addr) (hx : a.eval x = .slice (some ad) 1 1) (l : b09) (hl : ∀ j u, (b0l l)[j]? = some u → w.cell? (ad.add j) = some u) (hsz : (n + 1) * 24 ≤ 140737488355328)
 (h : ∀ p c w', c0z w0 w' (.slice p (n + 1) c) (xs ++ [l]) → d06 w v p (n + 1) c w' → K (a.put o.dst (.slice p (n + 1) c)) w') : Oper.wp P o a w K Q := by
 subst hn
 obtain ⟨v', w', hr, h2, h3, h4⟩ := c04 (P := P) w t o.type 107 i (.agg #[.int .u32 0, .int .u32 0, .int .i64 0, .int .i64 0]) 4 24 ht hi hz hsize hby rfl (by decide) v xs.length (c0n xs) hown.1 ad 1 1 (b0l l) rfl hl (i0i l) (by unfold maxLen; omega) (by omega)
 obtain ⟨p, c, rfl⟩ := b0e h2
 unfold Oper.wp execOp
 simp only [ho, resolve, invoke, builtin, Sem.run_bind, Sem.run_pure, Result.andThen_ok, List.map_toArray, List.map_cons, List.map_nil, hs, hx, hr]
 refine h p c w' ⟨by rw [g0t]; simpa using h2, fun k e => ?_, Nat.le_trans hown.2.2 h3.size⟩ ⟨(a02.refl _ _).grown h3 (fun k e => .inl e), h4⟩
 rcases h4 k e with e | e
 ·exact hown.2.1 k e
 ·exact Nat.le_trans hown.2.2 e
theorem c0z.type_ {w0 w : World} {v : Value} {xs : List b09} (h : c0z w0 w v xs) (k : Nat) (e : v.ownBlock = some k) : ∃ cur, w.heap[k]? = some (.cells cur 107 (0, 0)) := by
 rcases h.1.2 with ⟨e1, -⟩ | ⟨g, cap, cur, e1, -, hg, -⟩
 ·rw [e1] at e; simp [Value.ownBlock] at e
 ·rw [e1] at e
  simp only [Value.ownBlock, Option.some.injEq] at e
  subst e; exact ⟨cur, hg⟩
theorem OwnN.ne_blkR {w0 w : World} {v : Value} {xs : List Nat} (h : OwnN w0 w v xs) {B : Nat} {cs : List Value} (hb : a06 w B 80 cs) : ∀ k, v.ownBlock = some k → k ≠ B := by
 rintro k e rfl
 rcases h.1.2 with ⟨e1, -⟩ | ⟨g, cap, cur, e1, -, hg, -⟩
 ·rw [e1] at e; simp [Value.ownBlock] at e
 ·rw [e1] at e
  simp only [Value.ownBlock, Option.some.injEq] at e
  subst e
  have hb2 : w.heap[g]? = _ := hb
  rw [hg] at hb2
  injection hb2 with hb2
  injection hb2 with _ hb2
  exact absurd hb2 (by decide)
theorem c0z.ne_blkR {w0 w : World} {v : Value} {xs : List b09} (h : c0z w0 w v xs) {B : Nat} {cs : List Value} (hb : a06 w B 80 cs) : ∀ k, v.ownBlock = some k → k ≠ B := by
 rintro k e rfl
 obtain ⟨cur, hg⟩ := h.type_ k e
 have hb2 : w.heap[k]? = _ := hb
 rw [hg] at hb2
 injection hb2 with hb2
 injection hb2 with _ hb2
 exact absurd hb2 (by decide)
theorem c0z.ne_nums {w0 w : World} {v u : Value} {xs : List b09} {ns : List Nat} (h : c0z w0 w v xs) (hb : OwnN w0 w u ns) : ∀ k, v.ownBlock = some k → u.ownBlock = some k → False := by
 intro k e f
 obtain ⟨cur, hg⟩ := h.type_ k e
 obtain ⟨cur2, hb2⟩ := hb.type_ k f
 rw [hg] at hb2
 injection hb2 with hb2
 injection hb2 with _ hb2
 exact absurd hb2 (by decide)
end Go.Proofs.Ytmggbljkehclpaa
