/- Numbers of whatever source behind numbers of the call's own; a new row of none. -/
import Derived.Test.YtiogeepffdpafaaLV
namespace Go.Proofs.Ytiogeepffdpafaa
open Go.RowKit

theorem run_append_nums {P : Program} (w : World) (t ty : TypeId) (i : TypeInfo) (ht : P.underlying t = some (.slice 22)) (hi : P.info? 22 = some i) (hz : i.zero = some (.int .u32 0)) (hsize : i.size = 1) (hby : i.bytes = 4)
    (w0 : World) (v : Value) (xs : List Nat) (hown : OwnN w0 w v xs) (sv : Value) (l : List Nat) (hl : NumsAt w sv l) (hsz : xs.length + l.length ≤ 1000000000) :
    ∃ p c w', (Builtin.append_ #[t, t] ty #[v, sv]).run P w = .ok (.slice p (xs.length + l.length) c) w' ∧ OwnN w0 w' (.slice p (xs.length + l.length) c) (xs ++ l) ∧ Grown w v p (xs.length + l.length) c w' := by
  obtain ⟨sp, sc, rfl, hp, -, hlr⟩ := hl
  cases sp with
  | none =>
    have h0 : l.length = 0 := by
      rcases Nat.eq_zero_or_pos l.length with h | h
      · exact h
      · obtain ⟨b, o, e, _⟩ := hlr h; cases e
    have hc := hp rfl
    subst hc
    have hl0 : l = [] := List.length_eq_zero_iff.1 h0
    subst hl0
    obtain ⟨p, c, rfl⟩ := hown.slice
    exact ⟨p, c, w, run_append_owned_none (P := P) (w := w) 0 t ty 22 i 1 ht hi _ xs.length (xs.map nv) hown.1, by simpa using hown, Keeps.refl _ _, fun k e => .inl e⟩
  | some ad =>
    obtain ⟨v', w', hr, h2, h3, h4⟩ := run_append_sep (P := P) w t ty 22 i (.int .u32 0) 1 4 ht hi hz hsize hby rfl (by decide) v xs.length (xs.map nv) hown.1 ad l.length sc (l.map nv) (by simp) (fun j u hu => by
      have h0 : 0 < l.length := by
        have := (List.getElem?_eq_some_iff.1 hu).1; simp at this; omega
      obtain ⟨b, o, e, hr⟩ := hlr h0
      injection e with e; subst e
      rw [Addr.add_mid]; exact hr j u hu) (nv_one l) (by unfold maxLen; omega) (by omega)
    obtain ⟨p, c, rfl⟩ := ownsRow_slice h2
    refine ⟨p, c, w', hr, ⟨by rw [List.map_append, List.length_append]; exact h2, fun k e => ?_, Nat.le_trans hown.2.2 h3.size⟩, (Keeps.refl _ _).grown h3 (fun k e => .inl e), h4⟩
    rcases h4 k e with e | e
    · exact hown.2.1 k e
    · exact Nat.le_trans hown.2.2 e
/-- .. as one operation -/
theorem wp_append_nums {P : Program} {w : World} {o : Oper} {a : Act} {K : Act → World → Prop} {Q : Exit → Act → World → Prop} (s x : Operand) (t : TypeId)
    (ho : o.op = .call { callee := .builtin .append, args := #[s, x], argTypes := #[t, t] })
    (i : TypeInfo) (ht : P.underlying t = some (.slice 22)) (hi : P.info? 22 = some i) (hz : i.zero = some (.int .u32 0)) (hsize : i.size = 1) (hby : i.bytes = 4)
    (w0 : World) (v : Value) (n : Nat) (xs : List Nat) (hn : xs.length = n) (hs : a.eval s = v) (hown : OwnN w0 w v xs) (sv : Value) (hx : a.eval x = sv) (l : List Nat) (hl : NumsAt w sv l) (hsz : n + l.length ≤ 1000000000)
    (h : ∀ p c w', OwnN w0 w' (.slice p (n + l.length) c) (xs ++ l) → Grown w v p (n + l.length) c w' → K (a.put o.dst (.slice p (n + l.length) c)) w') : Oper.wp P o a w K Q := by
  subst hn
  obtain ⟨p, c, w', hr, h2, h3⟩ := run_append_nums (P := P) w t o.type i ht hi hz hsize hby w0 v xs hown sv l hl hsz
  unfold Oper.wp execOp
  simp only [ho, resolve, invoke, builtin, Sem.run_bind, Sem.run_pure, Result.andThen_ok, List.map_toArray, List.map_cons, List.map_nil, hs, hx, hr]
  exact h p c w' h2 h3
theorem OwnN.new (w0 w : World) (h : w0.heap.size ≤ w.heap.size) (l : List Nat) {n : Nat} (hn : l.length = n) (hm : n ≤ maxLen) : OwnN w0 (w.alloc (.cells (l.map nv).toArray 22)) (.slice (some ⟨w.heap.size, 0, none⟩) n n) l := by
  subst hn
  refine ⟨⟨by simp, .inr ⟨w.heap.size, l.length, (l.map nv).toArray, rfl, Nat.zero_le _, heap_alloc_last w _, Nat.le_refl _, hm, by simp, ?_⟩⟩, fun k e => by simp only [Value.ownBlock, Option.some.injEq] at e; omega, by simp; omega⟩
  rw [List.take_of_length_le (by simp)]
end Go.Proofs.Ytiogeepffdpafaa
