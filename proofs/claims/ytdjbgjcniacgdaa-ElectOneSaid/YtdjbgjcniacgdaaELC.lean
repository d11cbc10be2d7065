/- Voters of the call's own; slices.Clone of voters. -/
import Derived.Test.YtdjbgjcniacgdaaELB
import Derived.Laws.Cover3
namespace Go.Proofs.Ytdjbgjcniacgdaa
open Go.RowKit

theorem voteInfoAll : (Try.prog.info? 26).map (fun i => (i.zero, i.size, i.bytes)) = some (some (.agg #[.int .u32 0, .int .u32 0, .int .i64 0, .int .u32 0, .int .u32 0]), 5, 24) := by kernel_rfl
theorem vote_parts : ∃ i, Try.prog.info? 26 = some i ∧ i.zero = some (.agg #[.int .u32 0, .int .u32 0, .int .i64 0, .int .u32 0, .int .u32 0]) ∧ i.size = 5 ∧ i.bytes = 24 := by
  have h := voteInfoAll
  cases hi : Try.prog.info? 26 with
  | none => rw [hi] at h; cases h
  | some i =>
    rw [hi] at h
    simp only [Option.map_some, Option.some.injEq, Prod.mk.injEq] at h
    exact ⟨i, rfl, h.1, h.2.1, h.2.2⟩
def voteCells (ls : List VotD) : List Value := ls.flatMap voteVals
theorem voteCells_cons (n : VotD) (ns : List VotD) : voteCells (n :: ns) = voteVals n ++ voteCells ns := by unfold voteCells; rw [List.flatMap_cons]
theorem voteCells_len (ls : List VotD) : (voteCells ls).length = ls.length * 5 := by
  induction ls with
  | nil => rfl
  | cons n ns ih => rw [voteCells_cons, List.length_append, ih, List.length_cons]; simp [voteVals]; omega
theorem voteCells_append (a b : List VotD) : voteCells (a ++ b) = voteCells a ++ voteCells b := by unfold voteCells; simp
theorem voteCells_get (ls : List VotD) : ∀ (i : Nat) (l : VotD), ls[i]? = some l → ∀ j, j < 5 → (voteCells ls)[i * 5 + j]? = (voteVals l)[j]? := by
  induction ls with
  | nil => intro i l h; simp at h
  | cons n ns ih =>
    intro i l h j hj
    have h5 : (voteVals n).length = 5 := rfl
    rw [voteCells_cons, List.getElem?_append, h5]
    cases i with
    | zero => simp at h; subst h; rw [if_pos (by omega)]; simp
    | succ i => rw [if_neg (by omega)]; rw [← ih i l (by simpa using h) j hj]; congr 1; omega
theorem voteCells_one (ls : List VotD) : ∀ u ∈ voteCells ls, u.oneCell' = true := by
  intro u hu
  obtain ⟨l, -, hu⟩ := List.mem_flatMap.1 hu
  simp [voteVals] at hu; rcases hu with rfl | rfl | rfl | rfl | rfl <;> rfl
theorem voteCells_set (ls : List VotD) : ∀ (i : Nat) (l : VotD) (a b : Nat), ls[i]? = some l → ((voteCells ls).set (i * 5 + 3) (.int .u32 a)).set (i * 5 + 4) (.int .u32 b) = voteCells (ls.set i ⟨l.id, l.addr, l.prio, a, b⟩) := by
  induction ls with
  | nil => intro i l a b h; simp at h
  | cons n ns ih =>
    intro i l a b h
    have h5 : (voteVals n).length = 5 := rfl
    cases i with
    | zero =>
      simp at h; subst h
      rw [List.set_cons_zero, voteCells_cons, voteCells_cons]
      rfl
    | succ i =>
      rw [List.set_cons_succ, voteCells_cons, voteCells_cons, ← ih i l a b (by simpa using h), List.set_append_right _ _ (by omega), List.set_append_right _ _ (by omega), h5]
      congr 2
      · congr 1; omega
      · omega
/-- cells of voters that are there, at one place behind the other -/
theorem VotersAt.flat {w : World} {g o n c : Nat} {ls : List VotD} (h : ∀ i l, ls[i]? = some l → w.rangeAt g (o + i * 5) (voteVals l)) : ∀ j u, (voteCells ls)[j]? = some u → w.cell? ((⟨g, o, none⟩ : Addr).add j) = some u := by
  intro j u hu
  have hj : j < ls.length * 5 := by have := (List.getElem?_eq_some_iff.1 hu).1; rwa [voteCells_len] at this
  have hi : j / 5 < ls.length := by omega
  have hl : ls[j / 5]? = some ls[j / 5] := List.getElem?_eq_getElem hi
  have h1 := voteCells_get ls (j / 5) _ hl (j % 5) (by omega)
  rw [show j / 5 * 5 + j % 5 = j by omega, hu] at h1
  have h2 := h (j / 5) _ hl (j % 5) u h1.symm
  rw [Addr.add_mid]
  rw [show o + j / 5 * 5 + j % 5 = o + j by omega] at h2
  exact h2
/-- voters of the call's own -/
def OwnV (w0 w : World) (v : Value) (ls : List VotD) : Prop :=
  w.ownsRow 0 26 5 v ls.length (voteCells ls) ∧ (∀ k, v.ownBlock = some k → w0.heap.size ≤ k) ∧ w0.heap.size ≤ w.heap.size
theorem OwnV.slice {w0 w : World} {v : Value} {xs : List VotD} (h : OwnV w0 w v xs) : ∃ p c, v = .slice p xs.length c := ownsRow_slice h.1
theorem OwnV.keep {F : Nat → Prop} {w0 w w' : World} {v : Value} {xs : List VotD} (h : OwnV w0 w v xs) (k : Keeps F w w') (hF : ∀ i, v.ownBlock = some i → ¬ F i) : OwnV w0 w' v xs :=
  ⟨k.ownsRow h.1 hF, h.2.1, Nat.le_trans h.2.2 k.size⟩
theorem OwnV.at {w0 w : World} {v : Value} {x : List VotD} (h : OwnV w0 w v x) : VotersAt w v x := by
  obtain ⟨p, c, rfl⟩ := h.slice
  rcases h.1.2 with ⟨e, h2⟩ | ⟨g, cap, cur, he, _, _, hle, _⟩
  · injection e with e1 e2 e3; subst e1; subst e3
    exact ⟨none, 0, rfl, fun _ => rfl, by omega, fun h0 => by omega⟩
  · injection he with e1 e2 e3
    subst e1; subst e3
    refine ⟨_, _, rfl, fun h => (by cases h), hle, fun h0 => ⟨g, 0, rfl, fun i l hl j u hu => ?_⟩⟩
    have hj : j < 5 := by have := (List.getElem?_eq_some_iff.1 hu).1; simpa [voteVals] using this
    have := h.1.cells (g := g) rfl (i * 5 + j) u (by rw [voteCells_get x i l hl j hj]; exact hu)
    rw [Addr.add_mid] at this
    rw [Nat.zero_add]; rw [Nat.zero_add] at this; exact this
/-- the block, and what may be written there -/
theorem OwnV.block {w0 w : World} {v : Value} {x : List VotD} (h : OwnV w0 w v x) (h0 : 0 < x.length) : ∃ g c, v = .slice (some ⟨g, 0, none⟩) x.length c ∧ w0.heap.size ≤ g ∧ g < w.heap.size ∧ x.length ≤ c ∧ ∀ k, k < x.length * 5 → (∃ u, w.cell? ⟨g, k, none⟩ = some u) ∧ w.frozen? ⟨g, k, none⟩ = false := by
  rcases h.1.2 with ⟨e, h2⟩ | ⟨g, cap, cur, he, _, hg, hle, _, hcs, _⟩
  · omega
  · refine ⟨g, cap, he, h.2.1 g (by rw [he]; rfl), lt_of_block hg, hle, fun k hk => ⟨?_, ?_⟩⟩
    · have hk2 : k < cur.size := by rw [hcs]; have : x.length * 5 ≤ cap * 5 := Nat.mul_le_mul_right _ hle; omega
      exact ⟨cur[k], by simp [World.cell?, hg, hk2]⟩
    · simp [World.frozen?, hg]
theorem OwnV.put {w0 w : World} {g n c : Nat} {x : List VotD} (h : OwnV w0 w (.slice (some ⟨g, 0, none⟩) n c) x) (i : Nat) (l : VotD) (hl : x[i]? = some l) (a b : Nat) :
    OwnV w0 ((w.setCell ⟨g, i * 5 + 3, none⟩ (.int .u32 a)).setCell ⟨g, i * 5 + 4, none⟩ (.int .u32 b)) (.slice (some ⟨g, 0, none⟩) n c) (x.set i ⟨l.id, l.addr, l.prio, a, b⟩) := by
  have hi : i < x.length := (List.getElem?_eq_some_iff.1 hl).1
  refine ⟨⟨by rw [voteCells_len, List.length_set], ?_⟩, h.2.1, by have := h.2.2; simpa [World.setCell] using this⟩
  rcases h.1.2 with ⟨e, h2⟩ | ⟨g', cap, cur, he, _, hg, hle, hm, hcs, htk⟩
  · cases e
  · injection he with e1 e2 e3
    injection e1 with e1; injection e1 with e1
    subst e1; subst e3
    have hg2 := heap_put (heap_put hg (i * 5 + 3) (.int .u32 a)) (i * 5 + 4) (.int .u32 b)
    refine .inr ⟨g, c, _, by rw [List.length_set, e2], Nat.zero_le _, hg2, by rw [List.length_set]; exact hle, hm, by simpa using hcs, ?_⟩
    rw [List.length_set]
    simp only [Array.toList_setIfInBounds, List.take_set]
    rw [htk, voteCells_set x i l a b hl]
/-- voters of whatever source behind voters of the call's own -/
theorem run_append_v {P : Program} (w : World) (t ty : TypeId) (i : TypeInfo) (ht : P.underlying t = some (.slice 26)) (hi : P.info? 26 = some i) (hz : i.zero = some (.agg #[.int .u32 0, .int .u32 0, .int .i64 0, .int .u32 0, .int .u32 0])) (hsize : i.size = 5) (hby : i.bytes = 24)
    (w0 : World) (v : Value) (xs : List VotD) (hown : OwnV w0 w v xs) (ad : Addr) (c : Nat) (l : List VotD) (hl : VotersAt w (.slice (some ad) l.length c) l) (hsz : xs.length + l.length ≤ 1000000000) :
    ∃ p c' w', (Builtin.append_ #[t, t] ty #[v, .slice (some ad) l.length c]).run P w = .ok (.slice p (xs.length + l.length) c') w' ∧ OwnV w0 w' (.slice p (xs.length + l.length) c') (xs ++ l) ∧ Keeps (fun k => v.ownBlock = some k) w w' ∧ (∀ k, (Value.slice p (xs.length + l.length) c').ownBlock = some k → v.ownBlock = some k ∨ w.heap.size ≤ k) := by
  obtain ⟨v', w', hr, h2, h3, h4⟩ := run_append_sep (P := P) w t ty 26 i _ 5 24 ht hi hz hsize hby rfl (by decide) v xs.length (voteCells xs) hown.1 ad l.length c (voteCells l) (voteCells_len l) (fun j u hu => by
    have hj : j < l.length * 5 := by have := (List.getElem?_eq_some_iff.1 hu).1; rwa [voteCells_len] at this
    obtain ⟨p, c2, e, -, -, hrow⟩ := hl
    obtain ⟨g, o, hp, hrow⟩ := hrow (by omega)
    injection e with e1 e2 e3
    rw [← e1] at hp
    injection hp with hp; subst hp
    exact VotersAt.flat (n := 0) (c := 0) hrow j u hu) (voteCells_one l) (by unfold maxLen; omega) (by omega)
  obtain ⟨p, c', rfl⟩ := ownsRow_slice h2
  refine ⟨p, c', w', hr, ⟨by rw [voteCells_append, List.length_append]; exact h2, fun k e => ?_, Nat.le_trans hown.2.2 h3.size⟩, (Keeps.refl _ _).grown h3 (fun k e => .inl e), h4⟩
  rcases h4 k e with e | e
  · exact hown.2.1 k e
  · exact Nat.le_trans hown.2.2 e
theorem wpList_append_v {P : Program} {w : World} {ops : Array Oper} {rest : List Oper} {o : Oper} {a : Act} {Q : Exit → Act → World → Prop} (hgd : o.guard = none) (s x : Operand) (t : TypeId)
    (ho : o.op = .call { callee := .builtin .append, args := #[s, x], argTypes := #[t, t] })
    (i : TypeInfo) (ht : P.underlying t = some (.slice 26)) (hi : P.info? 26 = some i) (hz : i.zero = some (.agg #[.int .u32 0, .int .u32 0, .int .i64 0, .int .u32 0, .int .u32 0])) (hsize : i.size = 5) (hby : i.bytes = 24)
    (w0 : World) (v : Value) (n : Nat) (xs : List VotD) (hn : xs.length = n) (hs : a.eval s = v) (hown : OwnV w0 w v xs) (ad : Addr) (m c : Nat) (l : List VotD) (hm : l.length = m) (hx : a.eval x = .slice (some ad) m c) (hl : VotersAt w (.slice (some ad) m c) l) (hsz : n + m ≤ 1000000000)
    (h : ∀ p c w', Hid (OwnV w0 w' (.slice p (n + m) c) (xs ++ l)) → Hid (Keeps (fun k => v.ownBlock = some k) w w') → Hid (∀ k, (Value.slice p (n + m) c).ownBlock = some k → v.ownBlock = some k ∨ w.heap.size ≤ k) → wpList P ops Q rest (a.put o.dst (.slice p (n + m) c)) w') : wpList P ops Q (o :: rest) a w :=
  wpList_plain hgd fun _ hK => by
    subst hn; subst hm
    obtain ⟨p, c', w', hr, h2, h3, h4⟩ := run_append_v (P := P) w t o.type i ht hi hz hsize hby w0 v xs hown ad c l hl hsz
    unfold Oper.wp execOp
    simp only [ho, resolve, invoke, builtin, Sem.run_bind, Sem.run_pure, Result.andThen_ok, List.map_toArray, List.map_cons, List.map_nil, hs, hx, hr]
    exact hK _ _ (h p c' w' (Lib.hid h2) (Lib.hid h3) (Lib.hid h4))
theorem OwnV.empty (w0 w : World) (h : w0.heap.size ≤ w.heap.size) : OwnV w0 (w.alloc (.cells #[] 26)) (.slice (some ⟨w.heap.size, 0, none⟩) 0 0) [] :=
  ⟨⟨rfl, .inr ⟨w.heap.size, 0, #[], rfl, Nat.zero_le _, heap_alloc_last w _, Nat.le_refl _, Nat.zero_le _, rfl, rfl⟩⟩, fun k e => by simp only [Value.ownBlock, Option.some.injEq] at e; omega, by simp; omega⟩
theorem eql_nilv (a : Addr) (l c : Nat) (w : World) : (binOp .eql 23 (.slice (some a) l c) (.slice none 0 0)).run Try.prog w = .ok (.bool false) w := by
  simp [binOp, run_equal_slice_nil w 23 _ (some a) l c Try.underlying23]
set_option maxRecDepth 100000 in
theorem elClone_any (sl : Value) (ls : List VotD) (h0 : 0 < ls.length) (hl : ls.length ≤ 1000000) (w : World) (h : Hid (VotersAt w sl ls)) :
    Calls Try.prog 6 #[sl] w (fun e w' => (∃ v, e = .returned v ∧ OwnV w w' v ls) ∧ Keeps (fun _ => False) w w') := by
  obtain ⟨i0, hi0, hz0, hz1, hz2⟩ := vote_parts
  obtain ⟨p, c, rfl, hp, hc, hb⟩ := h.out
  obtain ⟨g, o, rfl, hr⟩ := hb h0
  have h1 : Hid (VotersAt (w.alloc (.cells #[] 26)) (.slice (some ⟨g, o, none⟩) ls.length c) ls) := Lib.hid (h.out.keep ((Keeps.refl _ _).alloc _))
  clear hb hr h hp hc
  have he := eql_nilv ⟨g, o, none⟩ ls.length c w
  go_enter Try.func6, Try.ntmps6
  go_wp2_with ((with_reducible refine at_slot 7 ?_); refine wpList_append_v rfl (.tmp 5) (.tmp 6) 23 rfl i0 Try.underlying23 hi0 hz0 hz1 hz2 w _ 0 [] rfl rfl (OwnV.empty w w (Nat.le_refl _)) ⟨g, o, none⟩ ls.length c ls rfl rfl h1.out (by omega) ?_; intro q d w1 ho1 hg1 hs1)
  go_ret
  refine ⟨⟨_, rfl, by have := ho1.out; rw [Nat.zero_add] at this; exact this⟩, ((Keeps.refl (fun _ => False) w).alloc (.cells #[] 26)).trans' hg1.out (fun k e => ?_)⟩
  have e : some w.heap.size = some k := e
  injection e with e; exact .inr (by omega)
end Go.Proofs.Ytdjbgjcniacgdaa
