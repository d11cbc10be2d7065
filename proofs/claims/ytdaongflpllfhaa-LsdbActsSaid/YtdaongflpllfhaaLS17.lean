/- To, walked (gen_lz.py writes this). -/
import Derived.Test.YtdaongflpllfhaaLS16
import Derived.Test.YtdaongflpllfhaaLS08
set_option linter.unusedVariables false
set_option linter.unusedSimpArgs false
namespace Go.Proofs.Ytdaongflpllfhaa
open Go.RowKit

theorem OwnN.ne_blk {w0 w : World} {v : Value} {xs : List Nat} (h : OwnN w0 w v xs) {B : Nat} {cs : List Value} (hb : BlkAt w B 29 cs) : ∀ k, v.ownBlock = some k → k ≠ B := by
  rintro k e rfl
  rcases h.1.2 with ⟨e1, -⟩ | ⟨g, cap, cur, e1, -, hg, -⟩
  · rw [e1] at e; simp [Value.ownBlock] at e
  · rw [e1] at e
    simp only [Value.ownBlock, Option.some.injEq] at e
    subst e
    have hb2 : w.heap[g]? = _ := hb
    rw [hg] at hb2
    injection hb2 with hb2
    injection hb2 with _ hb2
    exact absurd hb2 (by decide)
theorem BlkAt.put {w : World} {B : Nat} {t : TypeId} {cs : List Value} (h : BlkAt w B t cs) (o : Nat) (v : Value) : BlkAt (w.setCell ⟨B, o, none⟩ v) B t (cs.set o v) := by
  have h2 : w.heap[B]? = _ := h
  have := heap_put h2 o v
  unfold BlkAt
  rw [this]; simp
/-- a link behind links of the call's own: one operation -/
theorem wp_append_lb {P : Program} {w : World} {o : Oper} {a : Act} {K : Act → World → Prop} {Q : Exit → Act → World → Prop} (s x : Operand) (t : TypeId)
    (ho : o.op = .call { callee := .builtin .append, args := #[s, x], argTypes := #[t, t] })
    (i : TypeInfo) (ht : P.underlying t = some (.slice 70)) (hi : P.info? 70 = some i) (hz : i.zero = some (.agg #[.int .u32 0, .int .u32 0, .int .i64 0, .int .i64 0])) (hsize : i.size = 4) (hby : i.bytes = 24)
    (w0 : World) (v : Value) (n : Nat) (xs : List LinkD) (hn : xs.length = n) (hs : a.eval s = v) (hown : OwnL w0 w v xs) (ad : Addr) (hx : a.eval x = .slice (some ad) 1 1) (l : LinkD) (hl : ∀ j u, (linkVals l)[j]? = some u → w.cell? (ad.add j) = some u) (hsz : (n + 1) * 24 ≤ 140737488355328)
    (h : ∀ p c w', OwnL w0 w' (.slice p (n + 1) c) (xs ++ [l]) → Grown w v p (n + 1) c w' → K (a.put o.dst (.slice p (n + 1) c)) w') : Oper.wp P o a w K Q := by
  subst hn
  obtain ⟨v', w', hr, h2, h3, h4⟩ := run_append_sep (P := P) w t o.type 70 i (.agg #[.int .u32 0, .int .u32 0, .int .i64 0, .int .i64 0]) 4 24 ht hi hz hsize hby rfl (by decide) v xs.length (linkCells xs) hown.1 ad 1 1 (linkVals l) rfl hl (linkVals_one l) (by unfold maxLen; omega) (by omega)
  obtain ⟨p, c, rfl⟩ := ownsRow_slice h2
  unfold Oper.wp execOp
  simp only [ho, resolve, invoke, builtin, Sem.run_bind, Sem.run_pure, Result.andThen_ok, List.map_toArray, List.map_cons, List.map_nil, hs, hx, hr]
  refine h p c w' ⟨by rw [linkCells_snoc]; simpa using h2, fun k e => ?_, Nat.le_trans hown.2.2 h3.size⟩ ⟨(Keeps.refl _ _).grown h3 (fun k e => .inl e), h4⟩
  rcases h4 k e with e | e
  · exact hown.2.1 k e
  · exact Nat.le_trans hown.2.2 e
theorem run_append_numsb {P : Program} (w : World) (t ty : TypeId) (i : TypeInfo) (ht : P.underlying t = some (.slice 23)) (hi : P.info? 23 = some i) (hz : i.zero = some (.int .u32 0)) (hsize : i.size = 1) (hby : i.bytes = 4)
    (w0 : World) (v : Value) (xs : List Nat) (hown : OwnN w0 w v xs) (sv : Value) (l : List Nat) (hl : NumsAt w sv l) (hsz : (xs.length + l.length) * 4 ≤ 140737488355328) :
    ∃ p c w', (Builtin.append_ #[t, t] ty #[v, sv]).run P w = .ok (.slice p (xs.length + l.length) c) w' ∧ OwnN w0 w' (.slice p (xs.length + l.length) c) (xs ++ l) ∧ Grown w v p (xs.length + l.length) c w' := by
  obtain ⟨sp, sc, rfl, hp, -, hlr⟩ := hl
  cases sp with
  | none =>
    have h0 : l.length = 0 := by
      rcases Nat.eq_zero_or_pos l.length with h | h
      · exact h
      · obtain ⟨b, o, e, _⟩ := hlr h; cases e
    have hc := hp rfl
    subst hc
    have hl0 : l = [] := List.length_eq_zero_iff.1 h0
    subst hl0
    obtain ⟨p, c, rfl⟩ := hown.slice
    exact ⟨p, c, w, run_append_owned_none (P := P) (w := w) 0 t ty 23 i 1 ht hi _ xs.length (xs.map nv) hown.1, by simpa using hown, Keeps.refl _ _, fun k e => .inl e⟩
  | some ad =>
    obtain ⟨v', w', hr, h2, h3, h4⟩ := run_append_sep (P := P) w t ty 23 i (.int .u32 0) 1 4 ht hi hz hsize hby rfl (by decide) v xs.length (xs.map nv) hown.1 ad l.length sc (l.map nv) (by simp) (fun j u hu => by
      have h0 : 0 < l.length := by
        have := (List.getElem?_eq_some_iff.1 hu).1; simp at this; omega
      obtain ⟨b, o, e, hr⟩ := hlr h0
      injection e with e; subst e
      rw [Addr.add_mid]; exact hr j u hu) (nv_one l) (by unfold maxLen; omega) (by omega)
    obtain ⟨p, c, rfl⟩ := ownsRow_slice h2
    refine ⟨p, c, w', hr, ⟨by rw [List.map_append, List.length_append]; exact h2, fun k e => ?_, Nat.le_trans hown.2.2 h3.size⟩, (Keeps.refl _ _).grown h3 (fun k e => .inl e), h4⟩
    rcases h4 k e with e | e
    · exact hown.2.1 k e
    · exact Nat.le_trans hown.2.2 e
/-- .. as one operation -/
theorem wp_append_numsb {P : Program} {w : World} {o : Oper} {a : Act} {K : Act → World → Prop} {Q : Exit → Act → World → Prop} (s x : Operand) (t : TypeId)
    (ho : o.op = .call { callee := .builtin .append, args := #[s, x], argTypes := #[t, t] })
    (i : TypeInfo) (ht : P.underlying t = some (.slice 23)) (hi : P.info? 23 = some i) (hz : i.zero = some (.int .u32 0)) (hsize : i.size = 1) (hby : i.bytes = 4)
    (w0 : World) (v : Value) (n : Nat) (xs : List Nat) (hn : xs.length = n) (hs : a.eval s = v) (hown : OwnN w0 w v xs) (sv : Value) (hx : a.eval x = sv) (l : List Nat) (hl : NumsAt w sv l) (hsz : (n + l.length) * 4 ≤ 140737488355328)
    (h : ∀ p c w', OwnN w0 w' (.slice p (n + l.length) c) (xs ++ l) → Grown w v p (n + l.length) c w' → K (a.put o.dst (.slice p (n + l.length) c)) w') : Oper.wp P o a w K Q := by
  subst hn
  obtain ⟨p, c, w', hr, h2, h3⟩ := run_append_numsb (P := P) w t o.type i ht hi hz hsize hby w0 v xs hown sv l hl hsz
  unfold Oper.wp execOp
  simp only [ho, resolve, invoke, builtin, Sem.run_bind, Sem.run_pure, Result.andThen_ok, List.map_toArray, List.map_cons, List.map_nil, hs, hx, hr]
  exact h p c w' h2 h3
theorem no_true {b : Bool} (h : b = true → False) : b = false := by cases b with
  | false => rfl
  | true => exact (h rfl).elim
theorem load_r10links (w : World) (b o : Nat) (v : Value) (h : w.cell? ⟨b, o, none⟩ = some v) : (loadVar 46 ⟨b, o, none⟩).run Try.prog w = .ok v w := by simp [go_sem, h]
theorem OwnL.type_ {w0 w : World} {v : Value} {xs : List LinkD} (h : OwnL w0 w v xs) (k : Nat) (e : v.ownBlock = some k) : ∃ cur, w.heap[k]? = some (.cells cur 70 (0, 0)) := by
  rcases h.1.2 with ⟨e1, -⟩ | ⟨g, cap, cur, e1, -, hg, -⟩
  · rw [e1] at e; simp [Value.ownBlock] at e
  · rw [e1] at e
    simp only [Value.ownBlock, Option.some.injEq] at e
    subst e; exact ⟨cur, hg⟩
theorem OwnN.type_ {w0 w : World} {v : Value} {xs : List Nat} (h : OwnN w0 w v xs) (k : Nat) (e : v.ownBlock = some k) : ∃ cur, w.heap[k]? = some (.cells cur 23 (0, 0)) := by
  rcases h.1.2 with ⟨e1, -⟩ | ⟨g, cap, cur, e1, -, hg, -⟩
  · rw [e1] at e; simp [Value.ownBlock] at e
  · rw [e1] at e
    simp only [Value.ownBlock, Option.some.injEq] at e
    subst e; exact ⟨cur, hg⟩
theorem OwnL.ne_blkL {w0 w : World} {v : Value} {xs : List LinkD} (h : OwnL w0 w v xs) {B : Nat} {cs : List Value} (hb : BlkAt w B 29 cs) : ∀ k, v.ownBlock = some k → k ≠ B := by
  rintro k e rfl
  obtain ⟨cur, hg⟩ := h.type_ k e
  have hb2 : w.heap[k]? = _ := hb
  rw [hg] at hb2
  injection hb2 with hb2
  injection hb2 with _ hb2
  exact absurd hb2 (by decide)
theorem OwnL.ne_nums {w0 w : World} {v u : Value} {xs : List LinkD} {ns : List Nat} (h : OwnL w0 w v xs) (hb : OwnN w0 w u ns) : ∀ k, v.ownBlock = some k → u.ownBlock = some k → False := by
  intro k e f
  obtain ⟨cur, hg⟩ := h.type_ k e
  obtain ⟨cur2, hb2⟩ := hb.type_ k f
  rw [hg] at hb2
  injection hb2 with hb2
  injection hb2 with _ hb2
  exact absurd hb2 (by decide)
set_option maxRecDepth 100000 in
set_option maxHeartbeats 4000000 in
theorem lwTo_any (age type seq cost : Int) (id adv mask : Nat) (links : List LinkD) (routers : List Nat) (p5 p7 : Option Addr) (c5 c7 : Nat) (w : World)
    (hl : Hid (LinksAt w (.slice p5 links.length c5) links)) (hr : Hid (NumsAt w (.slice p7 routers.length c7) routers)) (hll : links.length * 24 ≤ 140737488351232) (hrl : routers.length * 4 ≤ 140737488351232) :
    Calls Try.prog 17 #[.agg #[.int .i64 age, .int .i64 type, .int .u32 id, .int .u32 adv, .int .i64 seq, .slice p5 links.length c5, .int .u32 mask, .slice p7 routers.length c7, .int .i64 cost]] w (fun e w' => (∃ p5 c5 p7 c7, e = .returned (.agg #[.int .i64 age, .int .i64 type, .int .u32 id, .int .u32 adv, .int .i64 seq, .slice p5 links.length c5, .int .u32 mask, .slice p7 routers.length c7, .int .i64 cost]) ∧ LinksAt w' (.slice p5 links.length c5) links ∧ NumsAt w' (.slice p7 routers.length c7) routers) ∧ Keeps (fun _ => False) w w') := by
  have hA : Hid (Boxed w.heap.size [.int .i64 age, .int .i64 type, .int .u32 id, .int .u32 adv, .int .i64 seq, .slice p5 links.length c5, .int .u32 mask, .slice p7 routers.length c7, .int .i64 cost] w ((w.alloc (.cells #[.int .i64 age, .int .i64 type, .int .u32 id, .int .u32 adv, .int .i64 seq, .slice p5 links.length c5, .int .u32 mask, .slice p7 routers.length c7, .int .i64 cost] 48)).alloc (.cells #[.int .i64 0, .int .i64 0, .int .u32 0, .int .u32 0, .int .i64 0, .slice none 0 0, .int .u32 0, .slice none 0 0, .int .i64 0] 29))) := Lib.hid ((boxed_new w _ _).next ((Keeps.refl _ _).alloc _))
  have hL := Lib.hid (hl.out.keep hA.out.k)
  have hR := Lib.hid (hr.out.keep hA.out.k)
  clear hl hr
  go_enter Try.func17, Try.ntmps17
  go_upto_region 1 with fail
  refine wp_region_noPanic ?_
  refine wp_region_held_drew (S := (fun W => Keeps (fun _ => False) ((w.alloc (.cells #[.int .i64 age, .int .i64 type, .int .u32 id, .int .u32 adv, .int .i64 seq, .slice p5 links.length c5, .int .u32 mask, .slice p7 routers.length c7, .int .i64 cost] 48)).alloc (.cells #[.int .i64 0, .int .i64 0, .int .u32 0, .int .u32 0, .int .i64 0, .slice none 0 0, .int .u32 0, .slice none 0 0, .int .i64 0] 29)) W)) (by kernel_rfl) (((Keeps.refl (fun _ => False) _).drew)) (fun hHeld => ?_)
  refine tk 0 rfl ?_
  refine tkL 1 rfl (yieldsIf_load_cell (by rfl) 3 (.tmp 5) rfl w.heap.size 0 rfl _ (fun _ s => (hA.out.next s).cell 0 (.int .i64 age) rfl) (fun w s => load_int w _ _ _ s)) ?_
  refine tk 2 rfl ?_
  refine tk 3 rfl ?_
  refine tkL 4 rfl (yieldsIf_load_cell (by rfl) 3 (.tmp 8) rfl w.heap.size 1 rfl _ (fun _ s => (hA.out.next s).cell 1 (.int .i64 type) rfl) (fun w s => load_int w _ _ _ s)) ?_
  refine tk 5 rfl ?_
  refine tk 6 rfl ?_
  refine tkL 7 rfl (yieldsIf_load_cell (by rfl) 23 (.tmp 11) rfl w.heap.size 2 rfl _ (fun _ s => (hA.out.next s).cell 2 (.int .u32 id) rfl) (fun w s => load_u32 w _ _ _ s)) ?_
  refine tk 8 rfl ?_
  refine tk 9 rfl ?_
  refine tkL 10 rfl (yieldsIf_load_cell (by rfl) 23 (.tmp 14) rfl w.heap.size 3 rfl _ (fun _ s => (hA.out.next s).cell 3 (.int .u32 adv) rfl) (fun w s => load_u32 w _ _ _ s)) ?_
  refine tk 11 rfl ?_
  refine tk 12 rfl ?_
  refine tkL 13 rfl (yieldsIf_load_cell (by rfl) 3 (.tmp 17) rfl w.heap.size 4 rfl _ (fun _ s => (hA.out.next s).cell 4 (.int .i64 seq) rfl) (fun w s => load_int w _ _ _ s)) ?_
  refine tk 14 rfl ?_
  refine tkL 15 rfl (yieldsIf_load_cell (by rfl) 23 (.tmp 19) rfl w.heap.size 6 rfl _ (fun _ s => (hA.out.next s).cell 6 (.int .u32 mask) rfl) (fun w s => load_u32 w _ _ _ s)) ?_
  refine tk 17 rfl ?_
  refine tkL 18 rfl (yieldsIf_load_cell (by rfl) 27 (.tmp 22) rfl w.heap.size 7 rfl _ (fun _ s => (hA.out.next s).cell 7 (.slice p7 routers.length c7) rfl) (fun w s => load_u32s w _ _ _ s)) ?_
  refine tk 20 rfl ?_
  refine tkL 21 rfl (yieldsIf_load_cell (by rfl) 3 (.tmp 25) rfl w.heap.size 8 rfl _ (fun _ s => (hA.out.next s).cell 8 (.int .i64 cost) rfl) (fun w s => load_int w _ _ _ s)) ?_
  obtain ⟨i0, hi0, hz0, hz1, hz2⟩ := info_parts u32InfoAll
  refine wpAnyH_slots [21, 24, 27, 3] [16, 19, 22, 23, 24] (fun L f W =>
      (L 16 = true → L 19 = false → OwnN ((w.alloc (.cells #[.int .i64 age, .int .i64 type, .int .u32 id, .int .u32 adv, .int .i64 seq, .slice p5 links.length c5, .int .u32 mask, .slice p7 routers.length c7, .int .i64 cost] 48)).alloc (.cells #[.int .i64 0, .int .i64 0, .int .u32 0, .int .u32 0, .int .i64 0, .slice none 0 0, .int .u32 0, .slice none 0 0, .int .i64 0] 29)) W (f 21) []) ∧
      (L 19 = true → L 24 = false → L 16 = true ∧ ∃ p c, f 24 = .slice p routers.length c ∧ OwnN ((w.alloc (.cells #[.int .i64 age, .int .i64 type, .int .u32 id, .int .u32 adv, .int .i64 seq, .slice p5 links.length c5, .int .u32 mask, .slice p7 routers.length c7, .int .i64 cost] 48)).alloc (.cells #[.int .i64 0, .int .i64 0, .int .u32 0, .int .u32 0, .int .i64 0, .slice none 0 0, .int .u32 0, .slice none 0 0, .int .i64 0] 29)) W (.slice p routers.length c) routers) ∧
      (L 22 = true → L 24 = false → L 19 = true ∧ ∀ p c, f 24 = .slice p routers.length c → f 27 = .agg #[.int .i64 age, .int .i64 type, .int .u32 id, .int .u32 adv, .int .i64 seq, .slice none 0 0, .int .u32 mask, .slice p routers.length c, .int .i64 cost]) ∧
      (L 23 = true → L 24 = false → ∃ B, f 3 = .pointer (some ⟨B, 0, none⟩) ∧ ((w.alloc (.cells #[.int .i64 age, .int .i64 type, .int .u32 id, .int .u32 adv, .int .i64 seq, .slice p5 links.length c5, .int .u32 mask, .slice p7 routers.length c7, .int .i64 cost] 48)).alloc (.cells #[.int .i64 0, .int .i64 0, .int .u32 0, .int .u32 0, .int .i64 0, .slice none 0 0, .int .u32 0, .slice none 0 0, .int .i64 0] 29)).heap.size ≤ B ∧ BlkAt W B 29 [.int .i64 0, .int .i64 0, .int .u32 0, .int .u32 0, .int .i64 0, .slice none 0 0, .int .u32 0, .slice none 0 0, .int .i64 0]) ∧
      (L 24 = true → L 16 = true ∧ L 19 = true ∧ L 22 = true ∧ L 23 = true ∧ ∃ B p c, f 3 = .pointer (some ⟨B, 0, none⟩) ∧ ((w.alloc (.cells #[.int .i64 age, .int .i64 type, .int .u32 id, .int .u32 adv, .int .i64 seq, .slice p5 links.length c5, .int .u32 mask, .slice p7 routers.length c7, .int .i64 cost] 48)).alloc (.cells #[.int .i64 0, .int .i64 0, .int .u32 0, .int .u32 0, .int .i64 0, .slice none 0 0, .int .u32 0, .slice none 0 0, .int .i64 0] 29)).heap.size ≤ B ∧ BlkAt W B 29 [.int .i64 age, .int .i64 type, .int .u32 id, .int .u32 adv, .int .i64 seq, .slice none 0 0, .int .u32 mask, .slice p routers.length c, .int .i64 cost] ∧ OwnN ((w.alloc (.cells #[.int .i64 age, .int .i64 type, .int .u32 id, .int .u32 adv, .int .i64 seq, .slice p5 links.length c5, .int .u32 mask, .slice p7 routers.length c7, .int .i64 cost] 48)).alloc (.cells #[.int .i64 0, .int .i64 0, .int .u32 0, .int .u32 0, .int .i64 0, .slice none 0 0, .int .u32 0, .slice none 0 0, .int .i64 0] 29)) W (.slice p routers.length c) routers)) (by kernel_rfl) (by kernel_rfl) (by kernel_rfl) (by kernel_rfl) (Nat.le_of_ble_eq_true (by kernel_rfl)) hHeld
    (fun L f h => ⟨fun e => absurd (h 16 (by decide)) (by rw [e]; decide), fun e => absurd (h 19 (by decide)) (by rw [e]; decide), fun e => absurd (h 22 (by decide)) (by rw [e]; decide), fun e => absurd (h 23 (by decide)) (by rw [e]; decide), fun e => absurd (h 24 (by decide)) (by rw [e]; decide)⟩) ?_ ?_
  · refine StepsG.cons (d := 21) rfl rfl (by decide) ?_ (StepsG.cons (d := 24) rfl rfl (by decide) ?_ (StepsG.cons (d := 27) rfl rfl (by decide) ?_ (StepsG.cons (d := 3) rfl rfl (by decide) ?_ (StepsG.cons0 rfl rfl ?_ StepsG.nil))))
    · intro L f W hG hS hL hdep K hK
      simp only [actOf, List.foldl_cons, List.foldl_nil, Act.put, sA, sZ, sS] at hK ⊢
      rw [if_pos (by rfl)]
      go_simp
      have n24 : L 24 = false := by cases h : L 24 with
        | false => rfl
        | true => exact absurd ((hG.2.2.2.2 h).1.symm.trans hL) (by decide)
      have hk' : Keeps (fun _ => False) W (W.alloc (.cells #[] 23)) := (Keeps.refl _ _).alloc _
      refine hK.out _ _ (hS.trans hk') ⟨fun _ _ => OwnN.new _ _ hS.size [] rfl (by unfold maxLen; omega), fun e19 _ => absurd ((hG.2.1 e19 n24).1.symm.trans hL) (by decide), hG.2.2.1, fun e23 _ => ?_, fun e24 => absurd (n24.symm.trans e24) (by decide)⟩
      obtain ⟨B, h1, h2, h3⟩ := hG.2.2.2.1 e23 n24
      exact ⟨B, h1, h2, h3.keep hk' (fun f => f)⟩
    · intro L f W hG hS hL hdep K hK
      simp only [actOf, List.foldl_cons, List.foldl_nil, Act.put, sA, sZ, sS] at hK ⊢
      rw [if_pos (by rfl)]
      have d16 := hdep ⟨16, .data⟩ (by simp) rfl (by decide)
      have n24 : L 24 = false := by cases h : L 24 with
        | false => rfl
        | true => exact absurd ((hG.2.2.2.2 h).2.1.symm.trans hL) (by decide)
      have ho := hG.1 d16 hL
      refine wp_append_numsb (.tmp 21) (.tmp 23) 27 rfl i0 Try.underlying27 hi0 hz0 hz1 hz2 ((w.alloc (.cells #[.int .i64 age, .int .i64 type, .int .u32 id, .int .u32 adv, .int .i64 seq, .slice p5 links.length c5, .int .u32 mask, .slice p7 routers.length c7, .int .i64 cost] 48)).alloc (.cells #[.int .i64 0, .int .i64 0, .int .u32 0, .int .u32 0, .int .i64 0, .slice none 0 0, .int .u32 0, .slice none 0 0, .int .i64 0] 29)) (f 21) 0 [] rfl rfl ho _ rfl routers (hR.out.keep hS) (by omega) ?_
      intro p c w' ho' hg
      rw [Nat.zero_add, List.nil_append] at ho'
      rw [Nat.zero_add]
      refine hK.out _ _ (hS.trans' hg.k (fun i e => .inr (ho.2.1 i e))) ⟨fun _ e => absurd (show true = false from e) (by decide), fun _ _ => ⟨d16, p, c, rfl, ho'⟩, fun e22 _ => absurd ((hG.2.2.1 e22 n24).1.symm.trans hL) (by decide), fun e23 _ => ?_, fun e24 => absurd (n24.symm.trans e24) (by decide)⟩
      obtain ⟨B, h1, h2, h3⟩ := hG.2.2.2.1 e23 n24
      exact ⟨B, h1, h2, h3.keep hg.k (fun e => ho.ne_blk h3 B e rfl)⟩
    · intro L f W hG hS hL hdep K hK
      have d19 := hdep ⟨19, .data⟩ (by simp) rfl (by decide)
      have n24 : L 24 = false := by cases h : L 24 with
        | false => rfl
        | true => exact absurd ((hG.2.2.2.2 h).2.2.1.symm.trans hL) (by decide)
      obtain ⟨d16, p, c, h24, ho⟩ := hG.2.1 d19 n24
      simp only [actOf, List.foldl_cons, List.foldl_nil, Act.put, sA, sZ, sS] at hK ⊢
      rw [if_pos (by rfl)]
      rw [h24] at hK ⊢
      go_simp
      refine hK.out _ _ hS ⟨hG.1, hG.2.1, fun _ _ => ⟨d19, fun p' c' e => ?_⟩, hG.2.2.2.1, fun e24 => absurd (n24.symm.trans e24) (by decide)⟩
      have e2 := h24.symm.trans e
      injection e2 with e3 e4 e5
      subst e3; subst e5
      rfl
    · intro L f W hG hS hL hdep K hK
      simp only [actOf, List.foldl_cons, List.foldl_nil, Act.put, sA, sZ, sS] at hK ⊢
      rw [if_pos (by rfl)]
      go_simp
      have n24 : L 24 = false := by cases h : L 24 with
        | false => rfl
        | true => exact absurd ((hG.2.2.2.2 h).2.2.2.1.symm.trans hL) (by decide)
      have hk' : Keeps (fun _ => False) W (W.alloc (.cells #[.int .i64 0, .int .i64 0, .int .u32 0, .int .u32 0, .int .i64 0, .slice none 0 0, .int .u32 0, .slice none 0 0, .int .i64 0] 29)) := (Keeps.refl _ _).alloc _
      refine hK.out _ _ (hS.trans hk') ⟨fun e16 e19 => (hG.1 e16 e19).keep hk' (fun _ _ f => f), fun e19 e24 => ?_, hG.2.2.1, fun _ _ => ⟨W.heap.size, rfl, hS.size, BlkAt.new W _ _⟩, fun e24 => absurd (n24.symm.trans e24) (by decide)⟩
      obtain ⟨d16, p, c, h24, ho⟩ := hG.2.1 e19 n24
      exact ⟨d16, p, c, h24, ho.keep hk' (fun _ _ f => f)⟩
    · intro L f W hG hS hL hdep K hK
      have d22 := hdep ⟨22, .data⟩ (by simp) rfl (by decide)
      have d23 := hdep ⟨23, .data⟩ (by simp) rfl (by decide)
      obtain ⟨d19, h27⟩ := hG.2.2.1 d22 hL
      obtain ⟨d16, p, c, h24, ho⟩ := hG.2.1 d19 hL
      have h27 := h27 p c h24
      obtain ⟨B, h3, hlo, hblk⟩ := hG.2.2.2.1 d23 hL
      simp only [actOf, List.foldl_cons, List.foldl_nil, Act.put, sA, sZ, sS] at hK ⊢
      rw [if_pos (by rfl)]
      refine wp_store_mid 29 (.tmp 3) (.tmp 27) rfl B 0 #[.int .i64 age, .int .i64 type, .int .u32 id, .int .u32 adv, .int .i64 seq, .slice none 0 0, .int .u32 mask, .slice p routers.length c, .int .i64 cost] h3 h27 (hblk.there 0 9 (Nat.le_refl 9)) lsaInfo (lsa_one _ _ _ _ _ _ _ _ _ (slice_one _ _ _) (slice_one _ _ _)) ?_
      have hs9 : Keeps (fun i => i = B) W (W.setCells B 0 [.int .i64 age, .int .i64 type, .int .u32 id, .int .u32 adv, .int .i64 seq, .slice none 0 0, .int .u32 mask, .slice p routers.length c, .int .i64 cost]) := Keeps.setCells (F := fun i => i = B) (.inl rfl) _ _ _ (Keeps.refl _ _)
      refine hK.out _ (hS.trans' hs9 (fun i e => .inr (by subst e; exact hlo))) ⟨fun _ e => absurd (d19.symm.trans e) (by decide), fun _ e => absurd (show true = false from e) (by decide), fun _ e => absurd (show true = false from e) (by decide), fun _ e => absurd (show true = false from e) (by decide), fun _ => ⟨d16, d19, d22, d23, B, p, c, h3, hlo, ?_, ho.keep hs9 (fun i e h => ho.ne_blk hblk i e h)⟩⟩
      exact (((((((((hblk.put 0 (.int .i64 age)).put 1 (.int .i64 type)).put 2 (.int .u32 id)).put 3 (.int .u32 adv)).put 4 (.int .i64 seq)).put 5 (.slice none 0 0)).put 6 (.int .u32 mask)).put 7 (.slice p routers.length c)).put 8 (.int .i64 cost))
  · intro f W hG hS
    obtain ⟨-, -, -, -, B, p, c, h3, hlo, hblk, hown⟩ := hG.2.2.2.2 rfl
    simp only [actOf, List.foldl_cons, List.foldl_nil, Act.put, sA, sZ, sS]
    rw [h3]
    generalize f 21 = f21
    generalize f 24 = f24
    generalize f 27 = f27
    obtain ⟨W1, hW1⟩ : ∃ W1, W1 = (w.alloc (.cells #[.int .i64 age, .int .i64 type, .int .u32 id, .int .u32 adv, .int .i64 seq, .slice p5 links.length c5, .int .u32 mask, .slice p7 routers.length c7, .int .i64 cost] 48)).alloc (.cells #[.int .i64 0, .int .i64 0, .int .u32 0, .int .u32 0, .int .i64 0, .slice none 0 0, .int .u32 0, .slice none 0 0, .int .i64 0] 29) := ⟨_, rfl⟩
    have hRes : Hid (BlkAt W1 (w.heap.size + 1) 29 [.int .i64 0, .int .i64 0, .int .u32 0, .int .u32 0, .int .i64 0, .slice none 0 0, .int .u32 0, .slice none 0 0, .int .i64 0]) := Lib.hid (by
      have := BlkAt.new (w.alloc (.cells #[.int .i64 age, .int .i64 type, .int .u32 id, .int .u32 adv, .int .i64 seq, .slice p5 links.length c5, .int .u32 mask, .slice p7 routers.length c7, .int .i64 cost] 48)) 29 [.int .i64 0, .int .i64 0, .int .u32 0, .int .u32 0, .int .i64 0, .slice none 0 0, .int .u32 0, .slice none 0 0, .int .i64 0]
      rw [hW1]; simpa using this)
    rw [← hW1] at hS hlo hown hA hL hR
    have hS' := Lib.hid hS; have hblk' := Lib.hid hblk; have hown' := Lib.hid hown; have hlo' := Lib.hid hlo
    have hz1 : Hid (OwnL W1 W (.slice none 0 0) []) := Lib.hid (OwnL.nil _ _ hS.size)
    obtain ⟨ii, hii, hiz, hisz, hiby⟩ := info_parts linkInfoAll
    obtain ⟨n, hn⟩ : ∃ n, links.length = n := ⟨_, rfl⟩
    have hA1 := Lib.hid (show Boxed w.heap.size [.int .i64 age, .int .i64 type, .int .u32 id, .int .u32 adv, .int .i64 seq, .slice p5 n c5, .int .u32 mask, .slice p7 routers.length c7, .int .i64 cost] w W1 by rw [← hn]; exact hA.out)
    have hL1 : Hid (LinksAt W1 (.slice p5 n c5) links) := Lib.hid (by rw [← hn]; exact hL.out)
    have hn' := Lib.hid hn
    rw [hn] at hll ⊢
    clear hG h3 hS hblk hown hlo f hW1 hA hL hn
    refine NoPanic.normal ?_
    go_wp2_with fail
    go_loopw [4] (fun iv wr => ∃ (k : Nat) (q : Option Addr) (d : Nat), k ≤ n ∧ iv = .int .i64 k ∧ Hid (BlkAt wr B 29 [.int .i64 age, .int .i64 type, .int .u32 id, .int .u32 adv, .int .i64 seq, .slice q k d, .int .u32 mask, .slice p routers.length c, .int .i64 cost] ∧ OwnL W1 wr (.slice q k d) (links.take k) ∧ OwnN W1 wr (.slice p routers.length c) routers ∧ Keeps (fun _ => False) W1 wr)) (fun iv _ => n - (intOf iv).toNat)
    case atStart => exact ⟨0, none, 0, by omega, rfl, Lib.hid ⟨hblk'.out, hz1.out, hown'.out, hS'.out⟩⟩
    case round =>
      obtain ⟨k, q, d, hk, rfl, hinv⟩ := hrel
      have ha5 := (hA1.out.next hinv.out.2.2.2).cell 5 (.slice p5 n c5) rfl
      by_cases hkn : k < n
      · have hkni : (k : Int) < n := by omega
        obtain ⟨g5, o5, rfl, hrows⟩ := (show ∃ g o, p5 = some ⟨g, o, none⟩ ∧ ∀ i l, links[i]? = some l → W1.rangeAt g (o + i * 4) (linkVals l) from by
          obtain ⟨p', c', e, -, -, hr⟩ := hL1.out
          injection e with e1 e2 e3
          subst e1
          exact hr (by rw [hn'.out]; omega))
        obtain ⟨l, hll2⟩ : ∃ l, links[k]? = some l := ⟨_, List.getElem?_eq_getElem (by rw [hn'.out]; exact hkn)⟩
        have htk : Hid (links.take (k + 1) = links.take k ++ [l]) := Lib.hid (by
          obtain ⟨hk2, e⟩ := List.getElem?_eq_some_iff.1 hll2
          rw [List.take_succ_eq_append_getElem hk2, e])
        have hrow := Lib.hid (hrows k l hll2)
        obtain ⟨lid, ldata, ltype, lcost⟩ := l
        clear hrows hll2
        go_upto_region 5 with fail
        refine wp_region_noPanic ?_
        refine wp_region_held_drew (S := (fun W => Keeps (fun _ => False) W1 W)) (by kernel_rfl) (hinv.out.2.2.2.drew) (fun hHeld => ?_)
        refine tk 0 rfl ?_
        refine tk 2 rfl ?_
        refine tkL 3 rfl (yieldsIf_load_cell (by rfl) 46 (.tmp 37) rfl w.heap.size 5 rfl _ (fun _ s => (hA1.out.next s).cell 5 (.slice (some ⟨g5, o5, none⟩) n c5) rfl) (fun w s => load_r10links w _ _ _ s)) ?_
        refine tk 4 rfl ?_
        refine tk 5 rfl ?_
        refine tk 6 rfl ?_
        refine tkL 7 rfl (yieldsIf_load_cell (by rfl) 23 (.tmp 41) rfl g5 (o5 + k * 4) rfl _ (fun _ s => (s.rangeAt hrow.out (fun f => f)) 0 (.int .u32 lid) rfl) (fun w s => load_u32 w _ _ _ s)) ?_
        refine tk 8 rfl ?_
        refine tkL 9 rfl (yieldsIf_load_cell (by rfl) 46 (.tmp 43) rfl w.heap.size 5 rfl _ (fun _ s => (hA1.out.next s).cell 5 (.slice (some ⟨g5, o5, none⟩) n c5) rfl) (fun w s => load_r10links w _ _ _ s)) ?_
        refine tk 10 rfl ?_
        refine tk 11 rfl ?_
        refine tk 12 rfl ?_
        refine tkL 13 rfl (yieldsIf_load_cell (by rfl) 23 (.tmp 47) rfl g5 (o5 + k * 4 + 1) rfl _ (fun _ s => (s.rangeAt hrow.out (fun f => f)) 1 (.int .u32 ldata) rfl) (fun w s => load_u32 w _ _ _ s)) ?_
        refine tk 14 rfl ?_
        refine tkL 15 rfl (yieldsIf_load_cell (by rfl) 46 (.tmp 49) rfl w.heap.size 5 rfl _ (fun _ s => (hA1.out.next s).cell 5 (.slice (some ⟨g5, o5, none⟩) n c5) rfl) (fun w s => load_r10links w _ _ _ s)) ?_
        refine tk 16 rfl ?_
        refine tk 17 rfl ?_
        refine tk 18 rfl ?_
        refine tkL 19 rfl (yieldsIf_load_cell (by rfl) 3 (.tmp 53) rfl g5 (o5 + k * 4 + 2) rfl _ (fun _ s => (s.rangeAt hrow.out (fun f => f)) 2 (.int .i64 ltype) rfl) (fun w s => load_int w _ _ _ s)) ?_
        refine tk 20 rfl ?_
        refine tkL 21 rfl (yieldsIf_load_cell (by rfl) 46 (.tmp 55) rfl w.heap.size 5 rfl _ (fun _ s => (hA1.out.next s).cell 5 (.slice (some ⟨g5, o5, none⟩) n c5) rfl) (fun w s => load_r10links w _ _ _ s)) ?_
        refine tk 22 rfl ?_
        refine tk 23 rfl ?_
        refine tk 24 rfl ?_
        refine tkL 25 rfl (yieldsIf_load_cell (by rfl) 3 (.tmp 59) rfl g5 (o5 + k * 4 + 3) rfl _ (fun _ s => (s.rangeAt hrow.out (fun f => f)) 3 (.int .i64 lcost) rfl) (fun w s => load_int w _ _ _ s)) ?_
        refine tk 26 rfl ?_
        refine wpAnyH_slots [36, 62, 63, 64] [1, 27, 28, 29, 30] (fun L f W =>
          (L 30 = false → BlkAt W B 29 [.int .i64 age, .int .i64 type, .int .u32 id, .int .u32 adv, .int .i64 seq, .slice q k d, .int .u32 mask, .slice p routers.length c, .int .i64 cost] ∧ OwnN W1 W (.slice p routers.length c) routers) ∧
          (L 28 = false → OwnL W1 W (.slice q k d) (links.take k)) ∧
          (L 1 = true → L 28 = false → f 36 = .slice q k d) ∧
          (L 27 = true → L 28 = false → ∃ nb, f 62 = .slice (some ⟨nb, 0, none⟩) 1 1 ∧ W.rangeAt nb 0 [.int .u32 lid, .int .u32 ldata, .int .i64 ltype, .int .i64 lcost]) ∧
          (L 28 = true → L 1 = true ∧ L 27 = true ∧ (L 30 = false → ∃ q2 d2, f 63 = .slice q2 (k + 1) d2 ∧ OwnL W1 W (.slice q2 (k + 1) d2) (links.take k ++ [⟨lid, ldata, ltype, lcost⟩]))) ∧
          (L 29 = true → L 28 = true ∧ f 64 = .pointer (some ⟨B, 5, none⟩)) ∧
          (L 30 = true → L 1 = true ∧ L 27 = true ∧ L 28 = true ∧ L 29 = true ∧ ∃ q2 d2, BlkAt W B 29 [.int .i64 age, .int .i64 type, .int .u32 id, .int .u32 adv, .int .i64 seq, .slice q2 (k + 1) d2, .int .u32 mask, .slice p routers.length c, .int .i64 cost] ∧ OwnL W1 W (.slice q2 (k + 1) d2) (links.take k ++ [⟨lid, ldata, ltype, lcost⟩]) ∧ OwnN W1 W (.slice p routers.length c) routers)) (by kernel_rfl) (by kernel_rfl) (by kernel_rfl) (by kernel_rfl) (Nat.le_of_ble_eq_true (by kernel_rfl)) hHeld
          (fun L f h => ⟨fun _ => ⟨hinv.out.1, hinv.out.2.2.1⟩, fun _ => hinv.out.2.1, fun e => absurd (h 1 (by decide)) (by rw [e]; decide), fun e => absurd (h 27 (by decide)) (by rw [e]; decide), fun e => absurd (h 28 (by decide)) (by rw [e]; decide), fun e => absurd (h 29 (by decide)) (by rw [e]; decide), fun e => absurd (h 30 (by decide)) (by rw [e]; decide)⟩) ?_ ?_
        · refine StepsG.cons (d := 36) rfl rfl (by decide) ?_ (StepsG.cons (d := 62) rfl rfl (by decide) ?_ (StepsG.cons (d := 63) rfl rfl (by decide) ?_ (StepsG.cons (d := 64) rfl rfl (by decide) ?_ (StepsG.cons0 rfl rfl ?_ StepsG.nil))))
          · intro L f W hG hS hL hdep K hK
            have n30 : L 30 = false := no_true (fun e => absurd ((hG.2.2.2.2.2.2 e).1.symm.trans hL) (by decide))
            have n28 : L 28 = false := no_true (fun e => absurd ((hG.2.2.2.2.1 e).1.symm.trans hL) (by decide))
            have n29 : L 29 = false := no_true (fun e => absurd ((hG.2.2.2.2.2.1 e).1.symm.trans n28) (by decide))
            have hc5 := (hG.1 n30).1.cell 5 (.slice q k d) rfl
            simp only [actOf, List.foldl_cons, List.foldl_nil, Act.put, sA, sZ, sS] at hK ⊢
            rw [if_pos (by rfl)]
            go_simp
            exact hK.out _ _ hS ⟨hG.1, hG.2.1, fun _ _ => rfl, hG.2.2.2.1, fun e => absurd (n28.symm.trans e) (by decide), fun e => absurd (n29.symm.trans e) (by decide), fun e => absurd (n30.symm.trans e) (by decide)⟩
          · intro L f W hG hS hL hdep K hK
            have n30 : L 30 = false := no_true (fun e => absurd ((hG.2.2.2.2.2.2 e).2.1.symm.trans hL) (by decide))
            have n28 : L 28 = false := no_true (fun e => absurd ((hG.2.2.2.2.1 e).2.1.symm.trans hL) (by decide))
            have n29 : L 29 = false := no_true (fun e => absurd ((hG.2.2.2.2.2.1 e).1.symm.trans n28) (by decide))
            simp only [actOf, List.foldl_cons, List.foldl_nil, Act.put, sA, sZ, sS] at hK ⊢
            rw [if_pos (by rfl)]
            go_simp
            have hk' : Keeps (fun _ => False) W (W.alloc (.cells #[.int .u32 lid, .int .u32 ldata, .int .i64 ltype, .int .i64 lcost] 70)) := (Keeps.refl _ _).alloc _
            exact hK.out _ _ (hS.trans hk') ⟨fun _ => ⟨(hG.1 n30).1.keep hk' (fun f => f), (hG.1 n30).2.keep hk' (fun _ _ f => f)⟩, fun _ => (hG.2.1 n28).keep hk' (fun _ _ f => f), hG.2.2.1, fun _ _ => ⟨W.heap.size, rfl, new_rangeb W [.int .u32 lid, .int .u32 ldata, .int .i64 ltype, .int .i64 lcost] 70⟩, fun e => absurd (n28.symm.trans e) (by decide), fun e => absurd (n29.symm.trans e) (by decide), fun e => absurd (n30.symm.trans e) (by decide)⟩
          · intro L f W hG hS hL hdep K hK
            have d1 := hdep ⟨1, .data⟩ (by simp) rfl (by decide)
            have d27 := hdep ⟨27, .data⟩ (by simp) rfl (by decide)
            have n30 : L 30 = false := no_true (fun e => absurd ((hG.2.2.2.2.2.2 e).2.2.1.symm.trans hL) (by decide))
            have n29 : L 29 = false := no_true (fun e => absurd ((hG.2.2.2.2.2.1 e).1.symm.trans hL) (by decide))
            obtain ⟨nb, h62, hnb⟩ := hG.2.2.2.1 d27 hL
            have h36 := hG.2.2.1 d1 hL
            have ho := hG.2.1 hL
            have hb1 := (hG.1 n30).1
            have hb2 := (hG.1 n30).2
            simp only [actOf, List.foldl_cons, List.foldl_nil, Act.put, sA, sZ, sS] at hK ⊢
            rw [if_pos (by rfl)]
            refine wp_append_lb (.tmp 36) (.tmp 62) 26 rfl ii Try.underlying26 hii hiz hisz hiby W1 (.slice q k d) k (links.take k) (by rw [List.length_take, hn'.out]; omega) h36 ho ⟨nb, 0, none⟩ h62 ⟨lid, ldata, ltype, lcost⟩ (fun j u hu => by rw [Addr.add_mid]; exact hnb j u hu) (by omega) ?_
            intro q2 d2 w' ho' hg
            refine hK.out _ _ (hS.trans' hg.k (fun i e => .inr (ho.2.1 i e))) ⟨fun _ => ⟨hb1.keep hg.k (fun e => ho.ne_blkL hb1 B e rfl), hb2.keep hg.k (fun i e1 e2 => ho.ne_nums hb2 i e2 e1)⟩, fun e => absurd (show true = false from e) (by decide), fun _ e => absurd (show true = false from e) (by decide), fun _ e => absurd (show true = false from e) (by decide), fun _ => ⟨d1, d27, fun _ => ⟨q2, d2, rfl, ho'⟩⟩, fun e => absurd (n29.symm.trans e) (by decide), fun e => absurd (n30.symm.trans e) (by decide)⟩
          · intro L f W hG hS hL hdep K hK
            have d28 := hdep ⟨28, .phase⟩ (by simp) rfl (by decide)
            have n30 : L 30 = false := no_true (fun e => absurd ((hG.2.2.2.2.2.2 e).2.2.2.1.symm.trans hL) (by decide))
            simp only [actOf, List.foldl_cons, List.foldl_nil, Act.put, sA, sZ, sS] at hK ⊢
            rw [if_pos (by rfl)]
            go_simp
            exact hK.out _ _ hS ⟨hG.1, hG.2.1, hG.2.2.1, hG.2.2.2.1, hG.2.2.2.2.1, fun _ => ⟨d28, rfl⟩, fun e => absurd (n30.symm.trans e) (by decide)⟩
          · intro L f W hG hS hL hdep K hK
            have d28 := hdep ⟨28, .data⟩ (by simp) rfl (by decide)
            have d29 := hdep ⟨29, .data⟩ (by simp) rfl (by decide)
            obtain ⟨e1, e27, hx⟩ := hG.2.2.2.2.1 d28
            obtain ⟨q2, d2, h63, ho⟩ := hx hL
            have h64 := (hG.2.2.2.2.2.1 d29).2
            have hb1 := (hG.1 hL).1
            have hb2 := (hG.1 hL).2
            have hc5 := hb1.cell 5 (.slice q k d) rfl
            have hf5 := hb1.frozen 5
            have hs5 : Keeps (fun i => i = B) W (W.setCell ⟨B, 5, none⟩ (.slice q2 (k + 1) d2)) := (Keeps.refl (fun i => i = B) W).setCell (.inl rfl) _
            simp only [actOf, List.foldl_cons, List.foldl_nil, Act.put, sA, sZ, sS] at hK ⊢
            rw [h63, h64] at hK ⊢
            rw [if_pos (by rfl)]
            go_simp
            refine hK.out _ (hS.trans' hs5 (fun i e => .inr (by rw [e]; exact hlo'.out))) ⟨fun e => absurd (show true = false from e) (by decide), fun e => absurd (d28.symm.trans e) (by decide), fun _ e => absurd (d28.symm.trans e) (by decide), fun _ e => absurd (d28.symm.trans e) (by decide), fun _ => ⟨e1, e27, fun e => absurd (show true = false from e) (by decide)⟩, fun _ => ⟨d28, rfl⟩, fun _ => ⟨e1, e27, d28, d29, q2, d2, hb1.put 5 _, ho.keep hs5 (fun i e h => ho.ne_blkL hb1 i e h), hb2.keep hs5 (fun i e h => hb2.ne_blk hb1 i e h)⟩⟩
        · intro f W hG hS
          obtain ⟨-, -, -, -, q2, d2, hb, hol, hon⟩ := hG.2.2.2.2.2.2 rfl
          simp only [actOf, List.foldl_cons, List.foldl_nil, Act.put, sA, sZ, sS]
          generalize f 36 = f36
          generalize f 62 = f62
          generalize f 63 = f63
          generalize f 64 = f64
          have hnew : Hid (BlkAt W B 29 [.int .i64 age, .int .i64 type, .int .u32 id, .int .u32 adv, .int .i64 seq, .slice q2 (k + 1) d2, .int .u32 mask, .slice p routers.length c, .int .i64 cost] ∧ OwnL W1 W (.slice q2 (k + 1) d2) (links.take (k + 1)) ∧ OwnN W1 W (.slice p routers.length c) routers ∧ Keeps (fun _ => False) W1 W) := Lib.hid ⟨hb, by rw [htk.out]; exact hol, hon, hS⟩
          clear hG hS hb hol hon hHeld
          refine NoPanic.normal ?_
          go_wp2_with fail
          exact ⟨⟨k + 1, q2, d2, by omega, by go_num, hnew⟩, by simp [intOf]; omega⟩
      · obtain rfl : k = n := by omega
        have htk : links.take k = links := List.take_of_length_le (by rw [hn'.out]; omega)
        rw [htk] at hinv
        have hRR := Lib.hid (hRes.out.keep hinv.out.2.2.2 (fun f => f))
        have hBB := Lib.hid hinv.out.1
        have hOL := Lib.hid hinv.out.2.1
        have hON := Lib.hid hinv.out.2.2.1
        have hKK := Lib.hid (hA1.out.k.trans hinv.out.2.2.2)
        clear htk hinv hL1 hz1 hblk' hown'
        go_wp2_with (first | ((with_reducible refine at_slot 65 ?_); refine wpList_load_mid rfl 29 (.tmp 3) rfl B 0 rfl [.int .i64 age, .int .i64 type, .int .u32 id, .int .u32 adv, .int .i64 seq, .slice q k d, .int .u32 mask, .slice p routers.length c, .int .i64 cost] _ hBB.out.range Try.underlying29 rfl lsaInfo ?_) | ((with_reducible refine at_store 2 ?_); refine wpList_store_blk rfl 29 (.tmp 2) (.tmp 65) rfl (w.heap.size + 1) #[.int .i64 age, .int .i64 type, .int .u32 id, .int .u32 adv, .int .i64 seq, .slice q k d, .int .u32 mask, .slice p routers.length c, .int .i64 cost] rfl rfl (BlkAt.there hRR.out 0 9 (Nat.le_refl 9)) lsaInfo (lsa_one _ _ _ _ _ _ _ _ _ (slice_one _ _ _) (slice_one _ _ _)) ?_; intro w9 hr9 hs9))
        have c0 := rangeAt_cell hr9.out 0 (.int .i64 age) rfl
        have c1 := rangeAt_cell hr9.out 1 (.int .i64 type) rfl
        have c2 := rangeAt_cell hr9.out 2 (.int .u32 id) rfl
        have c3 := rangeAt_cell hr9.out 3 (.int .u32 adv) rfl
        have c4 := rangeAt_cell hr9.out 4 (.int .i64 seq) rfl
        have c5 := rangeAt_cell hr9.out 5 (.slice q k d) rfl
        have c6 := rangeAt_cell hr9.out 6 (.int .u32 mask) rfl
        have c7 := rangeAt_cell hr9.out 7 (.slice p routers.length c) rfl
        have c8 := rangeAt_cell hr9.out 8 (.int .i64 cost) rfl
        refine bodyPost_ret (v := .agg #[.int .i64 age, .int .i64 type, .int .u32 id, .int .u32 adv, .int .i64 seq, .slice q k d, .int .u32 mask, .slice p routers.length c, .int .i64 cost]) (by simp [results, Try.results17, go_sem, c0, c1, c2, c3, c4, c5, c6, c7, c8]) rfl ?_
        have hfl := (hOL.out.keep hs9.out (fun i e h => hOL.out.ne_blkL hRR.out i e h)).at
        have hfn := (hON.out.keep hs9.out (fun i e h => hON.out.ne_blk hRR.out i e h)).at
        refine ⟨⟨q, d, p, c, ?_, ?_, hfn⟩, hKK.out.trans' hs9.out (fun i e => .inr (by rw [e]; omega))⟩
        · rw [hn'.out]
        · rw [hn'.out]; exact hfl
end Go.Proofs.Ytdaongflpllfhaa
