/- lsa.readLinks, walked. -/
import Derived.Test.YtiogeepffdpafaaLK
namespace Go.Proofs.Ytiogeepffdpafaa
open Go.RowKit

theorem linkInfoAll : (Try.prog.info? 125).map (fun i => (i.zero, i.size, i.bytes)) = some (some (.agg #[.int .u32 0, .int .u32 0, .int .i64 0, .int .i64 0]), 4, 24) := by kernel_rfl
def linkCells (ls : List LinkD) : List Value := ls.flatMap linkVals
theorem linkCells_len (ls : List LinkD) : (linkCells ls).length = ls.length * 4 := by
  induction ls with
  | nil => rfl
  | cons n ns ih => unfold linkCells at *; rw [List.flatMap_cons, List.length_append, ih, List.length_cons]; simp [linkVals]; omega
theorem linkCells_snoc (ls : List LinkD) (l : LinkD) : linkCells (ls ++ [l]) = linkCells ls ++ linkVals l := by unfold linkCells; simp
theorem linkCells_get (ls : List LinkD) : ∀ (i : Nat) (l : LinkD), ls[i]? = some l → ∀ j, j < 4 → (linkCells ls)[i * 4 + j]? = (linkVals l)[j]? := by
  induction ls with
  | nil => intro i l h; simp at h
  | cons n ns ih =>
    intro i l h j hj
    have e : linkCells (n :: ns) = linkVals n ++ linkCells ns := by unfold linkCells; rw [List.flatMap_cons]
    have h4 : (linkVals n).length = 4 := rfl
    rw [e, List.getElem?_append, h4]
    cases i with
    | zero => simp at h; subst h; rw [if_pos (by omega)]; simp
    | succ i => rw [if_neg (by omega)]; rw [← ih i l (by simpa using h) j hj]; congr 1; omega
/-- links of the call's own -/
def OwnL (w0 w : World) (v : Value) (ls : List LinkD) : Prop :=
  w.ownsRow 0 125 4 v ls.length (linkCells ls) ∧ (∀ k, v.ownBlock = some k → w0.heap.size ≤ k) ∧ w0.heap.size ≤ w.heap.size
theorem OwnL.nil (w0 w : World) (h : w0.heap.size ≤ w.heap.size) : OwnL w0 w (.slice none 0 0) [] := ⟨⟨rfl, .inl ⟨rfl, rfl⟩⟩, by simp [Value.ownBlock], h⟩
theorem OwnL.slice {w0 w : World} {v : Value} {xs : List LinkD} (h : OwnL w0 w v xs) : ∃ p c, v = .slice p xs.length c := ownsRow_slice h.1
theorem OwnL.keep {F : Nat → Prop} {w0 w w' : World} {v : Value} {xs : List LinkD} (h : OwnL w0 w v xs) (k : Keeps F w w') (hF : ∀ i, v.ownBlock = some i → ¬ F i) : OwnL w0 w' v xs :=
  ⟨k.ownsRow h.1 hF, h.2.1, Nat.le_trans h.2.2 k.size⟩
theorem OwnL.at {w0 w : World} {v : Value} {x : List LinkD} (h : OwnL w0 w v x) : LinksAt w v x := by
  obtain ⟨p, c, rfl⟩ := h.slice
  rcases h.1.2 with ⟨e, h2⟩ | ⟨g, cap, cur, he, _, _, hle, _⟩
  · injection e with e1 e2 e3; subst e1; subst e3
    exact ⟨none, 0, rfl, fun _ => rfl, by omega, fun h0 => by omega⟩
  · injection he with e1 e2 e3
    subst e1; subst e3
    refine ⟨_, _, rfl, fun h => (by cases h), hle, fun h0 => ⟨g, 0, rfl, fun i l hl j u hu => ?_⟩⟩
    have hj : j < 4 := by have := (List.getElem?_eq_some_iff.1 hu).1; simpa [linkVals] using this
    have := h.1.cells (g := g) rfl (i * 4 + j) u (by rw [linkCells_get x i l hl j hj]; exact hu)
    rw [Addr.add_mid] at this
    rw [Nat.zero_add]; rw [Nat.zero_add] at this; exact this
theorem OwnL.push {w0 wb w1 : World} {v : Value} {xs : List LinkD} (h : OwnL w0 wb v xs) (x : LinkD) {p : Option Addr} {c : Nat}
    (ho : wb.grownBy w1 v.ownBlock) (h2 : w1.ownsRow 0 125 4 (.slice p (xs.length + 1) c) (xs.length + 1) (linkCells xs ++ linkVals x))
    (hs : ∀ k, (Value.slice p (xs.length + 1) c).ownBlock = some k → v.ownBlock = some k ∨ wb.heap.size ≤ k) (hk : Keeps (fun _ => False) w0 wb) :
    OwnL w0 w1 (.slice p (xs.length + 1) c) (xs ++ [x]) ∧ Keeps (fun _ => False) w0 w1 := by
  refine ⟨⟨by rw [linkCells_snoc]; simpa using h2, fun k e => ?_, Nat.le_trans h.2.2 ho.size⟩, hk.grown ho (fun k e => .inr (h.2.1 k e))⟩
  rcases hs k e with e | e
  · exact h.2.1 k e
  · exact Nat.le_trans h.2.2 e
theorem linkVals_one (l : LinkD) : ∀ u ∈ linkVals l, u.oneCell' = true := by
  intro u hu; simp [linkVals] at hu; rcases hu with rfl | rfl | rfl | rfl <;> rfl
/-- a link behind links of the call's own: one operation -/
theorem wp_append_l {P : Program} {w : World} {o : Oper} {a : Act} {K : Act → World → Prop} {Q : Exit → Act → World → Prop} (s x : Operand) (t : TypeId)
    (ho : o.op = .call { callee := .builtin .append, args := #[s, x], argTypes := #[t, t] })
    (i : TypeInfo) (ht : P.underlying t = some (.slice 125)) (hi : P.info? 125 = some i) (hz : i.zero = some (.agg #[.int .u32 0, .int .u32 0, .int .i64 0, .int .i64 0])) (hsize : i.size = 4) (hby : i.bytes = 24)
    (w0 : World) (v : Value) (n : Nat) (xs : List LinkD) (hn : xs.length = n) (hs : a.eval s = v) (hown : OwnL w0 w v xs) (ad : Addr) (hx : a.eval x = .slice (some ad) 1 1) (l : LinkD) (hl : ∀ j u, (linkVals l)[j]? = some u → w.cell? (ad.add j) = some u) (hsz : n ≤ 1000000000)
    (h : ∀ p c w', OwnL w0 w' (.slice p (n + 1) c) (xs ++ [l]) → Grown w v p (n + 1) c w' → K (a.put o.dst (.slice p (n + 1) c)) w') : Oper.wp P o a w K Q := by
  subst hn
  obtain ⟨v', w', hr, h2, h3, h4⟩ := run_append_sep (P := P) w t o.type 125 i (.agg #[.int .u32 0, .int .u32 0, .int .i64 0, .int .i64 0]) 4 24 ht hi hz hsize hby rfl (by decide) v xs.length (linkCells xs) hown.1 ad 1 1 (linkVals l) rfl hl (linkVals_one l) (by unfold maxLen; omega) (by omega)
  obtain ⟨p, c, rfl⟩ := ownsRow_slice h2
  unfold Oper.wp execOp
  simp only [ho, resolve, invoke, builtin, Sem.run_bind, Sem.run_pure, Result.andThen_ok, List.map_toArray, List.map_cons, List.map_nil, hs, hx, hr]
  refine h p c w' ⟨by rw [linkCells_snoc]; simpa using h2, fun k e => ?_, Nat.le_trans hown.2.2 h3.size⟩ ⟨(Keeps.refl _ _).grown h3 (fun k e => .inl e), h4⟩
  rcases h4 k e with e | e
  · exact hown.2.1 k e
  · exact Nat.le_trans hown.2.2 e
def linkAt (l : List UInt8) (k : Nat) : LinkD := ⟨beVal (sub l k 4), beVal (sub l (k + 4) 4), ((l.getD (k + 8) 0).toNat : Int), (beVal (sub l (k + 10) 2) : Nat)⟩
def readL (l : List UInt8) (j : Nat) : List LinkD := (List.range j).map fun i => linkAt l (12 * i)
theorem readL_len (l : List UInt8) (j : Nat) : (readL l j).length = j := by unfold readL; simp
theorem readL_succ (l : List UInt8) (j : Nat) : readL l (j + 1) = readL l j ++ [linkAt l (12 * j)] := by unfold readL; simp [List.range_succ]
set_option maxRecDepth 100000 in
set_option maxHeartbeats 4000000 in
theorem lsReadLinks_any (p : Option Addr) (c : Nat) (l : List UInt8) (hl : l.length ≤ 1000000) (w : World) (h : Hid (BytesAt w (.slice p l.length c) l)) :
    Calls Try.prog 99 #[.slice p l.length c] w fun e w' => ∃ q d, e = .returned (.slice q (l.length / 12) d) ∧ OwnL w w' (.slice q (l.length / 12) d) (readL l (l.length / 12)) ∧ Keeps (fun _ => False) w w' := by
  obtain ⟨i0, hi0, hz0, hz1, hz2⟩ := info_parts linkInfoAll
  obtain ⟨p', c', e', -, hc, hb⟩ := h.out
  injection e' with e1 e2 e3; subst e1; subst e3
  have hb' := Lib.hid hb; clear hb h
  go_enter Try.func99, Try.ntmps99
  go_wp2
  go_loopw [0, 3] (fun bw nw wr => ∃ (j : Nat) (pp : Option Addr), 12 * j ≤ l.length ∧ bw = .slice pp (l.length - 12 * j) (c - 12 * j) ∧ Hid (12 * j < l.length → ∃ g o, pp = some ⟨g, o + 12 * j, none⟩ ∧ w.rangeAt g o (l.map bv)) ∧ Hid (OwnL w wr nw (readL l j) ∧ Keeps (fun _ => False) w wr)) (fun bw _ _ => match bw with | .slice _ n _ => n | _ => 0)
  case atStart => exact ⟨0, p, by omega, rfl, Lib.hid (fun h => by obtain ⟨g, o, rfl, hr⟩ := hb'.out (by omega); exact ⟨g, o, rfl, hr⟩), Lib.hid ⟨OwnL.nil _ _ (Nat.le_refl _), Keeps.refl _ _⟩⟩
  case round =>
    obtain ⟨j, pp, hj, rfl, hpp, hO⟩ := hrel
    obtain ⟨q, d, hq⟩ := hO.out.1.slice
    rw [readL_len] at hq
    subst hq
    by_cases h12 : 12 * j + 12 ≤ l.length
    · obtain ⟨g, o, rfl, hr⟩ := hpp.out (by omega)
      have hrw : Hid (wr.rangeAt g o (l.map bv)) := Lib.hid (hO.out.2.rangeAt hr id)
      have hrd := Lib.hid (((Keeps.refl (fun _ => False) wr).drew).rangeAt hrw.out id)
      obtain ⟨na, hna⟩ : ∃ n, beVal (sub l (12 * j) 4) = n := ⟨_, rfl⟩
      obtain ⟨nb, hnb⟩ : ∃ n, beVal (sub l (12 * j + 4) 4) = n := ⟨_, rfl⟩
      obtain ⟨nd, hnd⟩ : ∃ n, beVal (sub l (12 * j + 10) 2) = n := ⟨_, rfl⟩
      have ld := sub_lt (x := l) (i := 12 * j + 10) (n := 2) (by omega)
      rw [hnd] at ld
      simp only [show (256 : Nat) ^ 2 = 65536 from rfl] at ld
      obtain ⟨x8, hx8⟩ : ∃ x, l[12 * j + 8]'(by omega) = x := ⟨_, rfl⟩
      have l8 := x8.toNat_lt
      have sa : (sub l (12 * j) 4).length ≤ 4 := by rw [sub_len (by omega)]; omega
      have sb : (sub l (12 * j + 4) 4).length ≤ 4 := by rw [sub_len (by omega)]; omega
      have sd : (sub l (12 * j + 10) 2).length ≤ 4 := by rw [sub_len (by omega)]; omega
      have ka := Lib.hid (bytes_sub hrd.out hc (12 * j) 4 (by omega))
      have kb := Lib.hid (bytes_sub hrd.out hc (12 * j + 4) 4 (by omega))
      have kd := Lib.hid (bytes_sub hrd.out hc (12 * j + 10) 2 (by omega))
      rw [← Nat.add_assoc, ← Nat.sub_sub] at kb kd
      have hrs := readL_succ l j
      have hla : linkAt l (12 * j) = ⟨na, nb, (x8.toNat : Int), (nd : Int)⟩ := by
        unfold linkAt
        rw [hna, hnb, hnd, List.getD_eq_getElem?_getD, List.getElem?_eq_getElem (by omega), hx8]; rfl
      rw [hla] at hrs
      have hrs' := Lib.hid hrs; have hr0 := Lib.hid hr
      have hc8 : Hid (∀ W : World, W.rangeAt g o (l.map bv) → W.cell? ⟨g, o + 12 * j + 8, none⟩ = some (.int .u8 x8.toNat)) := Lib.hid (fun W s => by have := drop_cell s (12 * j + 8) (by omega); rw [hx8, show o + (12 * j + 8) = o + 12 * j + 8 by omega] at this; exact this)
      have hgne : Hid (∀ k, w.heap.size ≤ k → k ≠ g) := Lib.hid (fun k hk => by have := World.block_lt_of_cell? _ _ (hr 0 (bv (l[0]'(by omega))) (by rw [List.getElem?_map, List.getElem?_eq_getElem (by omega)]; rfl)); simp only at this; omega)
      have hna' := Lib.hid hna; have hnb' := Lib.hid hnb; have hnd' := Lib.hid hnd
      have i4 : (4 : Int) ≤ (c - 12 * j : Nat) := by omega
      have i8 : (8 : Int) ≤ (c - 12 * j : Nat) := by omega
      have i12 : (12 : Int) ≤ (c - 12 * j : Nat) := by omega
      have i8' : (8 : Int) < (l.length - 12 * j : Nat) := by omega
      have j4 : ¬ c - 12 * j = 4 := by omega
      have j10 : ¬ c - 12 * j = 10 := by omega
      have v8 : IntKind.i64.wrap (x8.toNat : Int) = (x8.toNat : Int) := IntWalk.i64_in _ (by omega)
      have vd : IntKind.i64.wrap (nd : Int) = (nd : Int) := IntWalk.i64_in _ (by omega)
      have hOd := Lib.hid (hO.out.1.keep ((Keeps.refl (fun _ => False) wr).drew) (fun _ _ f => f))
      have hKd := Lib.hid (hO.out.2.drew)
      have hrl := Lib.hid (readL_len l j)
      clear hr hrs hla hna hnb hnd hO hpp hx8
      go_upto_region 4 with fail
      refine wp_region_noPanic ?_
      refine wp_region_held_drew (S := (fun W => W.rangeAt g o (l.map bv))) (by kernel_rfl) (hrd.out) (fun hHeld => ?_)
      refine takeL 0 (v := ?_) rfl (by kernel_rfl) (by kernel_rfl) (by kernel_rfl) (fun _ _ _ h => h) (Or.inl ⟨by rfl, ?_⟩) (by assumption) ?_
      rotate_left
      · (intro wS hSw; go_simp; try with_reducible rfl)
      try simp only [Act.put, List.setIfInBounds_toArray, List.set_cons_zero, List.set_cons_succ]
      refine takeL 1 (v := ?_) rfl (by kernel_rfl) (by kernel_rfl) (by kernel_rfl) (fun _ _ _ h => h) (Or.inl ⟨by rfl, ?_⟩) (by assumption) ?_
      rotate_left
      · (intro wS hSw; go_simp; try with_reducible rfl)
      try simp only [Act.put, List.setIfInBounds_toArray, List.set_cons_zero, List.set_cons_succ]
      refine takeL 2 (v := ?_) rfl (by kernel_rfl) (by kernel_rfl) (by kernel_rfl) (fun _ _ _ h => h) (Or.inl ⟨by rfl, ?_⟩) (by assumption) ?_
      rotate_left
      · (intro wS hSw; go_simp; try with_reducible rfl)
      try simp only [Act.put, List.setIfInBounds_toArray, List.set_cons_zero, List.set_cons_succ]
      refine takeL 4 (v := ?_) rfl (by kernel_rfl) (by kernel_rfl) (by kernel_rfl) (fun _ _ _ h => h) (Or.inl ⟨by rfl, ?_⟩) (by assumption) ?_
      rotate_left
      · (intro wS hSw; go_simp; try with_reducible rfl)
      try simp only [Act.put, List.setIfInBounds_toArray, List.set_cons_zero, List.set_cons_succ]
      refine takeL 5 (v := ?_) rfl (by kernel_rfl) (by kernel_rfl) (by kernel_rfl) (fun _ _ _ h => h) (Or.inl ⟨by rfl, ?_⟩) (by assumption) ?_
      rotate_left
      · (intro wS hSw; go_simp; try with_reducible rfl)
      try simp only [Act.put, List.setIfInBounds_toArray, List.set_cons_zero, List.set_cons_succ]
      refine takeL 7 (v := ?_) rfl (by kernel_rfl) (by kernel_rfl) (by kernel_rfl) (fun _ _ _ h => h) (Or.inl ⟨by rfl, ?_⟩) (by assumption) ?_
      rotate_left
      · (intro wS hSw; go_simp; try with_reducible rfl)
      try simp only [Act.put, List.setIfInBounds_toArray, List.set_cons_zero, List.set_cons_succ]
      refine takeL 8 (v := ?_) rfl (by kernel_rfl) (by kernel_rfl) (by kernel_rfl) (fun _ _ _ h => h) (Or.inl ⟨by rfl, ?_⟩) (by assumption) ?_
      rotate_left
      · (intro wS hSw; go_simp; try with_reducible rfl)
      try simp only [Act.put, List.setIfInBounds_toArray, List.set_cons_zero, List.set_cons_succ]
      refine takeL 9 rfl (by kernel_rfl) (by kernel_rfl) (by kernel_rfl) (fun _ _ _ h => h) (yieldsIf_load_cell (by rfl) 5 (.tmp 17) rfl g (o + 12 * j + 8) rfl _ (fun _ s => hc8.out _ s) (fun w s => load_u8 w _ _ _ s)) (by assumption) ?_
      try simp only [Act.put, List.setIfInBounds_toArray, List.set_cons_zero, List.set_cons_succ]
      refine takeL 10 (v := ?_) rfl (by kernel_rfl) (by kernel_rfl) (by kernel_rfl) (fun _ _ _ h => h) (Or.inl ⟨by rfl, ?_⟩) (by assumption) ?_
      rotate_left
      · (intro wS hSw; go_simp; try with_reducible rfl)
      try simp only [Act.put, List.setIfInBounds_toArray, List.set_cons_zero, List.set_cons_succ]
      refine takeL 11 (v := ?_) rfl (by kernel_rfl) (by kernel_rfl) (by kernel_rfl) (fun _ _ _ h => h) (Or.inl ⟨by rfl, ?_⟩) (by assumption) ?_
      rotate_left
      · (intro wS hSw; go_simp; try with_reducible rfl)
      try simp only [Act.put, List.setIfInBounds_toArray, List.set_cons_zero, List.set_cons_succ]
      refine takeL 12 (v := ?_) rfl (by kernel_rfl) (by kernel_rfl) (by kernel_rfl) (fun _ _ _ h => h) (Or.inl ⟨by rfl, ?_⟩) (by assumption) ?_
      rotate_left
      · (intro wS hSw; go_simp; try with_reducible rfl)
      try simp only [Act.put, List.setIfInBounds_toArray, List.set_cons_zero, List.set_cons_succ]
      refine stepL 3 rfl (by kernel_rfl) (fun K hK => ?_)
      go_simp
      (refine (wiRead_r _ _ na sa _ ka hna').mono ?_; rintro e w' ⟨rfl, rfl⟩)
      go_wp2_with fail
      refine hK.out _ _ (hHeld) (fun hHeld => ?_)
      clear hK K
      try simp only [Act.put, List.setIfInBounds_toArray, List.set_cons_zero, List.set_cons_succ]
      refine stepL 6 rfl (by kernel_rfl) (fun K hK => ?_)
      go_simp
      (refine (wiRead_r _ _ nb sb _ kb hnb').mono ?_; rintro e w' ⟨rfl, rfl⟩)
      go_wp2_with fail
      refine hK.out _ _ (hHeld) (fun hHeld => ?_)
      clear hK K
      try simp only [Act.put, List.setIfInBounds_toArray, List.set_cons_zero, List.set_cons_succ]
      refine stepL 13 rfl (by kernel_rfl) (fun K hK => ?_)
      go_simp
      (refine (wiRead_r _ _ nd sd _ kd hnd').mono ?_; rintro e w' ⟨rfl, rfl⟩)
      go_wp2_with fail
      refine hK.out _ _ (hHeld) (fun hHeld => ?_)
      clear hK K
      try simp only [Act.put, List.setIfInBounds_toArray, List.set_cons_zero, List.set_cons_succ]
      refine takeL 14 (v := ?_) rfl (by kernel_rfl) (by kernel_rfl) (by kernel_rfl) (fun _ _ _ h => h) (Or.inl ⟨by rfl, ?_⟩) (by assumption) ?_
      rotate_left
      · (intro wS hSw; go_simp; try with_reducible rfl)
      try simp only [Act.put, List.setIfInBounds_toArray, List.set_cons_zero, List.set_cons_succ]
      refine takeL 15 (v := ?_) rfl (by kernel_rfl) (by kernel_rfl) (by kernel_rfl) (fun _ _ _ h => h) (Or.inl ⟨by rfl, ?_⟩) (by assumption) ?_
      rotate_left
      · (intro wS hSw; go_simp; try with_reducible rfl)
      try simp only [Act.put, List.setIfInBounds_toArray, List.set_cons_zero, List.set_cons_succ]
      clear i4 i8 i12 i8' j4 j10 v8 vd ka kb kd
      have hOl := Lib.hid (hOd.out.keep ((Keeps.refl (fun _ => False) wr.drew).alloc (.cells #[.int .u32 na, .int .u32 nb, .int .i64 (x8.toNat : Nat), .int .i64 nd] 125)) (fun _ _ f => f))
      have hKl := Lib.hid (hKd.out.alloc (.cells #[.int .u32 na, .int .u32 nb, .int .i64 (x8.toNat : Nat), .int .i64 nd] 125))
      refine stepL 16 rfl (by kernel_rfl) (fun K hK => ?_)
      go_simp
      refine hK.out _ _ (((Keeps.refl (fun _ => False) _).alloc _).rangeAt hHeld id) (fun hHeld => ?_)
      clear hK K
      try simp only [Act.put, List.setIfInBounds_toArray, List.set_cons_zero, List.set_cons_succ]
      refine stepL 17 rfl (by kernel_rfl) (fun K hK => ?_)
      rw [if_pos (by rfl)]
      (refine wp_append_l (.tmp 9) (.tmp 25) 34 rfl i0 Try.underlying34 hi0 hz0 hz1 hz2 w _ j (readL l j) hrl.out rfl hOl.out _ rfl ⟨na, nb, (x8.toNat : Int), (nd : Int)⟩ (cells_new rfl _ _) (by omega) ?_; intro q2 d2 w1 ho hg)
      refine hK.out _ _ ((hg.range (fun k e => by have := hOl.out.2.1 k e; exact hgne.out k (hOl.out.2.1 k e)) hHeld)) (fun hHeld => ?_)
      clear hK K
      try simp only [Act.put, List.setIfInBounds_toArray, List.set_cons_zero, List.set_cons_succ]
      refine takeL 18 (v := ?_) rfl (by kernel_rfl) (by kernel_rfl) (by kernel_rfl) (fun _ _ _ h => h) (Or.inl ⟨by rfl, ?_⟩) (by assumption) ?_
      rotate_left
      · (intro wS hSw; go_simp; try with_reducible rfl)
      try simp only [Act.put, List.setIfInBounds_toArray, List.set_cons_zero, List.set_cons_succ]
      refine wpAnyH_done (by kernel_rfl) (NoPanic.normal ?_) _
      have hR : Hid (OwnL w w1 (.slice q2 (j + 1) d2) (readL l j ++ [⟨na, nb, (x8.toNat : Int), (nd : Int)⟩]) ∧ Keeps (fun _ => False) w w1) := Lib.hid ⟨ho, hKl.out.trans' hg.k (fun i e => .inr (hOl.out.2.1 i e))⟩
      clear hHeld ho hg hOl hKl hOd hKd
      go_wp2_with fail
      have hR := hR.out
      refine ⟨⟨j + 1, if c - 12 * j = 12 then some ⟨g, o + 12 * j, none⟩ else some ⟨g, o + 12 * j + 12, none⟩, by omega, ?_, Lib.hid (fun h => ⟨g, o, ?_, hr0.out⟩), Lib.hid ⟨by rw [hrs'.out]; exact hR.1, hR.2⟩⟩, ?_⟩
      · rw [show l.length - 12 * (j + 1) = l.length - 12 * j - 12 by omega, show c - 12 * (j + 1) = c - 12 * j - 12 by omega]
      · rw [if_neg (by omega)]; rfl
      · show l.length - 12 * j - 12 < l.length - 12 * j; omega
    · have hj2 : l.length / 12 = j := by omega
      have hO' := Lib.hid hO.out
      clear hO hpp
      go_wp2_with fail
      go_ret
      rw [hj2]
      exact ⟨q, d, rfl, hO'.out.1, hO'.out.2⟩
end Go.Proofs.Ytiogeepffdpafaa
