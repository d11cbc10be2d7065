/- The document's plan: names of a kind, picked in order; plain. What the walk holds. -/
import Derived.Test.YtmclnamgihphcaaGreatMM26
import Derived.Test.YtmclnamgihphcaaGreatMM23
import Derived.Test.YtmclnamgihphcaaGreatMM27
set_option linter.unusedVariables false
set_option linter.unusedSimpArgs false
set_option linter.unusedVariables false
set_option linter.unusedSimpArgs false
namespace Go.Proofs.YtmclnamgihphcaaGreat
open Go.RowKit Go.Sort Go.Shelf

structure Pick (q : Int) (M : ActD → Prop) (O : List ActD) (ns : List (List UInt8)) : Prop where
  s : StrictA O
  m : ∀ x, (x ∈ O ∨ (x.kind = q ∧ x.name ∈ ns)) ↔ (1 ≤ x.kind ∧ x.kind < q + 1 ∧ M x)
  l : ∀ x ∈ O, x.kind ≤ q ∧ (x.kind = q → ∀ n ∈ ns, Op.bytesLess n x.name = false)
theorem ltB_iff {x y : ActD} : ltB x y = true ↔ x.kind < y.kind ∨ (x.kind = y.kind ∧ Op.bytesLess x.name y.name = true) := ltA x y
theorem strict_last {O : List ActD} (h : StrictA O) {y : ActD} (hy : O.getLast? = some y) {x : ActD} (hx : x ∈ O) : x = y ∨ ltB x y = true := by
  obtain ⟨O', rfl⟩ : ∃ O', O = O' ++ [y] := by
    have hne : O ≠ [] := by intro e; rw [e] at hy; cases hy
    refine ⟨O.dropLast, ?_⟩
    rw [List.getLast?_eq_some_getLast hne] at hy
    injection hy with hy
    rw [← hy, List.dropLast_concat_getLast]
  rcases List.mem_append.1 hx with hx | hx
  · exact .inr ((List.pairwise_append.1 h).2.2 x hx y (by simp))
  · exact .inl (by simpa using hx)
theorem mem_rest {ns : List (List UInt8)} {i : Nat} {m : List UInt8} (hm : ns[i]? = some m) (x : List UInt8) : x ∈ ns ↔ x = m ∨ x ∈ ns.take i ++ ns.drop (i + 1) := by
  obtain ⟨hi, e⟩ := List.getElem?_eq_some_iff.1 hm
  have h : ns = ns.take i ++ (m :: ns.drop (i + 1)) := by rw [← e, List.getElem_cons_drop, List.take_append_drop]
  constructor
  · intro hx
    rw [h] at hx
    rcases List.mem_append.1 hx with hx | hx
    · exact .inr (List.mem_append.2 (.inl hx))
    · rcases List.mem_cons.1 hx with hx | hx
      · exact .inl hx
      · exact .inr (List.mem_append.2 (.inr hx))
  · intro hx
    rw [h]
    rcases hx with rfl | hx
    · simp
    · rcases List.mem_append.1 hx with hx | hx
      · exact List.mem_append.2 (.inl hx)
      · exact List.mem_append.2 (.inr (List.mem_cons.2 (.inr hx)))
theorem Pick.step {q : Int} {M : ActD → Prop} {O : List ActD} {ns : List (List UInt8)} (h : Pick q M O ns) {i : Nat} {m : List UInt8} (hm : ns[i]? = some m) (hmin : ∀ n ∈ ns, Op.bytesLess n m = false) (z : Bool) (hz : z = true ↔ ¬ (O.getLast? = some ⟨q, m⟩)) :
    Pick q M (O ++ (if z = true then [⟨q, m⟩] else [])) (ns.take i ++ ns.drop (i + 1)) := by
  have hin : m ∈ ns := List.mem_of_getElem? hm
  have hr := mem_rest hm
  cases z with
  | false =>
    have hl : O.getLast? = some ⟨q, m⟩ := Classical.byContradiction fun hn => by have := hz.2 hn; cases this
    have hmO : (⟨q, m⟩ : ActD) ∈ O := List.mem_of_getLast? hl
    rw [if_neg (by decide), List.append_nil]
    refine ⟨h.s, fun x => ?_, fun x hx => ⟨(h.l x hx).1, fun e n hn => (h.l x hx).2 e n ((hr n).2 (.inr hn))⟩⟩
    rw [← h.m x]
    constructor
    · rintro (h1 | ⟨h1, h2⟩)
      · exact .inl h1
      · exact .inr ⟨h1, (hr _).2 (.inr h2)⟩
    · rintro (h1 | ⟨h1, h2⟩)
      · exact .inl h1
      · rcases (hr _).1 h2 with h3 | h3
        · left
          obtain ⟨xk, xn⟩ := x
          have h1 : xk = q := h1
          have h3 : xn = m := h3
          rw [h1, h3]; exact hmO
        · exact .inr ⟨h1, h3⟩
  | true =>
    have hl := hz.1 rfl
    rw [if_pos rfl]
    have hlt : ∀ x ∈ O, ltB x ⟨q, m⟩ = true := fun x hx => by
      rw [ltB_iff]
      obtain ⟨h1, h2⟩ := h.l x hx
      by_cases e : x.kind = q
      · right
        refine ⟨e, ?_⟩
        have h3 := h2 e m hin
        cases h4 : Op.bytesLess x.name m with
        | true => rfl
        | false =>
          exfalso
          have h5 : x.name = m := bl_tri h4 h3
          have hxe : x = ⟨q, m⟩ := by obtain ⟨xk, xn⟩ := x; have e : xk = q := e; have h5 : xn = m := h5; rw [e, h5]
          obtain ⟨y, hy⟩ : ∃ y, O.getLast? = some y := by
            cases hg : O.getLast? with
            | none => rw [List.getLast?_eq_none_iff] at hg; rw [hg] at hx; simp at hx
            | some y => exact ⟨y, rfl⟩
          rcases strict_last h.s hy hx with h6 | h6
          · exact hl (by rw [hy, ← h6, hxe])
          · have hyO : y ∈ O := List.mem_of_getLast? hy
            rw [ltB_iff] at h6
            obtain ⟨g1, g2⟩ := h.l y hyO
            rcases h6 with h6 | ⟨h6, h7⟩
            · rw [e] at h6; omega
            · have g3 := g2 (h6.symm.trans e) m hin
              rw [h5] at h7
              rw [h7] at g3; cases g3
      · left; show x.kind < q; omega
    refine ⟨List.pairwise_append.2 ⟨h.s, List.pairwise_singleton _ _, fun x hx y hy => ?_⟩, fun x => ?_, fun x hx => ?_⟩
    · rw [List.mem_singleton.1 hy]; exact hlt x hx
    · rw [← h.m x, List.mem_append, List.mem_singleton]
      constructor
      · rintro ((h1 | h1) | ⟨h1, h2⟩)
        · exact .inl h1
        · exact .inr (by rw [h1]; exact ⟨rfl, hin⟩)
        · exact .inr ⟨h1, (hr _).2 (.inr h2)⟩
      · rintro (h1 | ⟨h1, h2⟩)
        · exact .inl (.inl h1)
        · rcases (hr _).1 h2 with h3 | h3
          · left; right
            obtain ⟨xk, xn⟩ := x
            have h1 : xk = q := h1
            have h3 : xn = m := h3
            rw [h1, h3]
          · exact .inr ⟨h1, h3⟩
    · rcases List.mem_append.1 hx with hx | hx
      · exact ⟨(h.l x hx).1, fun e n hn => (h.l x hx).2 e n ((hr n).2 (.inr hn))⟩
      · rw [List.mem_singleton.1 hx]
        exact ⟨Int.le_refl _, fun _ n hn => hmin n ((hr n).2 (.inr hn))⟩
/-- a round begins -/
theorem Pick.start {q : Int} {M : ActD → Prop} {O : List ActD} {ns : List (List UInt8)} (hs : StrictA O) (hm : ∀ x, x ∈ O ↔ (1 ≤ x.kind ∧ x.kind < q ∧ M x)) (hq : 1 ≤ q) (hn : ∀ n, n ∈ ns ↔ M ⟨q, n⟩) : Pick q M O ns := by
  refine ⟨hs, fun x => ?_, fun x hx => ⟨by have := (hm x).1 hx; omega, fun e => by have := (hm x).1 hx; omega⟩⟩
  rw [hm x]
  constructor
  · rintro (⟨h1, h2, h3⟩ | ⟨h1, h2⟩)
    · exact ⟨h1, by omega, h3⟩
    · refine ⟨by omega, by omega, ?_⟩
      have := (hn _).1 h2
      rw [← h1] at this; exact this
  · rintro ⟨h1, h2, h3⟩
    by_cases e : x.kind = q
    · right
      refine ⟨e, (hn _).2 ?_⟩
      rw [← e]; exact h3
    · exact .inl ⟨h1, by omega, h3⟩
theorem Pick.stop {q : Int} {M : ActD → Prop} {O : List ActD} (h : Pick q M O []) : ∀ x, x ∈ O ↔ (1 ≤ x.kind ∧ x.kind < q + 1 ∧ M x) := fun x => by
  rw [← h.m x]; simp
/-- what the walk holds: both maps -/
structure MapsS (w0 w : World) (r1 r2 N1 N2 : Nat) (K : KMap) (R : List (List UInt8)) : Prop where
  kat : KAt w r1 N1 K
  aat : AAt w r2 N2 R
  k : Keeps (fun _ => False) w0 w
  ne : r1 ≠ r2
  lo1 : w0.heap.size ≤ r1
  lo2 : w0.heap.size ≤ r2
theorem MapsS.keep {w0 w w' : World} {r1 r2 N1 N2 : Nat} {K : KMap} {R : List (List UInt8)} (h : MapsS w0 w r1 r2 N1 N2 K R) (k : Keeps (fun _ => False) w w') : MapsS w0 w' r1 r2 N1 N2 K R :=
  ⟨h.kat.keep k id, h.aat.keep k id, h.k.trans k, h.ne, h.lo1, h.lo2⟩
theorem MapsS.keepF {F : Nat → Prop} {w0 w w' : World} {r1 r2 N1 N2 : Nat} {K : KMap} {R : List (List UInt8)} (h : MapsS w0 w r1 r2 N1 N2 K R) (k : Keeps F w w') (hF : ∀ i, F i → w.heap.size ≤ i) : MapsS w0 w' r1 r2 N1 N2 K R :=
  ⟨h.kat.keep k (fun f => by have := hF _ f; have := h.kat.lt; omega), h.aat.keep k (fun f => by have := hF _ f; have := h.aat.lt; omega), h.k.trans' k (fun i f => .inr (Nat.le_trans h.k.size (hF i f))), h.ne, h.lo1, h.lo2⟩
theorem MapsS.mono {w0 w : World} {r1 r2 N1 N2 M1 M2 : Nat} {K : KMap} {R : List (List UInt8)} (h : MapsS w0 w r1 r2 N1 N2 K R) (h1 : N1 ≤ M1) (h2 : N2 ≤ M2) : MapsS w0 w r1 r2 M1 M2 K R :=
  ⟨h.kat.mono h1, h.aat.mono h2, h.k, h.ne, h.lo1, h.lo2⟩
theorem MapsS.put {w0 w : World} {r1 r2 N1 N2 : Nat} {K : KMap} {R : List (List UInt8)} (h : MapsS w0 w r1 r2 N1 N2 K R) (hN : N1 < 1000000) (X : ByteArray) (hX : X.size ≤ maxLen) (k : Int) (hk : (Lit.int .i64 k).wf = true) :
    ∃ w', (Instr.mapUpdate 66 (.map (some r1)) (.string X) (.int .i64 k)).run Tryz.prog w = .ok () w' ∧ MapsS w0 w' r1 r2 (N1 + 1) N2 (updK K X.data.toList k) R := by
  obtain ⟨w', e1, e2, e3⟩ := h.kat.put hN X hX k hk
  exact ⟨w', e1, e2, h.aat.keep e3 (fun e => h.ne e.symm), h.k.trans' e3 (fun i e => .inr (by rw [e]; exact h.lo1)), h.ne, h.lo1, h.lo2⟩
theorem MapsS.area {w0 w : World} {r1 r2 N1 N2 : Nat} {K : KMap} {R : List (List UInt8)} (h : MapsS w0 w r1 r2 N1 N2 K R) (hN : N2 < 1000000) (X : ByteArray) (hX : X.size ≤ maxLen) :
    ∃ w', (Instr.mapUpdate 67 (.map (some r2)) (.string X) (.bool true)).run Tryz.prog w = .ok () w' ∧ MapsS w0 w' r1 r2 N1 (N2 + 1) K (R ++ [X.data.toList]) := by
  obtain ⟨w', e1, e2, e3⟩ := h.aat.put hN X hX
  exact ⟨w', e1, h.kat.keep e3 (fun e => h.ne e), e2, h.k.trans' e3 (fun i e => .inr (by rw [e]; exact h.lo2)), h.ne, h.lo1, h.lo2⟩
theorem MapsS.new (w : World) : MapsS w ((w.alloc (.map #[] 0)).alloc (.map #[] 0)) w.heap.size (w.alloc (.map #[] 0)).heap.size 0 0 (fun _ => none) [] :=
  ⟨(KAt.new w).keep ((Keeps.refl (fun _ => False) _).alloc _) id, AAt.new _, ((Keeps.refl _ _).alloc _).alloc _, by rw [alloc_size]; omega, Nat.le_refl _, by rw [alloc_size]; omega⟩
/-- what a change's line lays in the map -/
theorem ins1_step {X Y : List (List UInt8)} {cs : List ChD} {k : Nat} {c : ChD} (h : cs[k]? = some c) : kOf ((cs.take (k + 1)).flatMap (ins1 X Y)) = if c.line.head = 2 then updK (kOf ((cs.take k).flatMap (ins1 X Y))) c.line.name (minO (kOf ((cs.take k).flatMap (ins1 X Y)) c.line.name) (kindD X Y c)) else kOf ((cs.take k).flatMap (ins1 X Y)) := by
  rw [flat_take _ h]
  unfold ins1
  by_cases e : c.line.head = 2
  · rw [if_pos e, if_pos e, kOf_snoc]
  · rw [if_neg e, if_neg e, List.append_nil]
theorem class_kind : ∀ r ∈ tableD, r.head = 2 → 0 ≤ r.cl ∧ r.cl ≤ 5 ∧ leafK r.name = (if r.cl = 5 then 3 else if r.cl = 4 then 4 else if r.cl = 3 then 5 else if r.cl = 2 then 7 else if r.cl = 1 then 8 else 9) := by decide +kernel
theorem docCh_facts {a b : List LineD} (hra : rightC a = true) (hrb : rightC b = true) : (docCh a b).length ≤ 128 ∧ ∀ c ∈ docCh a b, c.line.name.length ≤ 100 := by
  constructor
  · rw [docCh_same (right_rises hra) (right_rises hrb)]
    have h1 := mergeC_len (a.length + b.length) a b (Nat.le_refl _)
    have h2 := right_len hra
    have h3 := right_len hrb
    omega
  · intro c hc
    obtain ⟨l, hl, rfl, -⟩ := mem_docCh.1 hc
    rcases List.mem_append.1 hl with hl | hl
    · exact (line_small (right_line hra l hl)).1
    · exact (line_small (right_line hrb l hl)).1
end Go.Proofs.YtmclnamgihphcaaGreat
/- What the walk of the document's plan holds in its last loop. -/
set_option linter.unusedVariables false
set_option linter.unusedSimpArgs false
namespace Go.Proofs.YtmclnamgihphcaaGreat
open Go.RowKit Go.Sort Go.Shelf

theorem OwnR.cells_at {α : Type} {t sz : Nat} {cv : α → List Value} {w0 w : World} {v : Value} {xs : List α} (h : OwnR t sz cv w0 w v xs) {k : Nat} (e : v.ownBlock = some k) : ∃ cs, w.heap[k]? = some (.cells cs t) := by
  rcases h.1.2 with ⟨e1, -⟩ | ⟨g, cap, cur, e1, -, hg, -⟩
  · rw [e1] at e; simp [Value.ownBlock] at e
  · rw [e1] at e
    simp only [Value.ownBlock, Option.some.injEq] at e
    subst e
    exact ⟨_, hg⟩
theorem KAt.map_at {w : World} {r N : Nat} {K : KMap} (h : KAt w r N K) : ∃ es c, w.heap[r]? = some (.map es c) := by obtain ⟨D, ⟨es, c, h1, -⟩, -⟩ := h; exact ⟨es, c, h1⟩
theorem AAt.map_at {w : World} {r N : Nat} {R : List (List UInt8)} (h : AAt w r N R) : ∃ es c, w.heap[r]? = some (.map es c) := by obtain ⟨D, ⟨es, c, h1, -⟩, -⟩ := h; exact ⟨es, c, h1⟩
theorem KRng.iter_at {w : World} {b r N cnt : Nat} {K : KMap} {L : List UInt8 → Bool} (h : KRng w b r N K L cnt) : ∃ a s n c, w.heap[r]? = some (.mapIter a s n c) := by
  obtain ⟨D, left, ⟨es, clock, since, seen, c0, -, -, -, -, h1, -⟩, -⟩ := h
  exact ⟨_, _, _, _, h1⟩
theorem ARng.iter_at {w : World} {b r N cnt : Nat} {R : List (List UInt8)} {L : List UInt8 → Bool} (h : ARng w b r N R L cnt) : ∃ a s n c, w.heap[r]? = some (.mapIter a s n c) := by
  obtain ⟨D, left, ⟨es, clock, since, seen, c0, -, -, -, -, h1, -⟩, -⟩ := h
  exact ⟨_, _, _, _, h1⟩
structure OutM (w0 w : World) (r1 r2 : Nat) (K : KMap) (R : List (List UInt8)) (ov nv : Value) (O : List ActD) (ns : List (List UInt8)) : Prop where
  m : MapsS w0 w r1 r2 100000 1000 K R
  o : OwnR 43 2 aVals w0 w ov O
  n : OwnR 9 1 nv1 w0 w nv ns
section
variable {w0 w w' : World} {r1 r2 : Nat} {K : KMap} {R : List (List UInt8)} {ov nv : Value} {O : List ActD} {ns : List (List UInt8)}
theorem OutM.keep (h : OutM w0 w r1 r2 K R ov nv O ns) (k : Keeps (fun _ => False) w w') : OutM w0 w' r1 r2 K R ov nv O ns := ⟨h.m.keep k, h.o.keep k (fun _ _ f => f), h.n.keep k (fun _ _ f => f)⟩
theorem OutM.iter (h : OutM w0 w r1 r2 K R ov nv O ns) {ir : Nat} (k : Keeps (fun i => i = ir) w w') (hi : ∃ a s n c, w.heap[ir]? = some (.mapIter a s n c)) (hlo : w0.heap.size ≤ ir) : OutM w0 w' r1 r2 K R ov nv O ns := by
  obtain ⟨a, s, n, c, hi⟩ := hi
  have h1 : r1 ≠ ir := fun e => by obtain ⟨es, c2, h1⟩ := h.m.kat.map_at; rw [e, hi] at h1; cases h1
  have h2 : r2 ≠ ir := fun e => by obtain ⟨es, c2, h1⟩ := h.m.aat.map_at; rw [e, hi] at h1; cases h1
  refine ⟨⟨h.m.kat.keep k h1, h.m.aat.keep k h2, h.m.k.trans' k (fun i e => .inr (by rw [e]; exact hlo)), h.m.ne, h.m.lo1, h.m.lo2⟩, h.o.keep k (fun i e e2 => ?_), h.n.keep k (fun i e e2 => ?_)⟩
  · obtain ⟨cs, h3⟩ := h.o.cells_at e
    rw [e2, hi] at h3; cases h3
  · obtain ⟨cs, h3⟩ := h.n.cells_at e
    rw [e2, hi] at h3; cases h3
theorem MapsS.grown {α : Type} {t sz : Nat} {cv : α → List Value} {v : Value} {xs : List α} {N1 N2 : Nat} (h : MapsS w0 w r1 r2 N1 N2 K R) (hv : OwnR t sz cv w0 w v xs) {p : Option Addr} {n c : Nat} (g : Grown w v p n c w') : MapsS w0 w' r1 r2 N1 N2 K R := by
  refine ⟨h.kat.keep g.k (fun e => ?_), h.aat.keep g.k (fun e => ?_), hv.keeps h.k g, h.ne, h.lo1, h.lo2⟩
  · obtain ⟨cs, h3⟩ := hv.cells_at e
    obtain ⟨es, c2, h1⟩ := h.kat.map_at
    rw [h3] at h1; cases h1
  · obtain ⟨cs, h3⟩ := hv.cells_at e
    obtain ⟨es, c2, h1⟩ := h.aat.map_at
    rw [h3] at h1; cases h1
theorem own_apart {α β : Type} {t t2 sz sz2 : Nat} {cv : α → List Value} {cv2 : β → List Value} {v v2 : Value} {xs : List α} {ys : List β} (h : OwnR t sz cv w0 w v xs) (h2 : OwnR t2 sz2 cv2 w0 w v2 ys) (hne : t ≠ t2) : ∀ k, v.ownBlock = some k → ¬ v2.ownBlock = some k := fun k e e2 => by
  obtain ⟨cs, h3⟩ := h.cells_at e
  obtain ⟨cs2, h4⟩ := h2.cells_at e2
  rw [h3] at h4
  injection h4 with h4
  injection h4 with _ h4
  exact hne h4
theorem OutM.more_n (h : OutM w0 w r1 r2 K R ov nv O ns) {p : Option Addr} {n c : Nat} {ns' : List (List UInt8)} (g : Grown w nv p n c w') (hn : OwnR 9 1 nv1 w0 w' (.slice p n c) ns') : OutM w0 w' r1 r2 K R ov (.slice p n c) O ns' :=
  ⟨h.m.grown h.n g, h.o.keep g.k (fun i e => own_apart h.o h.n (by decide) i e), hn⟩
theorem OutM.more_o (h : OutM w0 w r1 r2 K R ov nv O ns) {p : Option Addr} {n c : Nat} {O' : List ActD} (g : Grown w ov p n c w') (ho : OwnR 43 2 aVals w0 w' (.slice p n c) O') : OutM w0 w' r1 r2 K R (.slice p n c) nv O' ns :=
  ⟨h.m.grown h.o g, ho, h.n.keep g.k (fun i e => own_apart h.n h.o (by decide) i e)⟩
theorem KRng.grown {b ir N cnt : Nat} {K : KMap} {L : List UInt8 → Bool} (h : KRng w b ir N K L cnt) {α : Type} {t sz : Nat} {cv : α → List Value} {v : Value} {xs : List α} (hv : OwnR t sz cv w0 w v xs) {p : Option Addr} {n c : Nat} (g : Grown w v p n c w') : KRng w' b ir N K L cnt := by
  refine h.keep g.k (fun e => ?_) (fun e => ?_)
  · obtain ⟨cs, h3⟩ := hv.cells_at e
    obtain ⟨es, c2, h1⟩ := h.at.map_at
    rw [h3] at h1; cases h1
  · obtain ⟨cs, h3⟩ := hv.cells_at e
    obtain ⟨a, s, n, c, h1⟩ := h.iter_at
    rw [h3] at h1; cases h1
theorem ARng.grown {b ir N cnt : Nat} {R : List (List UInt8)} {L : List UInt8 → Bool} (h : ARng w b ir N R L cnt) {α : Type} {t sz : Nat} {cv : α → List Value} {v : Value} {xs : List α} (hv : OwnR t sz cv w0 w v xs) {p : Option Addr} {n c : Nat} (g : Grown w v p n c w') : ARng w' b ir N R L cnt := by
  refine h.keep g.k (fun e => ?_) (fun e => ?_)
  · obtain ⟨cs, h3⟩ := hv.cells_at e
    obtain ⟨es, c2, h1⟩ := h.at.map_at
    rw [h3] at h1; cases h1
  · obtain ⟨cs, h3⟩ := hv.cells_at e
    obtain ⟨a, s, n, c, h1⟩ := h.iter_at
    rw [h3] at h1; cases h1
end
theorem own_newS (w : World) (x : List UInt8) : OwnR 9 1 nv1 w (w.alloc (.cells (nv1 x).toArray 9)) (.slice (some ⟨w.heap.size, 0, none⟩) 1 1) [x] := by
  refine ⟨⟨by simp [rowCells, nv1], .inr ⟨w.heap.size, 1, (nv1 x).toArray, rfl, Nat.zero_le _, heap_alloc_last w _, by simp, by unfold maxLen; simp, by simp [nv1], by simp [rowCells, nv1]⟩⟩, fun k e => by simp [Value.ownBlock] at e; omega, ((Keeps.refl (fun _ => False) w).alloc _).size⟩
theorem own_newS0 (w0 w : World) (h : w0.heap.size ≤ w.heap.size) : OwnR 9 1 nv1 w0 (w.alloc (.cells #[] 9)) (.slice (some ⟨w.heap.size, 0, none⟩) 0 0) [] := by
  refine ⟨⟨by simp [rowCells], .inr ⟨w.heap.size, 0, #[], rfl, Nat.zero_le _, heap_alloc_last w _, by simp, by unfold maxLen; simp, by simp, by simp [rowCells]⟩⟩, fun k e => by simp [Value.ownBlock] at e; omega, Nat.le_trans h ((Keeps.refl (fun _ => False) w).alloc _).size⟩
theorem strv_b (V : ByteArray) : strv V.data.toList = .string V := by cases V; simp [strv]
theorem cells_newS (X : ByteArray) {w : World} {n : Nat} (hn : n = w.heap.size) (t : TypeId) : ∀ j u, (nv1 X.data.toList)[j]? = some u → (w.alloc (.cells #[.string X] t)).cell? ((⟨n, 0, none⟩ : Addr).add j) = some u := by
  unfold nv1
  rw [strv_b]
  exact cells_new hn [.string X] t
theorem act_neqb17 (W : World) (h1 h2 : Int) (n1 n2 : ByteArray) (z : Bool) (hz : (z = false) ↔ (h1 = h2 ∧ n1.toList = n2.toList)) :
    (binOp .neq 43 (.agg #[.int .i64 h1, .string n1]) (.agg #[.int .i64 h2, .string n2])).run Tryz.prog W = .ok (.bool z) W := by
  by_cases e1 : h1 = h2
  · subst e1
    by_cases e2 : n1.toList = n2.toList
    · obtain rfl : z = false := hz.2 ⟨rfl, e2⟩
      go_simp
    · obtain rfl : z = true := by cases z with | true => rfl | false => exact absurd (hz.1 rfl).2 e2
      go_simp
  · obtain rfl : z = true := by cases z with | true => rfl | false => exact absurd (hz.1 rfl).1 e1
    go_simp
/-- the names that have come out of the map -/
def Came (K : KMap) (L : List UInt8 → Bool) (q : Int) (ns : List (List UInt8)) : Prop := ∀ x, x ∈ ns ↔ (K x = some q ∧ L x = false)
theorem Came.start (K : KMap) (q : Int) : Came K (fun x => (K x).isSome) q [] := fun x => by
  constructor
  · intro h; simp at h
  · rintro ⟨h1, h2⟩
    have h2 : (K x).isSome = false := h2
    rw [h1] at h2; cases h2
theorem Came.step {K : KMap} {L : List UInt8 → Bool} {q k : Int} {ns : List (List UInt8)} (h : Came K L q ns) {x : List UInt8} (hL : L x = true) (hk : K x = some k) : Came K (fun z => L z && !decide (z = x)) q (if k = q then ns ++ [x] else ns) := fun z => by
  have hz := h z
  by_cases e : z = x
  · subst e
    rw [hk]
    have hn : ¬ z ∈ ns := fun h2 => by have := (hz.1 h2).2; rw [hL] at this; cases this
    by_cases e2 : k = q
    · rw [if_pos e2]; simp [e2]
    · rw [if_neg e2]; simp [hn, e2]
  · have e3 : (z ∈ (if k = q then ns ++ [x] else ns)) ↔ z ∈ ns := by split <;> simp [e]
    rw [e3, hz]; simp [e]
theorem Came.stop {K : KMap} {L : List UInt8 → Bool} {q : Int} {ns : List (List UInt8)} (h : Came K L q ns) (hL : ∀ x, L x = false) : ∀ x, x ∈ ns ↔ K x = some q := fun x => by rw [h x, hL x]; simp
/-- then the areas' -/
def Came2 (ns0 R : List (List UInt8)) (L : List UInt8 → Bool) (q : Int) (ns : List (List UInt8)) : Prop := ∀ x, x ∈ ns ↔ (x ∈ ns0 ∨ (q = 7 ∧ x ∈ R ∧ L x = false))
theorem Came2.start (ns0 R : List (List UInt8)) (q : Int) : Came2 ns0 R (fun x => decide (x ∈ R)) q ns0 := fun x => by
  constructor
  · exact .inl
  · rintro (h | ⟨-, h1, h2⟩)
    · exact h
    · have h2 : decide (x ∈ R) = false := h2
      rw [decide_eq_true h1] at h2; cases h2
theorem Came2.step {ns0 R : List (List UInt8)} {L : List UInt8 → Bool} {q : Int} {ns : List (List UInt8)} (h : Came2 ns0 R L q ns) {x : List UInt8} (hR : x ∈ R) : Came2 ns0 R (fun z => L z && !decide (z = x)) q (if q = 7 then ns ++ [x] else ns) := fun z => by
  have hz := h z
  by_cases e2 : q = 7
  · rw [if_pos e2, List.mem_append, List.mem_singleton, hz]
    by_cases e : z = x
    · subst e; simp [e2, hR]
    · simp [e]
  · rw [if_neg e2, hz]; simp [e2]
theorem Came2.stop {ns0 R : List (List UInt8)} {L : List UInt8 → Bool} {q : Int} {ns : List (List UInt8)} (h : Came2 ns0 R L q ns) (hL : ∀ x, L x = false) : ∀ x, x ∈ ns ↔ (x ∈ ns0 ∨ (q = 7 ∧ x ∈ R)) := fun x => by rw [h x, hL x]; simp
end Go.Proofs.YtmclnamgihphcaaGreat
