/- A region of two phases (an assignment of several): what is done ahead only reads, what is done behind it writes. Behind each of the first n the world's condition stays, if it held; a load is taken first if all that write wait for it. -/
import Derived.Test.YtdannodhlaaoiaaGreatDoorWT09
import Derived.Deep.DeepCutAuto
import Derived.Test.YtdannodhlaaoiaaGreatDoorWT35
import Derived.Deep.AppendSrc
import Derived.Deep.DeepAppendWide
import Derived.Lib.AppendStr
set_option linter.unusedVariables false
set_option linter.unusedSimpArgs false
namespace Go.Proofs.YtdannodhlaaoiaaGreatDoor
open Go.RowKit

/-- each operation from n on waits for operation i -/
def phaseB (md : Region.Mode) (ops : Array Oper) (n i : Nat) : Bool :=
  decide (i < n) && (List.range ops.size).all fun t => decide (t < n) || ((ops[t]?).map fun o => o.after.any fun e => Region.binds md e && e.on == i).getD true
section
variable {P : Program} {ops : Array Oper} {Q : Exit → Act → World → Prop} {md : Region.Mode} {S : World → Prop} {n : Nat}
theorem phaseB_lt {i j : Nat} {oj : Oper} (h : phaseB md ops n i = true) (hj : ops[j]? = some oj) (hno : ∀ e ∈ oj.after, Region.binds md e = true → e.on ≠ i) : j < n := by
  unfold phaseB at h
  rw [Bool.and_eq_true] at h
  have h1 := List.all_eq_true.1 h.2 j (List.mem_range.2 (Array.getElem?_eq_some_iff.1 hj).1)
  rw [Bool.or_eq_true] at h1
  rcases h1 with h1 | h1
  · exact of_decide_eq_true h1
  · rw [hj] at h1
    simp only [Option.map_some, Option.getD_some] at h1
    obtain ⟨e, he, hb⟩ := Array.any_eq_true'.1 h1
    rw [Bool.and_eq_true] at hb
    exact absurd (by simpa using hb.2) (hno e he hb.1)
/-- whatever order; each of the first n keeps S -/
def wpX (P : Program) (md : Region.Mode) (ops : Array Oper) (Q : Exit → Act → World → Prop) (n : Nat) (S : World → Prop) : Nat → Array Bool → Act → World → Prop
  | 0, L, a, w => Region.ready md ops L = [] ∧ Q .normal a w
  | f + 1, L, a, w => (Region.ready md ops L = [] → Q .normal a w) ∧ ∀ i ∈ Region.ready md ops L, wpOp P ops Q i (fun a' w' => (i < n → S w → S w') ∧ wpX P md ops Q n S f (L.setIfInBounds i true) a' w') a w
theorem wpAny_of_X : ∀ (f : Nat) (L : Array Bool) (a : Act) (w : World), wpX P md ops Q n S f L a w → wpAny P md ops Q f L a w
  | 0, _, _, _, h => h
  | f + 1, _, _, _, h => ⟨h.1, fun i hi => wpOp_mono (fun _ _ h' => wpAny_of_X f _ _ _ h'.2) (h.2 i hi)⟩
/-- all of the first n have come up: no condition is asked for any more -/
theorem wpX_tail : ∀ (f : Nat) (L : Array Bool) (a : Act) (w : World), (∀ i, i < n → L.getD i true = true) → wpAnyH P md ops Q (fun _ => True) f L a w → wpX P md ops Q n S f L a w
  | 0, _, _, _, _, h => h
  | f + 1, L, _, _, hL, h => ⟨h.1, fun i hi => wpOp_mono (fun _ _ h' => ⟨fun hin _ => (by have := (mem_ready.1 hi).1; rw [hL i hin] at this; cases this), wpX_tail f _ _ _ (fun j hj => by
      by_cases e : i = j
      · subst e; have := (mem_ready.1 hi).1; rw [hL i hj] at this; cases this
      · rw [getD_set_ne true e]; exact hL j hj) h'.2⟩) (h.2 i hi)⟩
theorem wpX_takeG (S' : World → Prop) {i : Nat} {oi : Oper} {v : Value} (hi : ops[i]? = some oi) (hs : Region.noSelect ops = true)
    (hp : ∀ j oj, ops[j]? = some oj → (∀ e ∈ oj.after, Region.binds md e = true → e.on ≠ i) → ∀ w w', S' w → (j < n → S w → S w') → S' w')
    (hQ : ∀ c a w, Q (.panic c) (a.put oi.dst v) w → Q (.panic c) a w) : ∀ (f : Nat) (L : Array Bool) (a : Act) (w : World),
      (∀ j oj, ops[j]? = some oj → j ≠ i → L.getD j true = false → (∀ e ∈ oj.after, Region.binds md e = true → e.on ≠ i) → oi.apart ops oj = true) →
      i ∈ Region.ready md ops L → YieldsIf P ops S' oi v a → S' w → wpX P md ops Q n S f (L.setIfInBounds i true) (a.put oi.dst v) w → wpX P md ops Q n S (f + 1) L a w := by
  intro f
  induction f with
  | zero =>
    intro L a w _ hr hy hS H
    refine ⟨fun h => absurd (h ▸ hr) (by simp), fun j hj => ?_⟩
    by_cases e : j = i
    · subst e; exact hy.wpOp hi hS ⟨fun _ h => h, H⟩
    · have := ready_mono hj e
      rw [H.1] at this; cases this
  | succ f ih =>
    intro L a w hfree hr hy hS H
    refine ⟨fun h => absurd (h ▸ hr) (by simp), fun j hj => ?_⟩
    by_cases e : j = i
    · subst e; exact hy.wpOp hi hS ⟨fun _ h => h, H⟩
    obtain ⟨hun, oj, hoj, hall⟩ := mem_ready.1 hj
    have hno : ∀ e ∈ oj.after, Region.binds md e = true → e.on ≠ i := fun e he hb hon => by
      have h1 := hall e he hb
      have h0 := (mem_ready.1 hr).1
      rw [hon] at h1
      rcases Nat.lt_or_ge i L.size with h' | h'
      · simp [h'] at h0 h1; rw [h0] at h1; cases h1
      · simp [Array.getElem?_eq_none h'] at h1
    have h2 := wpOp_putIf hoj (hfree j oj hoj e hun hno) (fun cs b => Region.noSelect_spec hs i oi cs b hi) (fun cs b => Region.noSelect_spec hs j oj cs b hoj) hQ hy (H.2 j (ready_mono hj e))
    refine wpOp_mono (fun a' w' h3 => ⟨h3.2.1, ih _ a' w' (fun k ok hk hki hku hkn => hfree k ok hk hki ?_ hkn) (ready_mono hr (Ne.symm e)) h3.1 (hp j oj hoj hno w w' hS h3.2.1) ?_⟩) h2
    · by_cases e2 : j = k
      · subst e2; exact hun
      · rwa [getD_set_ne true e2] at hku
    · rw [Array.setIfInBounds_comm _ _ e]; exact h3.2.2
theorem phaseB_keep {i : Nat} (h : phaseB md ops n i = true) : ∀ j oj, ops[j]? = some oj → (∀ e ∈ oj.after, Region.binds md e = true → e.on ≠ i) → ∀ w w', S w → (j < n → S w → S w') → S w' :=
  fun _ _ hj hno _ _ hS hk => hk (phaseB_lt h hj hno) hS
theorem wp_region_phase {id : Nat} {a : Act} {w : World} (n : Nat) (hm : P.follows .mixedOrders = true) (hS : S w.drew)
    (h : S w.drew → wpX P .any ops Q n S ops.size (Array.replicate ops.size false) a w.drew) : (Code.region id ops true).wp P Q a w :=
  wp_region_any hm (wpAny_of_X _ _ _ _ (h hS))
end
section
variable {P : Program} {l : List Oper} {Q : Exit → Act → World → Prop} {md : Region.Mode} {S : World → Prop} {n : Nat}
theorem tkx (i : Nat) {oi : Oper} {v : Value} {fuel : Nat} {listed : Array Bool} {a a' : Act} {w : World} (hi : l[i]? = some oi) (h : wpX P md l.toArray Q n S fuel (listed.setIfInBounds i true) a' w)
    (hs : Region.noSelect l.toArray = true := by kernel_rfl) (hf : Region.free md l.toArray listed i = true := by kernel_rfl) (hr : (Region.ready md l.toArray listed).contains i = true := by kernel_rfl) (hw : Region.wanted oi (yielded l.toArray a.tmps) = true := by rfl) (hy : ∀ w, (execOp a.eval oi).run P w = .ok (.value v) w := by (intro wS; go_simp; try with_reducible rfl))
    (ha : a.put oi.dst v = a' := by (try simp only [Act.put, sA, sZ, sS]; rfl))
    (hQ : ∀ c a w, Q (.panic c) (a.put oi.dst v) w → Q (.panic c) a w := by exact fun _ _ _ h => h) : wpX P md l.toArray Q n S (fuel + 1) listed a w :=
  wpX_takeG (fun _ => True) (by simpa using hi) hs (fun _ _ _ _ _ _ _ _ => trivial) hQ fuel listed a w (Region.free_spec (by simpa using hi) hf) (by simpa using hr) (Or.inl ⟨hw, fun w _ => hy w⟩) trivial (by rw [ha]; exact h)
theorem tkxL (i : Nat) {oi : Oper} {v : Value} {fuel : Nat} {listed : Array Bool} {a a' : Act} {w : World} (hi : l[i]? = some oi) (hy : YieldsIf P l.toArray S oi v a) (h : wpX P md l.toArray Q n S fuel (listed.setIfInBounds i true) a' w)
    (hs : Region.noSelect l.toArray = true := by kernel_rfl) (hf : Region.free md l.toArray listed i = true := by kernel_rfl) (hr : (Region.ready md l.toArray listed).contains i = true := by kernel_rfl) (hp : phaseB md l.toArray n i = true := by kernel_rfl)
    (ha : a.put oi.dst v = a' := by (try simp only [Act.put, sA, sZ, sS]; rfl))
    (hQ : ∀ c a w, Q (.panic c) (a.put oi.dst v) w → Q (.panic c) a w := by exact fun _ _ _ h => h) (hS : S w := by assumption) : wpX P md l.toArray Q n S (fuel + 1) listed a w :=
  wpX_takeG S (by simpa using hi) hs (phaseB_keep hp) hQ fuel listed a w (Region.free_spec (by simpa using hi) hf) (by simpa using hr) hy hS (by rw [ha]; exact h)
end
end Go.Proofs.YtdannodhlaaoiaaGreatDoor
/- A region of two phases with a call in its first one; hold. -/
set_option linter.unusedVariables false
set_option linter.unusedSimpArgs false
namespace Go.Proofs.YtdannodhlaaoiaaGreatDoor
open Go.RowKit

section
variable {P : Program} {l : List Oper} {Q : Exit → Act → World → Prop} {md : Region.Mode} {S : World → Prop} {n : Nat}
theorem stepX (i : Nat) {fuel : Nat} {listed : Array Bool} {a : Act} {w : World} {o : Oper} (ho : l[i]? = some o) (hr : Region.ready md l.toArray listed = [i]) (hw : Region.wanted o (yielded l.toArray a.tmps) = true)
    (h : ∀ K' : Act → World → Prop, Shut (∀ a' w', ((i < n → S w → S w') ∧ wpX P md l.toArray Q n S fuel (listed.setIfInBounds i true) a' w') → K' a' w') → Oper.wp P o a w K' Q) :
    wpX P md l.toArray Q n S (fuel + 1) listed a w := by
  refine ⟨fun e => (by rw [hr] at e; cases e), fun j hj => ?_⟩
  rw [hr] at hj
  obtain rfl : j = i := by simpa using hj
  unfold wpOp
  have ho' : l.toArray[j]? = some o := by simpa using ho
  rw [ho']
  simp only [hw, if_true]
  exact .inl (h _ (fun _ _ h => h))
end
theorem allB {n : Nat} {L : Array Bool} (h : ((List.range n).all fun i => L.getD i true) = true) : ∀ i, i < n → L.getD i true = true := fun i hi => List.all_eq_true.1 h i (List.mem_range.2 hi)
section
variable [Inhabited BaseN]
/-- sectors that entries take -/
def usedOf (L : List (List UInt8)) : Nat := L.foldl (fun n l => n + takes l.length) 0
end
theorem usedOf_snoc (L : List (List UInt8)) (l : List UInt8) : usedOf (L ++ [l]) = usedOf L + takes l.length := by unfold usedOf; rw [List.foldl_append]; rfl
theorem usedOf_le (X : List (List UInt8)) (h : ∀ l ∈ X, l.length ≤ 10000) : usedOf X ≤ X.length * 1000 := by
  have key : ∀ (X : List (List UInt8)) (n : Nat), (∀ l ∈ X, l.length ≤ 10000) → X.foldl (fun n l => n + takes l.length) n ≤ n + X.length * 1000 := by
    intro X
    induction X with
    | nil => intro n _; simp
    | cons y X ih =>
      intro n h
      have h1 := ih (n + takes y.length) (fun z hz => h z (by simp [hz]))
      have h2 := h y (by simp)
      have h3 : takes y.length ≤ 1000 := by unfold takes; omega
      rw [List.foldl_cons, List.length_cons]; omega
  have := key X 0 h
  unfold usedOf; omega
theorem JHead.set3 {w : World} {jb db gen half : Nat} {ev : Value} {used : Nat} {ended : Bool} (h : JHead w jb db gen half ev used ended) (v : Value) : JHead (w.setCell ⟨jb, 3, none⟩ v) jb db gen half v used ended := ⟨by rw [heap_put h.hd]; rfl⟩
theorem JHead.set4 {w : World} {jb db gen half : Nat} {ev : Value} {used : Nat} {ended : Bool} (h : JHead w jb db gen half ev used ended) (n : Nat) : JHead (w.setCell ⟨jb, 4, none⟩ (.int .i64 n)) jb db gen half ev n ended := ⟨by rw [heap_put h.hd]; rfl⟩
set_option maxRecDepth 100000 in
set_option maxHeartbeats 4000000 in
theorem hold_any (jb db gen half : Nat) (ev0 : Value) (used0 : Nat) (ended : Bool) (v : Value) (L : List (List UInt8)) (w : World) (hJ : Hid (JHead w jb db gen half ev0 used0 ended)) (hv : Hid (EntsAt w v L)) (hL : L.length ≤ 1000) (hl : Hid (∀ l ∈ L, l.length ≤ 10000)) (hne : Hid (∀ g, v.ownBlock = some g → g ≠ jb)) :
    Calls Tryz.prog 49 #[.pointer (some ⟨jb, 0, none⟩), v] w fun e w' => e = .returned (.tuple #[]) ∧ JHead w' jb db gen half v (usedOf L) ended ∧ Keeps (fun i => i = jb) w w' := by
  obtain ⟨p, c, rfl⟩ := hv.out.slice
  have c3 := hJ.out.c3
  have c4 := hJ.out.c4
  have f3 := hJ.out.fr 3
  have f4 := hJ.out.fr 4
  go_enter Tryz.func49, Tryz.ntmps49
  go_wp2_with fail
  have hJ0 : Hid (JHead ((w.setCell ⟨jb, 3, none⟩ (.slice p L.length c)).setCell ⟨jb, 4, none⟩ (.int .i64 0)) jb db gen half (.slice p L.length c) 0 ended) := Lib.hid ((hJ.out.set3 _).set4 0)
  have hK0 : Hid (Keeps (fun i => i = jb) w ((w.setCell ⟨jb, 3, none⟩ (.slice p L.length c)).setCell ⟨jb, 4, none⟩ (.int .i64 0))) := Lib.hid (Keeps.setCell (F := fun i => i = jb) (Keeps.setCell (F := fun i => i = jb) (Keeps.refl _ _) (p := ⟨jb, 3, none⟩) (.inl rfl) _) (p := ⟨jb, 4, none⟩) (.inl rfl) _)
  generalize (w.setCell ⟨jb, 3, none⟩ (.slice p L.length c)).setCell ⟨jb, 4, none⟩ (.int .i64 0) = w1 at hJ0 hK0 ⊢
  clear c3 c4 f3 f4 hJ
  go_loopw [15] (fun iv wr => ∃ (k : Nat), k ≤ L.length ∧ iv = .int .i64 k ∧ Hid (JHead wr jb db gen half (.slice p L.length c) (usedOf (L.take k)) ended) ∧ Hid (Keeps (fun i => i = jb) w wr)) (fun iv _ => L.length - (intOf iv).toNat)
  case atStart => exact ⟨0, by omega, rfl, hJ0, hK0⟩
  case round =>
    obtain ⟨k, hk, rfl, hJk, hKk⟩ := hrel
    by_cases hlk : k < L.length
    · obtain ⟨l, hx⟩ : ∃ x, L[k]? = some x := ⟨_, List.getElem?_eq_getElem hlk⟩
      obtain ⟨g, o, q, d, rfl, hc0, hb0⟩ := hv.out.get hx
      have hgn : g ≠ jb := hne.out g rfl
      have hc1 : wr.cell? ⟨g, o + k, none⟩ = some (.slice q l.length d) := (hKk.out.cell (p := ⟨g, o + k, none⟩) (World.block_lt_of_cell? w _ hc0) hgn).trans hc0
      have s2 := hl.out l (List.mem_of_getElem? hx)
      obtain ⟨u, hu⟩ : ∃ u, usedOf (L.take k) = u := ⟨_, rfl⟩
      obtain ⟨T, hT⟩ : ∃ T, takes l.length = T := ⟨_, rfl⟩
      have hst : Hid (usedOf (L.take (k + 1)) = u + T) := Lib.hid (by
        obtain ⟨h2, e⟩ := List.getElem?_eq_some_iff.1 hx
        rw [List.take_succ_eq_append_getElem h2, e, usedOf_snoc, hu, hT])
      have hul : u ≤ k * 1000 := by
        rw [← hu]
        have h1 := usedOf_le (L.take k) (fun l hl2 => hl.out l (List.mem_of_mem_take hl2))
        rw [List.length_take] at h1
        have : min k L.length ≤ k := Nat.min_le_left _ _
        omega
      have hTl : T ≤ 1000 := by rw [← hT]; unfold takes; omega
      have hTk := Lib.hid (fun W => takes_any l.length (by omega) W)
      rw [hT] at hTk
      rw [hu] at hJk
      have c4 := hJk.out.c4
      have f4 := hJk.out.fr 4
      have hjl := Lib.hid (lt_of_block hJk.out.hd)
      have m1 : (0 : Int) ≤ (k : Int) := by omega
      have m2 : (k : Int) < (L.length : Int) := by omega
      have e7 : IntKind.i64.wrap ((u : Int) + (T : Int)) = ((u + T : Nat) : Int) := by rw [IntWalk.i64_in _ (by omega)]; omega
      clear hc0 hb0 hx hu hT
      go_upto_region 4 with fail
      clear hc1
      refine wp_region_noPanic ?_
      refine wp_region_phase (S := fun W => Keeps (fun _ => False) wr W) 8 (by kernel_rfl) ((Keeps.refl _ _).drew) (fun hHeld => ?_)
      refine tkx 0 rfl ?_
      refine tkx 1 rfl ?_
      refine tkx 2 rfl ?_
      refine tkxL 3 rfl (yieldsIf_load_cell (by rfl) 3 (.tmp 21) rfl jb 4 rfl _ (fun _ s => (s.cell (p := ⟨jb, 4, none⟩) hjl.out id).trans c4) (fun w s => load_int w _ _ _ s)) ?_
      refine tkx 4 rfl ?_
      refine tkx 5 rfl ?_
      refine stepX 6 rfl (by kernel_rfl) rfl (fun K hK => ?_)
      go_simp
      refine (hTk.out _).mono ?_
      rintro e w9 ⟨rfl, rfl⟩
      go_wp2_with fail
      refine hK _ _ ⟨fun _ h => h, ?_⟩
      clear hK K
      refine tkx 7 rfl ?_
      refine wpX_tail _ _ _ _ (allB (by kernel_rfl)) ?_
      have hJ1 : Hid (JHead wr.drew jb db gen half (.slice (some ⟨g, o, none⟩) L.length c) u ended) := Lib.hid (hJk.out.keep ((Keeps.refl (fun _ => False) _).drew) id)
      have hK1 : Hid (Keeps (fun i => i = jb) w wr.drew) := Lib.hid hKk.out.drew
      generalize wr.drew = W1 at hJ1 hK1 ⊢
      clear hHeld c4 f4
      have f4 := hJ1.out.fr 4
      have c4 := hJ1.out.c4
      have hHeld : (fun _ : World => True) W1 := trivial
      refine tk 8 rfl ?_
      refine tk 9 rfl ?_
      refine stepL 10 rfl (by kernel_rfl) (fun K hK => ?_)
      go_simp
      refine hK.out _ _ (trivial) (fun hHeld => ?_)
      clear hK K
      try simp only [Act.put, sA, sZ, sS]
      refine wpAnyH_done (by kernel_rfl) (NoPanic.normal ?_) _
      have hJ2 : Hid (JHead (W1.setCell ⟨jb, 4, none⟩ (.int .i64 ((u + T : Nat) : Int))) jb db gen half (.slice (some ⟨g, o, none⟩) L.length c) (u + T) ended) := Lib.hid (hJ1.out.set4 _)
      have hK2 : Hid (Keeps (fun i => i = jb) w (W1.setCell ⟨jb, 4, none⟩ (.int .i64 ((u + T : Nat) : Int)))) := Lib.hid (Keeps.setCell (F := fun i => i = jb) hK1.out (p := ⟨jb, 4, none⟩) (.inl rfl) _)
      have e8 : ((u : Int) + (T : Int)) = ((u + T : Nat) : Int) := by omega
      rw [e8]
      clear hJ1 hK1 f4 c4 hHeld e7 e8
      go_wp2_with fail
      exact ⟨⟨k + 1, by omega, by go_num, by rw [hst.out]; exact hJ2, hK2⟩, by simp [intOf]; omega⟩
    · obtain rfl : k = L.length := by omega
      rw [List.take_length] at hJk
      go_wp2_with fail
      go_end0
      exact ⟨rfl, hJk.out, hKk.out⟩
end Go.Proofs.YtdannodhlaaoiaaGreatDoor
/- readHalf. -/
set_option linter.unusedVariables false
set_option linter.unusedSimpArgs false
namespace Go.Proofs.YtdannodhlaaoiaaGreatDoor
open Go.RowKit
section
variable [Inhabited BaseN]

/-- a half's bytes, as they are read: of so many sectors -/
def halfB (D : Dk) (s : Nat) : Nat → List UInt8
  | 0 => []
  | k + 1 => halfB D s k ++ D.la (s + k)
theorem la_len {D : Dk} {w : World} (h : DkAt D w) {i : Nat} (hi : i < D.n) : (D.la i).length = 64 := by
  obtain ⟨v, hm, -⟩ := h
  exact hm.secs.lla i hi
theorem halfB_len {D : Dk} {w : World} (h : DkAt D w) (s : Nat) : ∀ k, s + k ≤ D.n → (halfB D s k).length = k * 64 := by
  intro k
  induction k with
  | zero => intro _; rfl
  | succ k ih =>
    intro hk
    unfold halfB
    rw [List.length_append, ih (by omega), la_len h (by omega)]; omega
set_option maxRecDepth 100000 in
set_option maxHeartbeats 4000000 in
theorem readHalf_any (D : Dk) (half : Nat) (w : World) (hD : Hid (DkAt D w)) (h4 : 4 ≤ D.n) (hh : half ≤ 1) (hon : D.on = true) :
    Calls Tryz.prog 48 #[.pointer (some ⟨D.b, 0, none⟩), .int .i64 half] w fun e w' => ∃ p c, e = .returned (.tuple #[.slice p (hsz D * 64) c, .int .i64 0]) ∧ OwnB w w' (.slice p (hsz D * 64) c) (halfB D (2 + half * hsz D) (hsz D)) ∧ Keeps (fun _ => False) w w' := by
  have hn := hD.out.n1.2
  obtain ⟨i0, hi0, hi1, hi2, hi3⟩ := info_parts u8InfoAll
  obtain ⟨H, hH⟩ : ∃ H, hsz D = H := ⟨_, rfl⟩
  have hH1 : (D.n - 2) / 2 = H := hH
  have hs := Lib.hid (halfSize_any _ D w hD.out.own hn h4)
  have hst := Lib.hid (halfStart_any _ D half hh w hD.out.own hn h4)
  rw [hH1] at hs hst
  have hHl : H ≤ 511 := by omega
  have hH2 : 2 + 2 * H ≤ D.n := by omega
  rw [hH]
  obtain ⟨S, hS⟩ : ∃ S, 2 + half * H = S := ⟨_, rfl⟩
  have hSH : S + H ≤ D.n := by
    have : half * H ≤ 1 * H := Nat.mul_le_mul_right H hh
    omega
  rw [hS] at hst ⊢
  clear hS hH1 hH
  go_enter Tryz.func48, Tryz.ntmps48
  go_wp2_with fail
  refine hst.out.mono ?_
  rintro e w1 ⟨rfl, rfl⟩
  go_wp2_with fail
  refine hs.out.mono ?_
  rintro e w1 ⟨rfl, rfl⟩
  clear hs hst
  go_wp2_with fail
  go_loopw [16, 6] (fun iv lv wr => ∃ (k R : Nat) (p : Option Addr) (c : Nat), k ≤ H ∧ Hid (R = k * 64) ∧ iv = .int .i64 k ∧ lv = .slice p R c ∧ Hid (OwnB w wr lv (halfB D S k)) ∧ Hid (Keeps (fun _ => False) w wr)) (fun iv _ _ => H - (intOf iv).toNat)
  case atStart => exact ⟨0, 0, none, 0, by omega, Lib.hid rfl, rfl, rfl, Lib.hid (OwnB.nil _ _ (Nat.le_refl _)), Lib.hid (Keeps.refl _ _)⟩
  case round =>
    obtain ⟨k, R, p, c, hk, hRk, rfl, rfl, hO, hK⟩ := hrel
    by_cases hlk : k < H
    · have hR := Lib.hid (own_read_yes _ D wr (S + k) (hD.out.keep hK.out).own hon (by omega))
      obtain ⟨X, hX⟩ : ∃ X, D.la (S + k) = X := ⟨_, rfl⟩
      have hXl : X.length = 64 := by rw [← hX]; exact la_len hD.out (by omega)
      have hlen := halfB_len hD.out S k (by omega)
      have hstep : Hid (halfB D S (k + 1) = halfB D S k ++ X) := Lib.hid (by show halfB D S k ++ D.la (S + k) = _; rw [hX])
      unfold ReadOk at hR
      rw [hX] at hR
      have m2 : (k : Int) < (H : Int) := by omega
      have e1 : IntKind.i64.wrap ((S : Int) + (k : Int)) = ((S + k : Nat) : Int) := by rw [IntWalk.i64_in _ (by omega)]; omega
      clear hX
      rw [show ((S + k : Nat) : Int) = (S : Int) + (k : Int) by omega] at hR
      have hlen' := Lib.hid hlen
      clear hlen e1
      have e1 : IntKind.i64.wrap ((S : Int) + (k : Int)) = (S : Int) + (k : Int) := IntWalk.i64_in _ (by omega)
      go_wp2_with fail
      refine hR.out.mono ?_
      rintro e w2 ⟨rfl, rfl⟩
      have hB2 : Hid (BytesAt (wr.alloc (.cells (X.map bv).toArray 137)) (.slice (some ⟨wr.heap.size, 0, none⟩) 64 64) X) := Lib.hid (BytesAt.of hXl (Nat.le_refl _) (fun j u hu => by
        have h := cells_new (n := wr.heap.size) rfl (X.map bv) 137 j u hu
        rw [Addr.add_mid] at h; exact h))
      have ka : Keeps (fun _ => False) wr (wr.alloc (.cells (X.map bv).toArray 137)) := (Keeps.refl _ _).alloc _
      have hO2 := Lib.hid (hO.out.keep ka (fun _ _ f => f))
      have hK2 := Lib.hid (hK.out.trans ka)
      generalize hgb : wr.heap.size = ab at hB2 ⊢
      generalize hgw : wr.alloc (.cells (X.map bv).toArray 137) = W2 at hB2 hO2 hK2 ⊢
      clear hgb hgw ka hR hO hK
      obtain ⟨Y, hY⟩ : ∃ Y, halfB D S k = Y := ⟨_, rfl⟩
      rw [hY] at hO2 hstep hlen'
      have hRY : R = Y.length := by rw [hRk.out, hlen'.out]
      subst hRY
      have hYl : Y.length ≤ 100000 := by rw [hlen'.out]; omega
      clear hY
      go_wp2_with ((with_reducible refine at_slot 32 ?_); go_must (refine wpList_append_b rfl (.tmp 30) (.tmp 31) 31 rfl i0 Tryz.underlying31 hi0 hi1 hi2 hi3 w _ Y rfl hO2.out _ rfl X hB2.out (by omega) ?_); intro q8 d8 w8 hO8 hg8)
      have hK8 := Lib.hid (Keeps.trans' hK2.out hg8.out.k (fun i e => .inr (hO2.out.2.1 i e)))
      have hn8 : Hid (Y.length + 64 = (k + 1) * 64) := Lib.hid (by rw [hlen'.out]; omega)
      rw [hXl] at hO8
      exact ⟨⟨k + 1, Y.length + 64, q8, d8, by omega, hn8, by go_num, rfl, by rw [hstep.out]; exact hO8, hK8⟩, by simp [intOf]; omega⟩
    · obtain rfl : k = H := by omega
      have m2 : ¬ (k : Int) < (k : Int) := by omega
      have hR2 := hRk.out
      subst hR2
      go_wp2_with fail
      go_ret2
      exact ⟨p, c, rfl, hO.out, hK.out⟩
end
end Go.Proofs.YtdannodhlaaoiaaGreatDoor
/- append of noughts: as of a text of noughts. -/
set_option linter.unusedVariables false
set_option linter.unusedSimpArgs false
namespace Go.Proofs.YtdannodhlaaoiaaGreatDoor
open Go.RowKit
section
variable [Inhabited BaseN]

end
theorem zero_cells (n : Nat) : Builtin.zeroCells #[Value.int .u8 0] n = (byteCells ⟨(noughts n).toArray⟩).toArray := by
  apply Array.ext
  · simp [Builtin.zeroCells, byteCells, noughts]
  · intro i h1 h2
    simp [Builtin.zeroCells, byteCells, noughts]
    rw [Nat.mod_one]; rfl
theorem append_zeros {P : Program} (w : World) (t ti ts ty e : TypeId) (i : TypeInfo) (ht : P.underlying t = some (.slice e)) (hti : P.underlying ti = some (.int .i64)) (hts : P.underlying ts = some .string) (hi : P.info? e = some i) (hz : i.zero = some (.int .u8 0)) (hsize : i.size = 1) (hby : i.bytes = 1)
    (p : Option Addr) (sLen sCap n : Nat) (hn : n ≤ 1000000) (hs : sLen ≤ 1000000000) :
    (Builtin.append_ #[t, ti] ty #[.slice p sLen sCap, .int .i64 n]).run P w = (Builtin.append_ #[t, ts] ty #[.slice p sLen sCap, .string ⟨(noughts n).toArray⟩]).run P w := by
  have hw : IntKind.i64.wrap (n : Int) = (n : Int) := IntWalk.i64_in _ (by omega)
  have hsz : (⟨(noughts n).toArray⟩ : ByteArray).size = n := by show (noughts n).toArray.size = n; rw [List.size_toArray, noughts_len]
  have hneg : ¬ ((n : Int) < 0) := by omega
  have hbig : ¬ (281474976710656 < (n : Int)) := by omega
  have h63 : ¬ (9223372036854775807 < ((sLen : Int) + (n : Int))) := by omega
  have hf : ∀ w', (Builtin.firstCells 1 n (.string ⟨(noughts n).toArray⟩)).run P w' = .ok (byteCells ⟨(noughts n).toArray⟩).toArray w' := fun w' => by
    have h := firstCells_string (P := P) ⟨(noughts n).toArray⟩ w'
    rw [hsz] at h; exact h
  have hai : (asIntOf (Value.int IntKind.i64 (n : Int))).run P w = .ok (.i64, (n : Int)) w := by simp [asIntOf]
  have hcell : (Value.int IntKind.u8 0).cells = #[Value.int IntKind.u8 0] := rfl
  by_cases hr : sLen + n ≤ sCap
  · simp [Builtin.append_, run_underlying ht, run_underlying hti, run_underlying hts, sizeOf, typeInfo, zeroValue, hi, hz, hsize, hby, Builtin.lenOf, hw, hsz, hneg, hbig, hr, asInt, hai, hcell, zero_cells, hf]
    intro h0
    subst h0
    rfl
  · have hfit : ¬ (281474976710656 < (Builtin.nextslicecap (sLen + n) sCap : Int)) := by
      have := nextslicecap_le_wide (need := sLen + n) (old := sCap) (by omega)
      omega
    have hfit2 : ¬ (281474976710656 < Builtin.nextslicecap (sLen + n) sCap) := by omega
    have h0 : ¬ n = 0 ∨ n = 0 := by omega
    simp [Builtin.append_, run_underlying ht, run_underlying hti, run_underlying hts, sizeOf, typeInfo, zeroValue, hi, hz, hsize, hby, Builtin.lenOf, hw, hsz, hneg, hbig, hr, asInt, hai, hcell, zero_cells, hf, h63, hfit, hfit2]
    rcases h0 with h0 | h0
    · simp only [if_neg h0]
    · subst h0
      have e0 : byteCells ⟨(noughts 0).toArray⟩ = [] := rfl
      simp [e0]
theorem strCells_noughts (n : Nat) : Lib.strCells ⟨(noughts n).toArray⟩ = (noughts n).map bv := rfl
theorem wpList_append_z {P : Program} {w : World} {ops : Array Oper} {rest : List Oper} {o : Oper} {a : Act} {Q : Exit → Act → World → Prop} (hgd : o.guard = none) (s x : Operand) (t ti ts : TypeId)
    (ho : o.op = .call { callee := .builtin .append, args := #[s, x], argTypes := #[t, ti] })
    (i : TypeInfo) (ht : P.underlying t = some (.slice 5)) (hti : P.underlying ti = some (.int .i64)) (hts : P.underlying ts = some .string) (hi : P.info? 5 = some i) (hz : i.zero = some (.int .u8 0)) (hsize : i.size = 1) (hby : i.bytes = 1)
    (w0 : World) (g m c : Nat) (xs : List UInt8) (hs : a.eval s = .slice (some ⟨g, 0, none⟩) m c) (hown : OwnB w0 w (.slice (some ⟨g, 0, none⟩) m c) xs) (n : Nat) (hx : a.eval x = .int .i64 n) (hn : n ≤ 1000000) (hsz : xs.length ≤ 1000000000)
    (h : ∀ p c' w', Hid (OwnB w0 w' (.slice p (xs.length + n) c') (xs ++ noughts n)) → Hid (Grown w (.slice (some ⟨g, 0, none⟩) m c) p (xs.length + n) c' w') → wpList P ops Q rest (a.put o.dst (.slice p (xs.length + n) c')) w') : wpList P ops Q (o :: rest) a w := by
  obtain ⟨p0, c0, e0⟩ := hown.slice
  injection e0 with e1 e2 e3
  subst e1; subst e2
  refine wpList_plain hgd fun K hK => ?_
  have hss : (⟨(noughts n).toArray⟩ : ByteArray).size = n := by show (noughts n).toArray.size = n; rw [List.size_toArray, noughts_len]
  obtain ⟨v', w', hr, h2, h3, -⟩ := Lib.run_append_own_string (P := P) w 0 t ts o.type 5 i ht hts hi hz hsize hby _ xs.length (xs.map bv) hown.1 ⟨(noughts n).toArray⟩ (by rw [hss]; unfold maxLen; omega) (by rw [hss]; omega) (Nat.zero_le _)
  rw [← append_zeros w t ti ts o.type 5 i ht hti hts hi hz hsize hby (some ⟨g, 0, none⟩) xs.length c n hn hsz] at hr
  rw [hss, strCells_noughts, ← List.map_append] at h2
  obtain ⟨p, c', rfl⟩ := ownsRow_slice h2
  have hnew : ∀ k, (Value.slice p (xs.length + n) c').ownBlock = some k → (Value.slice (some ⟨g, 0, none⟩) xs.length c).ownBlock = some k ∨ w.heap.size ≤ k := by
    rcases hown.1.2 with ⟨e, -⟩ | ⟨g', cap, cur, e, hbg, hg, hnc, hcm, hcs, htake⟩
    · cases e
    · injection e with e1 e2 e3
      injection e1 with e1; injection e1 with e1
      subst e1; subst e3
      have hr2 := hr
      rw [append_zeros w t ti ts o.type 5 i ht hti hts hi hz hsize hby (some ⟨g, 0, none⟩) xs.length c n hn hsz] at hr2
      by_cases hroom : xs.length + n ≤ c
      · have hcz : cur.size = c := by simpa using hcs
        have e := Lib.run_append_room_string (P := P) w t ts o.type 5 i ht hts hi hsize g xs.length c cur hg ⟨(noughts n).toArray⟩ (by rw [hss]; exact hroom) (by rw [hss]; omega)
        rw [hr2] at e; injection e with e1 e2; injection e1 with e1
        intro k hk; left; rw [e1] at hk; exact hk
      · have holds : ∀ j u, (xs.map bv)[j]? = some u → w.cell? ((⟨g, 0, none⟩ : Addr).add j) = some u := hown.1.cells (g := g) rfl
        have e := Lib.run_append_grow_string (P := P) w t ts o.type 5 i (.int .u8 0) ht hts hi hz ⟨g, 0, none⟩ xs.length c (xs.map bv) (by rw [hsize]; simp) holds ⟨(noughts n).toArray⟩ (by rw [hss]; omega) (by rw [hss]; omega) (by rw [hss, hby]; exact growslice_fits (by omega) (by omega))
        rw [hr2] at e; injection e with e1 e2; injection e1 with e1
        intro k hk
        rw [e1] at hk
        have hk : some w.heap.size = some k := hk
        injection hk with hk; right; omega
  unfold Oper.wp execOp
  simp only [ho, resolve, invoke, builtin, Sem.run_bind, Sem.run_pure, Result.andThen_ok, List.map_toArray, List.map_cons, List.map_nil, hs, hx, hr]
  refine hK _ _ (h p c' w' (Lib.hid ⟨by rw [List.length_append, noughts_len]; exact h2, fun k e => ?_, Nat.le_trans hown.2.2 h3.size⟩) (Lib.hid ⟨(Keeps.refl _ _).grown h3 (fun k e => .inl e), hnew⟩))
  rcases hnew k e with e | e
  · exact hown.2.1 k e
  · exact Nat.le_trans hown.2.2 e
end Go.Proofs.YtdannodhlaaoiaaGreatDoor
