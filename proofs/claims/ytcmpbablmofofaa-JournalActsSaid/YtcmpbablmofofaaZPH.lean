/- A region of two phases (an assignment of several): what is done ahead only reads, what is done behind it writes. Behind each of the first n the world's condition stays, if it held; a load is taken first if all that write wait for it. -/
import Derived.Test.YtcmpbablmofofaaTK
import Derived.Deep.DeepCutAuto
namespace Go.Proofs.Ytcmpbablmofofaa
open Go.RowKit

/-- each operation from n on waits for operation i -/
def phaseB (md : Region.Mode) (ops : Array Oper) (n i : Nat) : Bool :=
  decide (i < n) && (List.range ops.size).all fun t => decide (t < n) || ((ops[t]?).map fun o => o.after.any fun e => Region.binds md e && e.on == i).getD true
section
variable {P : Program} {ops : Array Oper} {Q : Exit → Act → World → Prop} {md : Region.Mode} {S : World → Prop} {n : Nat}
theorem phaseB_lt {i j : Nat} {oj : Oper} (h : phaseB md ops n i = true) (hj : ops[j]? = some oj) (hno : ∀ e ∈ oj.after, Region.binds md e = true → e.on ≠ i) : j < n := by
  unfold phaseB at h
  rw [Bool.and_eq_true] at h
  have h1 := List.all_eq_true.1 h.2 j (List.mem_range.2 (Array.getElem?_eq_some_iff.1 hj).1)
  rw [Bool.or_eq_true] at h1
  rcases h1 with h1 | h1
  · exact of_decide_eq_true h1
  · rw [hj] at h1
    simp only [Option.map_some, Option.getD_some] at h1
    obtain ⟨e, he, hb⟩ := Array.any_eq_true'.1 h1
    rw [Bool.and_eq_true] at hb
    exact absurd (by simpa using hb.2) (hno e he hb.1)
/-- whatever order; each of the first n keeps S -/
def wpX (P : Program) (md : Region.Mode) (ops : Array Oper) (Q : Exit → Act → World → Prop) (n : Nat) (S : World → Prop) : Nat → Array Bool → Act → World → Prop
  | 0, L, a, w => Region.ready md ops L = [] ∧ Q .normal a w
  | f + 1, L, a, w => (Region.ready md ops L = [] → Q .normal a w) ∧ ∀ i ∈ Region.ready md ops L, wpOp P ops Q i (fun a' w' => (i < n → S w → S w') ∧ wpX P md ops Q n S f (L.setIfInBounds i true) a' w') a w
theorem wpAny_of_X : ∀ (f : Nat) (L : Array Bool) (a : Act) (w : World), wpX P md ops Q n S f L a w → wpAny P md ops Q f L a w
  | 0, _, _, _, h => h
  | f + 1, _, _, _, h => ⟨h.1, fun i hi => wpOp_mono (fun _ _ h' => wpAny_of_X f _ _ _ h'.2) (h.2 i hi)⟩
/-- all of the first n have come up: no condition is asked for any more -/
theorem wpX_tail : ∀ (f : Nat) (L : Array Bool) (a : Act) (w : World), (∀ i, i < n → L.getD i true = true) → wpAnyH P md ops Q (fun _ => True) f L a w → wpX P md ops Q n S f L a w
  | 0, _, _, _, _, h => h
  | f + 1, L, _, _, hL, h => ⟨h.1, fun i hi => wpOp_mono (fun _ _ h' => ⟨fun hin _ => (by have := (mem_ready.1 hi).1; rw [hL i hin] at this; cases this), wpX_tail f _ _ _ (fun j hj => by
      by_cases e : i = j
      · subst e; have := (mem_ready.1 hi).1; rw [hL i hj] at this; cases this
      · rw [getD_set_ne true e]; exact hL j hj) h'.2⟩) (h.2 i hi)⟩
theorem wpX_takeG (S' : World → Prop) {i : Nat} {oi : Oper} {v : Value} (hi : ops[i]? = some oi) (hs : Region.noSelect ops = true)
    (hp : ∀ j oj, ops[j]? = some oj → (∀ e ∈ oj.after, Region.binds md e = true → e.on ≠ i) → ∀ w w', S' w → (j < n → S w → S w') → S' w')
    (hQ : ∀ c a w, Q (.panic c) (a.put oi.dst v) w → Q (.panic c) a w) : ∀ (f : Nat) (L : Array Bool) (a : Act) (w : World),
      (∀ j oj, ops[j]? = some oj → j ≠ i → L.getD j true = false → (∀ e ∈ oj.after, Region.binds md e = true → e.on ≠ i) → oi.apart ops oj = true) →
      i ∈ Region.ready md ops L → YieldsIf P ops S' oi v a → S' w → wpX P md ops Q n S f (L.setIfInBounds i true) (a.put oi.dst v) w → wpX P md ops Q n S (f + 1) L a w := by
  intro f
  induction f with
  | zero =>
    intro L a w _ hr hy hS H
    refine ⟨fun h => absurd (h ▸ hr) (by simp), fun j hj => ?_⟩
    by_cases e : j = i
    · subst e; exact hy.wpOp hi hS ⟨fun _ h => h, H⟩
    · have := ready_mono hj e
      rw [H.1] at this; cases this
  | succ f ih =>
    intro L a w hfree hr hy hS H
    refine ⟨fun h => absurd (h ▸ hr) (by simp), fun j hj => ?_⟩
    by_cases e : j = i
    · subst e; exact hy.wpOp hi hS ⟨fun _ h => h, H⟩
    obtain ⟨hun, oj, hoj, hall⟩ := mem_ready.1 hj
    have hno : ∀ e ∈ oj.after, Region.binds md e = true → e.on ≠ i := fun e he hb hon => by
      have h1 := hall e he hb
      have h0 := (mem_ready.1 hr).1
      rw [hon] at h1
      rcases Nat.lt_or_ge i L.size with h' | h'
      · simp [h'] at h0 h1; rw [h0] at h1; cases h1
      · simp [Array.getElem?_eq_none h'] at h1
    have h2 := wpOp_putIf hoj (hfree j oj hoj e hun hno) (fun cs b => Region.noSelect_spec hs i oi cs b hi) (fun cs b => Region.noSelect_spec hs j oj cs b hoj) hQ hy (H.2 j (ready_mono hj e))
    refine wpOp_mono (fun a' w' h3 => ⟨h3.2.1, ih _ a' w' (fun k ok hk hki hku hkn => hfree k ok hk hki ?_ hkn) (ready_mono hr (Ne.symm e)) h3.1 (hp j oj hoj hno w w' hS h3.2.1) ?_⟩) h2
    · by_cases e2 : j = k
      · subst e2; exact hun
      · rwa [getD_set_ne true e2] at hku
    · rw [Array.setIfInBounds_comm _ _ e]; exact h3.2.2
theorem phaseB_keep {i : Nat} (h : phaseB md ops n i = true) : ∀ j oj, ops[j]? = some oj → (∀ e ∈ oj.after, Region.binds md e = true → e.on ≠ i) → ∀ w w', S w → (j < n → S w → S w') → S w' :=
  fun _ _ hj hno _ _ hS hk => hk (phaseB_lt h hj hno) hS
theorem wp_region_phase {id : Nat} {a : Act} {w : World} (n : Nat) (hm : P.follows .mixedOrders = true) (hS : S w.drew)
    (h : S w.drew → wpX P .any ops Q n S ops.size (Array.replicate ops.size false) a w.drew) : (Code.region id ops true).wp P Q a w :=
  wp_region_any hm (wpAny_of_X _ _ _ _ (h hS))
end
section
variable {P : Program} {l : List Oper} {Q : Exit → Act → World → Prop} {md : Region.Mode} {S : World → Prop} {n : Nat}
theorem tkx (i : Nat) {oi : Oper} {v : Value} {fuel : Nat} {listed : Array Bool} {a a' : Act} {w : World} (hi : l[i]? = some oi) (h : wpX P md l.toArray Q n S fuel (listed.setIfInBounds i true) a' w)
    (hs : Region.noSelect l.toArray = true := by kernel_rfl) (hf : Region.free md l.toArray listed i = true := by kernel_rfl) (hr : (Region.ready md l.toArray listed).contains i = true := by kernel_rfl) (hw : Region.wanted oi (yielded l.toArray a.tmps) = true := by rfl) (hy : ∀ w, (execOp a.eval oi).run P w = .ok (.value v) w := by (intro wS; go_simp; try with_reducible rfl))
    (ha : a.put oi.dst v = a' := by (try simp only [Act.put, sA, sZ, sS]; rfl))
    (hQ : ∀ c a w, Q (.panic c) (a.put oi.dst v) w → Q (.panic c) a w := by exact fun _ _ _ h => h) : wpX P md l.toArray Q n S (fuel + 1) listed a w :=
  wpX_takeG (fun _ => True) (by simpa using hi) hs (fun _ _ _ _ _ _ _ _ => trivial) hQ fuel listed a w (Region.free_spec (by simpa using hi) hf) (by simpa using hr) (Or.inl ⟨hw, fun w _ => hy w⟩) trivial (by rw [ha]; exact h)
theorem tkxL (i : Nat) {oi : Oper} {v : Value} {fuel : Nat} {listed : Array Bool} {a a' : Act} {w : World} (hi : l[i]? = some oi) (hy : YieldsIf P l.toArray S oi v a) (h : wpX P md l.toArray Q n S fuel (listed.setIfInBounds i true) a' w)
    (hs : Region.noSelect l.toArray = true := by kernel_rfl) (hf : Region.free md l.toArray listed i = true := by kernel_rfl) (hr : (Region.ready md l.toArray listed).contains i = true := by kernel_rfl) (hp : phaseB md l.toArray n i = true := by kernel_rfl)
    (ha : a.put oi.dst v = a' := by (try simp only [Act.put, sA, sZ, sS]; rfl))
    (hQ : ∀ c a w, Q (.panic c) (a.put oi.dst v) w → Q (.panic c) a w := by exact fun _ _ _ h => h) (hS : S w := by assumption) : wpX P md l.toArray Q n S (fuel + 1) listed a w :=
  wpX_takeG S (by simpa using hi) hs (phaseB_keep hp) hQ fuel listed a w (Region.free_spec (by simpa using hi) hf) (by simpa using hr) hy hS (by rw [ha]; exact h)
end
end Go.Proofs.Ytcmpbablmofofaa
