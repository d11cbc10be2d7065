/- Of adv: numbers sorted: plain; cmp.Less; a row of numbers, set in place. -/
import Derived.Test.YtialookpnoaogaaGreatAA18
import Derived.Test.YtialookpnoaogaaGreatAA19
import Derived.Test.YtialookpnoaogaaGreatAA12
import Derived.Test.YtialookpnoaogaaGreatAA01
import Derived.Deep.DeepCutAuto
import Derived.Lib.SliceRun
import Derived.Test.YtialookpnoaogaaGreatAA11
set_option linter.unusedVariables false
set_option linter.unusedSimpArgs false
set_option linter.unusedVariables false
set_option linter.unusedSimpArgs false
namespace Go.Proofs.YtialookpnoaogaaGreat
open Go.RowKit

set_option maxHeartbeats 1000000 in
theorem lessU32_any (a b : Nat) (w : World) : Calls Tryz.prog 123 #[.int .u32 a, .int .u32 b] w fun e w' => e = .returned (.bool (decide (a < b))) ∧ w = w' := by
  go_enter Tryz.func123, Tryz.ntmps123
  go_wp2_with fail
  refine (nanU32_any _ _).mono ?_
  rintro e w' ⟨rfl, rfl⟩
  go_wp2_with fail
  go_ret
  exact ⟨rfl, rfl⟩
theorem own_open {w0 w : World} {g n c : Nat} {M : List Nat} (h : OwnN w0 w (.slice (some ⟨g, 0, none⟩) n c) M) : ∃ cur : List Value, BlkAt w g 40 cur ∧ n = M.length ∧ M.length ≤ c ∧ c ≤ maxLen ∧ cur.length = c ∧ cur.take M.length = M.map nv := by
  obtain ⟨⟨hlen, hv⟩, hb, hs⟩ := h
  rcases hv with ⟨e, -⟩ | ⟨g2, cap, cur, e, -, hg, h1, h2, h3, h4⟩
  · injection e with e1; cases e1
  · injection e with e1 e2 e3
    injection e1 with e1
    injection e1 with e4
    subst e4; subst e3; subst e2
    exact ⟨cur.toList, by unfold BlkAt; simpa using hg, rfl, h1, h2, by simpa using h3, by simpa using h4⟩
theorem own_make {w0 w : World} {g c : Nat} {M : List Nat} {cur : List Value} (hB : BlkAt w g 40 cur) (h1 : M.length ≤ c) (h2 : c ≤ maxLen) (h3 : cur.length = c) (h4 : cur.take M.length = M.map nv) (h0 : w0.heap.size ≤ g) (hs : w0.heap.size ≤ w.heap.size) : OwnN w0 w (.slice (some ⟨g, 0, none⟩) M.length c) M :=
  ⟨⟨by simp, .inr ⟨g, c, cur.toArray, rfl, Nat.zero_le _, hB, h1, h2, by simpa using h3, by simpa using h4⟩⟩, fun k e => by
    have e : some g = some k := e
    rw [← Option.some.inj e]; exact h0, hs⟩
theorem own_set {w0 w : World} {g c : Nat} {M : List Nat} (h : OwnN w0 w (.slice (some ⟨g, 0, none⟩) M.length c) M) (i x : Nat) (hi : i < M.length) : OwnN w0 (w.setCell ⟨g, i, none⟩ (.int .u32 x)) (.slice (some ⟨g, 0, none⟩) M.length c) (M.set i x) := by
  obtain ⟨cur, hB, -, h1, h2, h3, h4⟩ := own_open h
  have := own_make (w0 := w0) (M := M.set i x) (hB.set i (.int .u32 x)) (by simpa using h1) h2 (by simpa using h3) (by rw [List.length_set, List.take_set, h4, List.map_set]; rfl) (h.2.1 g rfl) (Nat.le_trans h.2.2 ((Keeps.refl (fun j => j = g) w).setCell (p := ⟨g, i, none⟩) (.inl rfl) _).size)
  simpa using this
theorem own_cell {w0 w : World} {g n c : Nat} {M : List Nat} (h : OwnN w0 w (.slice (some ⟨g, 0, none⟩) n c) M) {i x : Nat} (hx : M[i]? = some x) : w.cell? ⟨g, i, none⟩ = some (.int .u32 x) ∧ w.frozen? ⟨g, i, none⟩ = false := by
  obtain ⟨cur, hB, -, h1, h2, h3, h4⟩ := own_open h
  refine ⟨hB.cell i _ ?_, hB.frozen i⟩
  have hi := (List.getElem?_eq_some_iff.1 hx).1
  have : (cur.take M.length)[i]? = (M.map nv)[i]? := by rw [h4]
  rw [List.getElem?_take_of_lt hi, List.getElem?_map, hx] at this
  exact this
/-- sorted, but for the one at j -/
def Near (l : List Nat) (i j : Nat) : Prop := ∀ a b x y, a < b → b ≤ i → b ≠ j → l[a]? = some x → l[b]? = some y → x ≤ y
def Sorted15 (l : List Nat) (i : Nat) : Prop := ∀ a b x y, a < b → b < i → l[a]? = some x → l[b]? = some y → x ≤ y
def swapN (l : List Nat) (j x y : Nat) : List Nat := (l.set (j + 1) x).set j y
theorem swap_get {l : List Nat} {j x y : Nat} (hx : l[j]? = some x) (hy : l[j + 1]? = some y) (a : Nat) : (swapN l j x y)[a]? = if a = j then some y else if a = j + 1 then some x else l[a]? := by
  have hj := (List.getElem?_eq_some_iff.1 hy).1
  unfold swapN
  rw [List.getElem?_set]
  by_cases h1 : j = a
  · subst h1
    rw [if_pos rfl, if_pos (by rw [List.length_set]; omega), if_pos rfl]
  · rw [if_neg h1, if_neg (fun e => h1 e.symm), List.getElem?_set]
    by_cases h2 : j + 1 = a
    · rw [if_pos h2, if_pos hj, if_pos h2.symm]
    · rw [if_neg h2, if_neg (fun e => h2 e.symm)]
theorem swap_mem {l : List Nat} {j x y : Nat} (hx : l[j]? = some x) (hy : l[j + 1]? = some y) (z : Nat) : z ∈ swapN l j x y ↔ z ∈ l := by
  simp only [List.mem_iff_getElem?]
  constructor
  · rintro ⟨a, ha⟩
    rw [swap_get hx hy] at ha
    split at ha
    · exact ⟨j + 1, by rw [hy]; exact ha⟩
    · split at ha
      · exact ⟨j, by rw [hx]; exact ha⟩
      · exact ⟨a, ha⟩
  · rintro ⟨a, ha⟩
    by_cases h1 : a = j
    · subst h1
      exact ⟨a + 1, by rw [swap_get hx hy, if_neg (by omega), if_pos rfl, ← hx]; exact ha⟩
    · by_cases h2 : a = j + 1
      · subst h2
        exact ⟨j, by rw [swap_get hx hy, if_pos rfl, ← hy]; exact ha⟩
      · exact ⟨a, by rw [swap_get hx hy, if_neg h1, if_neg h2]; exact ha⟩
theorem near_swap {l : List Nat} {i j x y : Nat} (h : Near l i (j + 1)) (hj : j + 1 ≤ i) (hx : l[j]? = some x) (hy : l[j + 1]? = some y) (hlt : y < x) : Near (swapN l j x y) i j := by
  intro a b u v hab hb hbj hu hv
  rw [swap_get hx hy] at hu hv
  rw [if_neg hbj] at hv
  by_cases b1 : b = j + 1
  · rw [if_pos b1] at hv
    injection hv with hv
    by_cases a1 : a = j
    · rw [if_pos a1] at hu; injection hu with hu; omega
    · rw [if_neg a1, if_neg (by omega)] at hu
      have := h a j u x (by omega) (by omega) (by omega) hu hx
      omega
  · rw [if_neg b1] at hv
    by_cases a1 : a = j
    · rw [if_pos a1] at hu
      injection hu with hu
      have := h (j + 1) b y v (by omega) hb b1 hy hv
      omega
    · rw [if_neg a1] at hu
      by_cases a2 : a = j + 1
      · rw [if_pos a2] at hu
        injection hu with hu
        have := h j b x v (by omega) hb b1 hx hv
        omega
      · rw [if_neg a2] at hu
        exact h a b u v hab hb b1 hu hv
theorem near_start {l : List Nat} {i : Nat} (h : Sorted15 l i) : Near l i i := fun a b x y hab hb hbj hx hy => h a b x y hab (by omega) hx hy
theorem near_zero {l : List Nat} {i : Nat} (h : Near l i 0) : Sorted15 l (i + 1) := fun a b x y hab hb hx hy => h a b x y hab (by omega) (by omega) hx hy
theorem near_stop {l : List Nat} {i j x y : Nat} (h : Near l i (j + 1)) (hj : j + 1 ≤ i) (hx : l[j]? = some x) (hy : l[j + 1]? = some y) (hle : x ≤ y) : Sorted15 l (i + 1) := fun a b u v hab hb hu hv => by
  by_cases hbj : b = j + 1
  · subst hbj
    rw [hy] at hv
    injection hv with hv
    by_cases a1 : a = j
    · subst a1; rw [hx] at hu; injection hu with hu; omega
    · have := h a j u x (by omega) (by omega) (by omega) hu hx
      omega
  · exact h a b u v hab (by omega) hbj hu hv
end Go.Proofs.YtialookpnoaogaaGreat
/- A region of two phases (an assignment of several): what is done ahead only reads, what is done behind it writes. Behind each of the first n the world's condition stays, if it held; a load is taken first if all that write wait for it. -/
namespace Go.Proofs.YtialookpnoaogaaGreat
open Go.RowKit

/-- each operation from n on waits for operation i -/
def phaseB (md : Region.Mode) (ops : Array Oper) (n i : Nat) : Bool :=
  decide (i < n) && (List.range ops.size).all fun t => decide (t < n) || ((ops[t]?).map fun o => o.after.any fun e => Region.binds md e && e.on == i).getD true
section
variable {P : Program} {ops : Array Oper} {Q : Exit → Act → World → Prop} {md : Region.Mode} {S : World → Prop} {n : Nat}
theorem phaseB_lt {i j : Nat} {oj : Oper} (h : phaseB md ops n i = true) (hj : ops[j]? = some oj) (hno : ∀ e ∈ oj.after, Region.binds md e = true → e.on ≠ i) : j < n := by
  unfold phaseB at h
  rw [Bool.and_eq_true] at h
  have h1 := List.all_eq_true.1 h.2 j (List.mem_range.2 (Array.getElem?_eq_some_iff.1 hj).1)
  rw [Bool.or_eq_true] at h1
  rcases h1 with h1 | h1
  · exact of_decide_eq_true h1
  · rw [hj] at h1
    simp only [Option.map_some, Option.getD_some] at h1
    obtain ⟨e, he, hb⟩ := Array.any_eq_true'.1 h1
    rw [Bool.and_eq_true] at hb
    exact absurd (by simpa using hb.2) (hno e he hb.1)
/-- whatever order; each of the first n keeps S -/
def wpX (P : Program) (md : Region.Mode) (ops : Array Oper) (Q : Exit → Act → World → Prop) (n : Nat) (S : World → Prop) : Nat → Array Bool → Act → World → Prop
  | 0, L, a, w => Region.ready md ops L = [] ∧ Q .normal a w
  | f + 1, L, a, w => (Region.ready md ops L = [] → Q .normal a w) ∧ ∀ i ∈ Region.ready md ops L, wpOp P ops Q i (fun a' w' => (i < n → S w → S w') ∧ wpX P md ops Q n S f (L.setIfInBounds i true) a' w') a w
theorem wpAny_of_X : ∀ (f : Nat) (L : Array Bool) (a : Act) (w : World), wpX P md ops Q n S f L a w → wpAny P md ops Q f L a w
  | 0, _, _, _, h => h
  | f + 1, _, _, _, h => ⟨h.1, fun i hi => wpOp_mono (fun _ _ h' => wpAny_of_X f _ _ _ h'.2) (h.2 i hi)⟩
/-- all of the first n have come up: no condition is asked for any more -/
theorem wpX_tail : ∀ (f : Nat) (L : Array Bool) (a : Act) (w : World), (∀ i, i < n → L.getD i true = true) → wpAnyH P md ops Q (fun _ => True) f L a w → wpX P md ops Q n S f L a w
  | 0, _, _, _, _, h => h
  | f + 1, L, _, _, hL, h => ⟨h.1, fun i hi => wpOp_mono (fun _ _ h' => ⟨fun hin _ => (by have := (mem_ready.1 hi).1; rw [hL i hin] at this; cases this), wpX_tail f _ _ _ (fun j hj => by
      by_cases e : i = j
      · subst e; have := (mem_ready.1 hi).1; rw [hL i hj] at this; cases this
      · rw [getD_set_ne true e]; exact hL j hj) h'.2⟩) (h.2 i hi)⟩
theorem wpX_takeG (S' : World → Prop) {i : Nat} {oi : Oper} {v : Value} (hi : ops[i]? = some oi) (hs : Region.noSelect ops = true)
    (hp : ∀ j oj, ops[j]? = some oj → (∀ e ∈ oj.after, Region.binds md e = true → e.on ≠ i) → ∀ w w', S' w → (j < n → S w → S w') → S' w')
    (hQ : ∀ c a w, Q (.panic c) (a.put oi.dst v) w → Q (.panic c) a w) : ∀ (f : Nat) (L : Array Bool) (a : Act) (w : World),
      (∀ j oj, ops[j]? = some oj → j ≠ i → L.getD j true = false → (∀ e ∈ oj.after, Region.binds md e = true → e.on ≠ i) → oi.apart ops oj = true) →
      i ∈ Region.ready md ops L → YieldsIf P ops S' oi v a → S' w → wpX P md ops Q n S f (L.setIfInBounds i true) (a.put oi.dst v) w → wpX P md ops Q n S (f + 1) L a w := by
  intro f
  induction f with
  | zero =>
    intro L a w _ hr hy hS H
    refine ⟨fun h => absurd (h ▸ hr) (by simp), fun j hj => ?_⟩
    by_cases e : j = i
    · subst e; exact hy.wpOp hi hS ⟨fun _ h => h, H⟩
    · have := ready_mono hj e
      rw [H.1] at this; cases this
  | succ f ih =>
    intro L a w hfree hr hy hS H
    refine ⟨fun h => absurd (h ▸ hr) (by simp), fun j hj => ?_⟩
    by_cases e : j = i
    · subst e; exact hy.wpOp hi hS ⟨fun _ h => h, H⟩
    obtain ⟨hun, oj, hoj, hall⟩ := mem_ready.1 hj
    have hno : ∀ e ∈ oj.after, Region.binds md e = true → e.on ≠ i := fun e he hb hon => by
      have h1 := hall e he hb
      have h0 := (mem_ready.1 hr).1
      rw [hon] at h1
      rcases Nat.lt_or_ge i L.size with h' | h'
      · simp [h'] at h0 h1; rw [h0] at h1; cases h1
      · simp [Array.getElem?_eq_none h'] at h1
    have h2 := wpOp_putIf hoj (hfree j oj hoj e hun hno) (fun cs b => Region.noSelect_spec hs i oi cs b hi) (fun cs b => Region.noSelect_spec hs j oj cs b hoj) hQ hy (H.2 j (ready_mono hj e))
    refine wpOp_mono (fun a' w' h3 => ⟨h3.2.1, ih _ a' w' (fun k ok hk hki hku hkn => hfree k ok hk hki ?_ hkn) (ready_mono hr (Ne.symm e)) h3.1 (hp j oj hoj hno w w' hS h3.2.1) ?_⟩) h2
    · by_cases e2 : j = k
      · subst e2; exact hun
      · rwa [getD_set_ne true e2] at hku
    · rw [Array.setIfInBounds_comm _ _ e]; exact h3.2.2
theorem phaseB_keep {i : Nat} (h : phaseB md ops n i = true) : ∀ j oj, ops[j]? = some oj → (∀ e ∈ oj.after, Region.binds md e = true → e.on ≠ i) → ∀ w w', S w → (j < n → S w → S w') → S w' :=
  fun _ _ hj hno _ _ hS hk => hk (phaseB_lt h hj hno) hS
theorem wp_region_phase {id : Nat} {a : Act} {w : World} (n : Nat) (hm : P.follows .mixedOrders = true) (hS : S w.drew)
    (h : S w.drew → wpX P .any ops Q n S ops.size (Array.replicate ops.size false) a w.drew) : (Code.region id ops true).wp P Q a w :=
  wp_region_any hm (wpAny_of_X _ _ _ _ (h hS))
end
section
variable {P : Program} {l : List Oper} {Q : Exit → Act → World → Prop} {md : Region.Mode} {S : World → Prop} {n : Nat}
theorem tkx (i : Nat) {oi : Oper} {v : Value} {fuel : Nat} {listed : Array Bool} {a a' : Act} {w : World} (hi : l[i]? = some oi) (h : wpX P md l.toArray Q n S fuel (listed.setIfInBounds i true) a' w)
    (hs : Region.noSelect l.toArray = true := by kernel_rfl) (hf : Region.free md l.toArray listed i = true := by kernel_rfl) (hr : (Region.ready md l.toArray listed).contains i = true := by kernel_rfl) (hw : Region.wanted oi (yielded l.toArray a.tmps) = true := by rfl) (hy : ∀ w, (execOp a.eval oi).run P w = .ok (.value v) w := by (intro wS; go_simp; try with_reducible rfl))
    (ha : a.put oi.dst v = a' := by (try simp only [Act.put, sA, sZ, sS]; rfl))
    (hQ : ∀ c a w, Q (.panic c) (a.put oi.dst v) w → Q (.panic c) a w := by exact fun _ _ _ h => h) : wpX P md l.toArray Q n S (fuel + 1) listed a w :=
  wpX_takeG (fun _ => True) (by simpa using hi) hs (fun _ _ _ _ _ _ _ _ => trivial) hQ fuel listed a w (Region.free_spec (by simpa using hi) hf) (by simpa using hr) (Or.inl ⟨hw, fun w _ => hy w⟩) trivial (by rw [ha]; exact h)
theorem tkxL (i : Nat) {oi : Oper} {v : Value} {fuel : Nat} {listed : Array Bool} {a a' : Act} {w : World} (hi : l[i]? = some oi) (hy : YieldsIf P l.toArray S oi v a) (h : wpX P md l.toArray Q n S fuel (listed.setIfInBounds i true) a' w)
    (hs : Region.noSelect l.toArray = true := by kernel_rfl) (hf : Region.free md l.toArray listed i = true := by kernel_rfl) (hr : (Region.ready md l.toArray listed).contains i = true := by kernel_rfl) (hp : phaseB md l.toArray n i = true := by kernel_rfl)
    (ha : a.put oi.dst v = a' := by (try simp only [Act.put, sA, sZ, sS]; rfl))
    (hQ : ∀ c a w, Q (.panic c) (a.put oi.dst v) w → Q (.panic c) a w := by exact fun _ _ _ h => h) (hS : S w := by assumption) : wpX P md l.toArray Q n S (fuel + 1) listed a w :=
  wpX_takeG S (by simpa using hi) hs (phaseB_keep hp) hQ fuel listed a w (Region.free_spec (by simpa using hi) hf) (by simpa using hr) hy hS (by rw [ha]; exact h)
end
end Go.Proofs.YtialookpnoaogaaGreat
/- Of adv: slices.Sort of at most twelve numbers. -/
set_option linter.unusedVariables false
set_option linter.unusedSimpArgs false
namespace Go.Proofs.YtialookpnoaogaaGreat
open Go.RowKit

theorem allB {n : Nat} {L : Array Bool} (h : ((List.range n).all fun i => L.getD i true) = true) : ∀ i, i < n → L.getD i true = true := fun i hi => List.all_eq_true.1 h i (List.mem_range.2 hi)
set_option maxRecDepth 100000 in
set_option maxHeartbeats 8000000 in
theorem insU32_any (g c : Nat) (M : List Nat) (w0 w : World) (hO : Hid (OwnN w0 w (.slice (some ⟨g, 0, none⟩) M.length c) M)) (hl : M.length ≤ 1000000) :
    Calls Tryz.prog 117 #[.slice (some ⟨g, 0, none⟩) M.length c, .int .i64 0, .int .i64 M.length] w fun e w' => e = .returned (.tuple #[]) ∧ ∃ M', M'.length = M.length ∧ OwnN w0 w' (.slice (some ⟨g, 0, none⟩) M.length c) M' ∧ Sorted15 M' M'.length ∧ (∀ z, z ∈ M' ↔ z ∈ M) ∧ Keeps (fun i => i = g) w w' := by
  go_enter Tryz.func117, Tryz.ntmps117
  go_wp2_with fail
  go_loopw [6] (fun iv wr => ∃ (i : Nat) (M' : List Nat), 1 ≤ i ∧ (i ≤ M.length ∨ i = 1) ∧ iv = .int .i64 i ∧ M'.length = M.length ∧ Hid (OwnN w0 wr (.slice (some ⟨g, 0, none⟩) M.length c) M') ∧ Hid (Sorted15 M' i) ∧ Hid (∀ z, z ∈ M' ↔ z ∈ M) ∧ Hid (Keeps (fun i => i = g) w wr)) (fun iv _ => M.length + 1 - (intOf iv).toNat)
  case atStart => exact ⟨1, M, by omega, .inr rfl, rfl, rfl, hO, Lib.hid (fun a b x y h1 h2 => by omega), Lib.hid (fun z => Iff.rfl), Lib.hid (Keeps.refl _ _)⟩
  case round =>
    obtain ⟨i, M1, hi1, hi2, rfl, hl1, hO1, hS1, hm1, hk1⟩ := hrel
    by_cases hil : i < M.length
    · have m2 : (i : Int) < (M.length : Int) := by omega
      have hn0 := Lib.hid (near_start hS1.out)
      clear hS1
      go_wp2_with fail
      go_loopw [7] (fun jv wx => ∃ (j : Nat) (M2 : List Nat), j ≤ i ∧ jv = .int .i64 j ∧ M2.length = M.length ∧ Hid (OwnN w0 wx (.slice (some ⟨g, 0, none⟩) M.length c) M2) ∧ Hid (Near M2 i j) ∧ Hid (∀ z, z ∈ M2 ↔ z ∈ M) ∧ Hid (Keeps (fun i => i = g) w wx)) (fun jv _ => (intOf jv).toNat)
      case atStart => exact ⟨i, M1, Nat.le_refl _, rfl, hl1, hO1, hn0, hm1, hk1⟩
      case round =>
        obtain ⟨j, M2, hj, rfl, hl2, hO2, hN2, hm2, hk2⟩ := hrel
        clear hO1 hn0 hm1 hk1
        cases j with
        | zero =>
          have hS2 := Lib.hid (near_zero hN2.out)
          clear hN2
          go_upto_region 4 with fail
          refine wp_region_noPanic ?_
          refine wp_region_held_drew (S := (fun W => Keeps (fun _ => False) wr W)) (by kernel_rfl) (((Keeps.refl (fun _ => False) wr).drew)) (fun hHeld => ?_)
          refine tk 0 rfl ?_
          refine tk 1 rfl ?_
          refine tk 2 rfl ?_
          refine tk 3 rfl ?_
          refine tkS 4 rfl ?_
          refine tkS 5 rfl ?_
          refine tkS 6 rfl ?_
          refine tkS 7 rfl ?_
          refine tkS 8 rfl ?_
          refine tkS 9 rfl ?_
          refine tkS 10 rfl ?_
          refine tkS 11 rfl ?_
          refine tkS 12 rfl ?_
          refine tkS 13 rfl ?_
          refine tk 14 rfl ?_
          refine wpAnyH_done (by kernel_rfl) (NoPanic.normal ?_) _
          have hO3 := Lib.hid (hO2.out.keep hHeld (fun _ _ f => f))
          have hk3 := Lib.hid (hk2.out.trans (hHeld.mono (fun _ f => f.elim)))
          generalize wr.drew = W3 at hO3 hk3 ⊢
          clear hHeld hO2 hk2
          go_wp2_with fail
          exact ⟨⟨i + 1, M2, by omega, .inl (by omega), by go_num, hl2, hO3, hS2, hm2, hk3⟩, by simp [intOf]; omega⟩
        | succ j =>
          obtain ⟨x, hx⟩ : ∃ x, M2[j]? = some x := ⟨_, List.getElem?_eq_getElem (by omega)⟩
          obtain ⟨y, hy⟩ : ∃ x, M2[j + 1]? = some x := ⟨_, List.getElem?_eq_getElem (by omega)⟩
          have hcx := Lib.hid (own_cell hO2.out hx)
          have hcy := Lib.hid (own_cell hO2.out hy)
          have g0 : (0 : Int) < (j : Int) + 1 := by omega
          have g1 : (j : Int) + 1 < (M.length : Int) := by omega
          have g2 : (0 : Int) ≤ (j : Int) + 1 := by omega
          have g3 : (j : Int) < (M.length : Int) := by omega
          have g4 : (0 : Int) ≤ (j : Int) := by omega
          have e1 : IntKind.i64.wrap (j : Int) = (j : Int) := IntWalk.i64_in _ (by omega)
          have hx' := Lib.hid hx
          have hy' := Lib.hid hy
          clear hx hy
          go_upto_region 4 with fail
          refine wp_region_noPanic ?_
          refine wp_region_held_drew (S := (fun W => Keeps (fun _ => False) wr W)) (by kernel_rfl) (((Keeps.refl (fun _ => False) wr).drew)) (fun hHeld => ?_)
          refine tk 0 rfl ?_
          refine tk 1 rfl ?_
          refine tk 2 rfl ?_
          refine tk 3 rfl ?_
          refine tk 4 rfl ?_
          refine tk 5 rfl ?_
          refine tk 6 rfl ?_
          have hgl := Lib.hid (World.block_lt_of_cell? _ _ hcx.out.1)
          refine tkL 7 rfl (yieldsIf_load_cell (by rfl) 40 (.tmp 22) rfl g (j + 1) rfl (.int .u32 y) (fun _ s => (s.cell (p := ⟨g, j + 1, none⟩) hgl.out id).trans hcy.out.1) (fun w s => load_u32 w _ _ _ s)) ?_
          refine tk 8 rfl ?_
          refine tk 9 rfl ?_
          refine tk 10 rfl ?_
          refine tk 11 rfl ?_
          refine tkL 12 rfl (yieldsIf_load_cell (by rfl) 40 (.tmp 27) rfl g j rfl (.int .u32 x) (fun _ s => (s.cell (p := ⟨g, j, none⟩) hgl.out id).trans hcx.out.1) (fun w s => load_u32 w _ _ _ s)) ?_
          refine stepL 13 rfl (by kernel_rfl) (fun K hK => ?_)
          go_simp
          (refine (lessU32_any _ _ _).mono ?_; rintro e w' ⟨rfl, rfl⟩)
          go_wp2_with fail
          refine hK.out _ _ (hHeld) (fun hHeld => ?_)
          clear hK K
          try simp only [Act.put, sA, sZ, sS]
          refine tk 14 rfl ?_
          refine wpAnyH_done (by kernel_rfl) (NoPanic.normal ?_) _
          have hO3 := Lib.hid (hO2.out.keep hHeld (fun _ _ f => f))
          have hk3 := Lib.hid (hk2.out.trans (hHeld.mono (fun _ f => f.elim)))
          generalize wr.drew = W3 at hO3 hk3 ⊢
          clear hHeld hO2 hk2 hcx hcy hgl
          by_cases hlt : y < x
          · have hN3 := Lib.hid (near_swap hN2.out hj hx'.out hy'.out hlt)
            have hm3 : Hid (∀ z, z ∈ swapN M2 j x y ↔ z ∈ M) := Lib.hid (fun z => (swap_mem hx'.out hy'.out z).trans (hm2.out z))
            have hl3 : (swapN M2 j x y).length = M.length := by unfold swapN; rw [List.length_set, List.length_set, hl2]
            clear hN2 hm2
            have hcx := Lib.hid (own_cell hO3.out hx'.out)
            have hcy := Lib.hid (own_cell hO3.out hy'.out)
            have hgl := Lib.hid (World.block_lt_of_cell? _ _ hcx.out.1)
            go_upto_region 6 with fail
            refine wp_region_noPanic ?_
            refine wp_region_phase (S := fun W => Keeps (fun _ => False) W3 W) 14 (by kernel_rfl) ((Keeps.refl _ _).drew) (fun hHeld => ?_)
            refine tkx 0 rfl ?_
            refine tkx 1 rfl ?_
            refine tkx 2 rfl ?_
            refine tkx 3 rfl ?_
            refine tkx 4 rfl ?_
            refine tkx 5 rfl ?_
            refine tkx 6 rfl ?_
            refine tkx 7 rfl ?_
            refine tkx 8 rfl ?_
            refine tkxL 9 rfl (yieldsIf_load_cell (by rfl) 40 (.tmp 41) rfl g j rfl (.int .u32 x) (fun _ s => (s.cell (p := ⟨g, j, none⟩) hgl.out id).trans hcx.out.1) (fun w s => load_u32 w _ _ _ s)) ?_
            refine tkx 10 rfl ?_
            refine tkx 11 rfl ?_
            refine tkx 12 rfl ?_
            refine tkxL 13 rfl (yieldsIf_load_cell (by rfl) 40 (.tmp 45) rfl g (j + 1) rfl (.int .u32 y) (fun _ s => (s.cell (p := ⟨g, j + 1, none⟩) hgl.out id).trans hcy.out.1) (fun w s => load_u32 w _ _ _ s)) ?_
            refine wpX_tail _ _ _ _ (allB (by kernel_rfl)) ?_
            have hO4 := Lib.hid (hO3.out.keep ((Keeps.refl (fun _ => False) W3).drew) (fun _ _ f => f))
            have hk4 := Lib.hid hk3.out.drew
            generalize W3.drew = W4 at hO4 hk4 ⊢
            clear hHeld hcx hcy hgl hO3 hk3
            have hHeld : (fun _ : World => True) W4 := trivial
            have hO5 := own_set (hl2 ▸ hO4.out) (j + 1) x (by omega)
            have hO6 := own_set (M := M2.set (j + 1) x) (by simpa using hO5) j y (by simp; omega)
            have q1 := (own_cell hO4.out hy'.out).1
            have q2 := (own_cell hO4.out hy'.out).2
            have q3 := (own_cell (i := j) (x := x) hO5 (by rw [List.getElem?_set, if_neg (by omega)]; exact hx'.out)).1
            have q4 := (own_cell (i := j) (x := x) hO5 (by rw [List.getElem?_set, if_neg (by omega)]; exact hx'.out)).2
            have hO7 : Hid (OwnN w0 ((W4.setCell ⟨g, j + 1, none⟩ (.int .u32 x)).setCell ⟨g, j, none⟩ (.int .u32 y)) (.slice (some ⟨g, 0, none⟩) M.length c) (swapN M2 j x y)) := Lib.hid (by
              rw [← hl2]
              have := hO6
              simpa [swapN] using this)
            have hk7 : Hid (Keeps (fun i => i = g) w ((W4.setCell ⟨g, j + 1, none⟩ (.int .u32 x)).setCell ⟨g, j, none⟩ (.int .u32 y))) := Lib.hid ((hk4.out.setCell (p := ⟨g, j + 1, none⟩) (.inl rfl) _).setCell (p := ⟨g, j, none⟩) (.inl rfl) _)
            clear hO5 hO6 hO4 hk4
            refine tk 14 rfl ?_
            refine stepL 15 rfl (by kernel_rfl) (fun K hK => ?_)
            go_simp
            refine hK.out _ _ (trivial) (fun hHeld => ?_)
            clear hK K
            try simp only [Act.put, sA, sZ, sS]
            refine tk 16 rfl ?_
            refine stepL 17 rfl (by kernel_rfl) (fun K hK => ?_)
            go_simp
            refine hK.out _ _ (trivial) (fun hHeld => ?_)
            clear hK K
            try simp only [Act.put, sA, sZ, sS]
            refine wpAnyH_done (by kernel_rfl) (NoPanic.normal ?_) _
            go_wp2_with fail
            exact ⟨⟨j, swapN M2 j x y, by omega, by go_num, hl3, hO7, hN3, hm3, hk7⟩, by simp [intOf]⟩
          · have hS2 := Lib.hid (near_stop hN2.out hj hx'.out hy'.out (by omega))
            clear hN2
            go_wp2_with fail
            exact ⟨⟨i + 1, M2, by omega, .inl (by omega), by go_num, hl2, hO3, hS2, hm2, hk3⟩, by simp [intOf]; omega⟩
    · have m2 : ¬ (i : Int) < (M.length : Int) := by omega
      go_wp2_with fail
      go_end0
      refine ⟨rfl, M1, hl1, hO1.out, ?_, hm1.out, hk1.out⟩
      intro a b x y h1 h2 hx hy
      exact hS1.out a b x y h1 (by omega) hx hy
set_option maxRecDepth 100000 in
set_option maxHeartbeats 8000000 in
theorem bitsLen64_nine (n : Nat) (h1 : 1 ≤ n) (h2 : n ≤ 9) (w : World) : Calls Tryz.prog 103 #[.int .u64 (n : Int)] w fun e w' => (∃ r : Int, e = .returned (.int .i64 r)) ∧ w = w' := by
  have h : n = 1 ∨ n = 2 ∨ n = 3 ∨ n = 4 ∨ n = 5 ∨ n = 6 ∨ n = 7 ∨ n = 8 ∨ n = 9 := by omega
  rcases h with rfl | rfl | rfl | rfl | rfl | rfl | rfl | rfl | rfl
  all_goals
    go_enter Tryz.func103, Tryz.ntmps103
    go_wp2_with fail
    go_ret
    exact ⟨⟨_, rfl⟩, rfl⟩
set_option maxRecDepth 100000 in
set_option maxHeartbeats 8000000 in
theorem bitsLen_nine (n : Nat) (h1 : 1 ≤ n) (h2 : n ≤ 9) (w : World) : Calls Tryz.prog 63 #[.int .u64 (n : Int)] w fun e w' => (∃ r : Int, e = .returned (.int .i64 r)) ∧ w = w' := by
  have hb := Lib.hid (bitsLen64_nine n h1 h2)
  have e1 : IntKind.u64.wrap (n : Int) = (n : Int) := by simp [IntKind.wrap, IntKind.signed, IntKind.bits]; omega
  go_enter Tryz.func63, Tryz.ntmps63
  go_wp2_with fail
  refine (hb.out _).mono ?_
  rintro e w1 ⟨⟨r, rfl⟩, rfl⟩
  go_wp2_with fail
  go_ret
  exact ⟨⟨_, rfl⟩, rfl⟩
set_option maxRecDepth 100000 in
set_option maxHeartbeats 8000000 in
theorem pdqU32_any (g c : Nat) (M : List Nat) (m : Int) (w0 w : World) (hO : Hid (OwnN w0 w (.slice (some ⟨g, 0, none⟩) M.length c) M)) (hl : M.length ≤ 9) :
    Calls Tryz.prog 93 #[.slice (some ⟨g, 0, none⟩) M.length c, .int .i64 0, .int .i64 M.length, .int .i64 m] w fun e w' => e = .returned (.tuple #[]) ∧ ∃ M', M'.length = M.length ∧ OwnN w0 w' (.slice (some ⟨g, 0, none⟩) M.length c) M' ∧ Sorted15 M' M'.length ∧ (∀ z, z ∈ M' ↔ z ∈ M) ∧ Keeps (fun i => i = g) w w' := by
  have g1 : (M.length : Int) ≤ 12 := by omega
  go_enter Tryz.func93, Tryz.ntmps93
  go_wp2_with fail
  go_loopw [1, 2] (fun a b wr => a = .int .i64 0 ∧ b = .int .i64 M.length ∧ w = wr) (fun _ _ _ => 0)
  case atStart => exact ⟨rfl, rfl, rfl⟩
  obtain ⟨rfl, rfl, rfl⟩ := hrel
  go_wp2_with fail
  refine (insU32_any g c M w0 w hO (by omega)).mono ?_
  rintro e w1 ⟨rfl, h⟩
  have h' := Lib.hid h
  clear h
  go_wp2_with fail
  refine bodyPost_ret (results_none rfl _ _ _) rfl ⟨rfl, h'.out⟩
set_option maxRecDepth 100000 in
set_option maxHeartbeats 8000000 in
theorem sortU32_any (g c : Nat) (M : List Nat) (w0 w : World) (hO : Hid (OwnN w0 w (.slice (some ⟨g, 0, none⟩) M.length c) M)) (h1 : 1 ≤ M.length) (hl : M.length ≤ 9) :
    Calls Tryz.prog 60 #[.slice (some ⟨g, 0, none⟩) M.length c] w fun e w' => e = .returned (.tuple #[]) ∧ ∃ M', M'.length = M.length ∧ OwnN w0 w' (.slice (some ⟨g, 0, none⟩) M.length c) M' ∧ Sorted15 M' M'.length ∧ (∀ z, z ∈ M' ↔ z ∈ M) ∧ Keeps (fun i => i = g) w w' := by
  have hb := Lib.hid (bitsLen_nine M.length h1 hl)
  have e1 : IntKind.u64.wrap (M.length : Int) = (M.length : Int) := by simp [IntKind.wrap, IntKind.signed, IntKind.bits]; omega
  go_enter Tryz.func60, Tryz.ntmps60
  go_wp2_with fail
  refine (hb.out _).mono ?_
  rintro e w1 ⟨⟨r, rfl⟩, rfl⟩
  go_wp2_with fail
  refine (pdqU32_any g c M r w0 w hO hl).mono ?_
  rintro e w1 ⟨rfl, h⟩
  have h' := Lib.hid h
  clear h
  go_wp2_with fail
  go_end0
  exact ⟨rfl, h'.out⟩
end Go.Proofs.YtialookpnoaogaaGreat
/- Of adv: slices.Compact of sorted numbers. -/
set_option linter.unusedVariables false
set_option linter.unusedSimpArgs false
namespace Go.Proofs.YtialookpnoaogaaGreat
open Go.RowKit

/-- the first i rise strictly -/
def Rise15 (l : List Nat) (i : Nat) : Prop := ∀ a b x y, a < b → b < i → l[a]? = some x → l[b]? = some y → x < y
theorem rise_more {l : List Nat} {i x y : Nat} (hs : Sorted15 l l.length) (h : Rise15 l i) (hi : 1 ≤ i) (hx : l[i - 1]? = some x) (hy : l[i]? = some y) (hne : x ≠ y) : Rise15 l (i + 1) := by
  have hil := (List.getElem?_eq_some_iff.1 hy).1
  have hxy : x < y := by have := hs (i - 1) i x y (by omega) hil hx hy; omega
  intro a b u v hab hb hu hv
  by_cases e : b = i
  · subst e
    rw [hy] at hv
    injection hv with hv
    by_cases e2 : a = b - 1
    · subst e2; rw [hx] at hu; injection hu with hu; omega
    · have := h a (b - 1) u x (by omega) (by omega) hu hx
      omega
  · exact h a b u v hab (by omega) hu hv
theorem own_cut {w0 w : World} {g c : Nat} {M : List Nat} (h : OwnN w0 w (.slice (some ⟨g, 0, none⟩) M.length c) M) (k : Nat) (hk : k ≤ M.length) (Z : List Value) : OwnN w0 (w.setCells g k Z) (.slice (some ⟨g, 0, none⟩) k c) (M.take k) := by
  obtain ⟨cur, hB, -, h1, h2, h3, h4⟩ := own_open h
  obtain ⟨cur', b1, b2, b3⟩ := blk_sets Z k w cur hB
  have hl : (M.take k).length = k := by rw [List.length_take]; omega
  have := own_make (w0 := w0) (M := M.take k) b1 (by omega) h2 (by omega) (by
    rw [hl, b3, List.map_take, ← h4, List.take_take, Nat.min_eq_left (by omega)]) (h.2.1 g rfl) (Nat.le_trans h.2.2 (Keeps.setCells (F := fun j => j = g) (.inl rfl) _ _ _ (Keeps.refl _ _)).size)
  rw [hl] at this
  exact this
theorem own_clear {w0 w : World} {g c n : Nat} {M : List Nat} (h : OwnN w0 w (.slice (some ⟨g, 0, none⟩) M.length c) M) (k : Nat) (hk : k < M.length) (hn : n = M.length - k) : ∀ ty c2, (Builtin.clear_ #[73] ty #[.slice (some ⟨g, k, none⟩) n c2]).run Tryz.prog w = .ok (.tuple #[]) (w.setCells g k (List.replicate n (.int .u32 0))) := by
  obtain ⟨cur, hB, -, h1, h2, h3, h4⟩ := own_open h
  intro ty c2
  exact Lib.run_clear_slice w 73 40 ty (.int .u32 0) Tryz.underlying73 (fun w => by simp [go_sem]) rfl rfl g k n c2 (by omega) (fun j hj => by rw [hB.cell (k + j) _ (List.getElem?_eq_getElem (by omega))]; rfl) (fun j hj => hB.frozen _)
/-- numbers on their way: the first t rise, and are those of the first r -/
structure Comp15 (M M2 : List Nat) (t r : Nat) : Prop where
  t1 : 1 ≤ t
  tr : t + 1 ≤ r
  rl : r ≤ M.length
  l : M2.length = M.length
  s : ∀ a, r - 1 ≤ a → M2[a]? = M[a]?
  ri : Rise15 M2 t
  e : M2[t - 1]? = M[r - 1]?
  m : ∀ z, (∃ a, a < t ∧ M2[a]? = some z) ↔ (∃ a, a < r ∧ M[a]? = some z)
theorem comp_start {M : List Nat} {i x : Nat} (hR : Rise15 M (i + 1)) (hl : i + 1 < M.length) (hx : M[i]? = some x) (hy : M[i + 1]? = some x) : Comp15 M M (i + 1) (i + 2) :=
  ⟨by omega, by omega, by omega, rfl, fun a _ => rfl, hR, by rw [Nat.add_sub_cancel, hx, show i + 2 - 1 = i + 1 by omega, hy], fun z => ⟨fun ⟨a, h1, h2⟩ => ⟨a, by omega, h2⟩, fun ⟨a, h1, h2⟩ => by
    by_cases e : a = i + 1
    · subst e; exact ⟨i, by omega, by rw [hx, ← hy]; exact h2⟩
    · exact ⟨a, by omega, h2⟩⟩⟩
theorem comp_skip {M M2 : List Nat} {t r u : Nat} (h : Comp15 M M2 t r) (hr : r < M.length) (hu : M[r - 1]? = some u) (hv : M[r]? = some u) : Comp15 M M2 t (r + 1) :=
  ⟨h.t1, by have := h.tr; omega, hr, h.l, fun a ha => h.s a (by omega), h.ri, by rw [h.e, hu, Nat.add_sub_cancel, hv], fun z => (h.m z).trans ⟨fun ⟨a, h1, h2⟩ => ⟨a, by omega, h2⟩, fun ⟨a, h1, h2⟩ => by
    have := h.tr
    by_cases e : a = r
    · subst e; exact ⟨a - 1, by omega, by rw [hu, ← hv]; exact h2⟩
    · exact ⟨a, by omega, h2⟩⟩⟩
theorem comp_put {M M2 : List Nat} {t r u v : Nat} (hs : Sorted15 M M.length) (h : Comp15 M M2 t r) (hr : r < M.length) (hu : M[r - 1]? = some u) (hv : M[r]? = some v) (hne : v ≠ u) : Comp15 M (M2.set t v) (t + 1) (r + 1) := by
  have htr := h.tr
  have ht1 := h.t1
  have huv : u < v := by have := hs (r - 1) r u v (by omega) hr hu hv; omega
  have hg : ∀ a, (M2.set t v)[a]? = if a = t then some v else M2[a]? := fun a => by
    rw [List.getElem?_set]
    by_cases e : t = a
    · rw [if_pos e, if_pos (by rw [h.l]; omega), if_pos e.symm]
    · rw [if_neg e, if_neg (fun e2 => e e2.symm)]
  refine ⟨by omega, by omega, hr, by rw [List.length_set, h.l], fun a ha => ?_, fun a b x y hab hb hx hy => ?_, ?_, fun z => ⟨fun ⟨a, h1, h2⟩ => ?_, fun ⟨a, h1, h2⟩ => ?_⟩⟩
  · rw [hg, if_neg (by omega)]; exact h.s a (by omega)
  · rw [hg] at hx hy
    rw [if_neg (by omega)] at hx
    by_cases e : b = t
    · rw [if_pos e] at hy
      injection hy with hy
      by_cases e2 : a = t - 1
      · rw [e2, h.e, hu] at hx; injection hx with hx; omega
      · have := h.ri a (t - 1) x u (by omega) (by omega) hx (by rw [h.e, hu])
        omega
    · rw [if_neg e] at hy
      exact h.ri a b x y hab (by omega) hx hy
  · rw [hg, if_pos (by omega), Nat.add_sub_cancel, hv]
  · rw [hg] at h2
    by_cases e : a = t
    · rw [if_pos e] at h2
      exact ⟨r, by omega, by rw [hv]; exact h2⟩
    · rw [if_neg e] at h2
      obtain ⟨b, h3, h4⟩ := (h.m z).1 ⟨a, by omega, h2⟩
      exact ⟨b, by omega, h4⟩
  · by_cases e : a = r
    · subst e
      exact ⟨t, by omega, by rw [hg, if_pos rfl, ← hv]; exact h2⟩
    · obtain ⟨b, h3, h4⟩ := (h.m z).2 ⟨a, by omega, h2⟩
      exact ⟨b, by omega, by rw [hg, if_neg (by omega)]; exact h4⟩
set_option maxRecDepth 100000 in
set_option maxHeartbeats 8000000 in
theorem compU32_any (g c : Nat) (M : List Nat) (w0 w : World) (hO : Hid (OwnN w0 w (.slice (some ⟨g, 0, none⟩) M.length c) M)) (h1 : 1 ≤ M.length) (hl : M.length ≤ 1000) (hs : Hid (Sorted15 M M.length)) :
    Calls Tryz.prog 61 #[.slice (some ⟨g, 0, none⟩) M.length c] w fun e w' => ∃ M', e = .returned (.slice (some ⟨g, 0, none⟩) M'.length c) ∧ OwnN w0 w' (.slice (some ⟨g, 0, none⟩) M'.length c) M' ∧ Rise15 M' M'.length ∧ (∀ z, z ∈ M' ↔ z ∈ M) ∧ M'.length ≤ M.length ∧ Keeps (fun i => i = g) w w' := by
  by_cases h2 : M.length < 2
  · have g0 : (M.length : Int) < 2 := by omega
    go_enter Tryz.func61, Tryz.ntmps61
    go_wp2_with fail
    go_ret
    exact ⟨M, rfl, hO.out, fun a b x y hab hb => by omega, fun z => Iff.rfl, Nat.le_refl _, Keeps.refl _ _⟩
  · have g0 : ¬ (M.length : Int) < 2 := by omega
    have hM2 : 2 ≤ M.length := by omega
    clear h2
    go_enter Tryz.func61, Tryz.ntmps61
    go_wp2_with fail
    go_loopw [3] (fun iv wr => ∃ (i : Nat), 1 ≤ i ∧ i ≤ M.length ∧ iv = .int .i64 i ∧ Hid (Rise15 M i) ∧ Hid (Keeps (fun _ => False) w wr)) (fun iv _ => M.length - (intOf iv).toNat)
    case atStart => exact ⟨1, by omega, by omega, rfl, Lib.hid (fun a b x y hab hb => by omega), Lib.hid (Keeps.refl _ _)⟩
    case round =>
      obtain ⟨i, hi1, hi2, rfl, hR, hK⟩ := hrel
      by_cases hil : i < M.length
      · obtain ⟨i, rfl⟩ : ∃ j, i = j + 1 := ⟨i - 1, by omega⟩
        obtain ⟨x, hx⟩ : ∃ x, M[i]? = some x := ⟨_, List.getElem?_eq_getElem (by omega)⟩
        obtain ⟨y, hy⟩ : ∃ x, M[i + 1]? = some x := ⟨_, List.getElem?_eq_getElem (by omega)⟩
        have hOr := Lib.hid (hO.out.keep hK.out (fun _ _ f => f))
        have hcx := Lib.hid (own_cell hOr.out hx)
        have hcy := Lib.hid (own_cell hOr.out hy)
        have hgl := Lib.hid (World.block_lt_of_cell? _ _ hcx.out.1)
        have g1 : (i : Int) + 1 < (M.length : Int) := by omega
        have g2 : (0 : Int) ≤ (i : Int) + 1 := by omega
        have g3 : (i : Int) < (M.length : Int) := by omega
        have g4 : (0 : Int) ≤ (i : Int) := by omega
        have e1 : IntKind.i64.wrap (i : Int) = (i : Int) := IntWalk.i64_in _ (by omega)
        have hx' := Lib.hid hx
        have hy' := Lib.hid hy
        clear hx hy
        go_upto_region 6 with fail
        refine wp_region_noPanic ?_
        refine wp_region_held_drew (S := (fun W => Keeps (fun _ => False) wr W)) (by kernel_rfl) (((Keeps.refl (fun _ => False) wr).drew)) (fun hHeld => ?_)
        refine tk 0 rfl ?_
        refine tk 1 rfl ?_
        refine tk 2 rfl ?_
        refine tkL 3 rfl (yieldsIf_load_cell (by rfl) 40 (.tmp 18) rfl g (i + 1) rfl (.int .u32 y) (fun _ s => (s.cell (p := ⟨g, i + 1, none⟩) hgl.out id).trans hcy.out.1) (fun w s => load_u32 w _ _ _ s)) ?_
        refine tk 4 rfl ?_
        refine tk 5 rfl ?_
        refine tk 6 rfl ?_
        refine tk 7 rfl ?_
        refine tkL 8 rfl (yieldsIf_load_cell (by rfl) 40 (.tmp 23) rfl g i rfl (.int .u32 x) (fun _ s => (s.cell (p := ⟨g, i, none⟩) hgl.out id).trans hcx.out.1) (fun w s => load_u32 w _ _ _ s)) ?_
        refine tk 9 rfl ?_
        refine wpAnyH_done (by kernel_rfl) (NoPanic.normal ?_) _
        have hK3 := Lib.hid (hK.out.trans hHeld)
        have hO3 := Lib.hid (hOr.out.keep hHeld (fun _ _ f => f))
        generalize wr.drew = W3 at hK3 hO3 ⊢
        clear hHeld hK hOr hcx hcy hgl
        by_cases hxy : y = x
        · have z1 : ((y : Int) == (x : Int)) = true := by simp [hxy]
          have hC0 := Lib.hid (comp_start hR.out hil hx'.out (by rw [hy'.out, hxy]))
          obtain ⟨cur, -, -, hcM, -, -, -⟩ := own_open hO.out
          have r1 : ¬ c = i + 1 := by omega
          have r2 : (i : Int) + 1 ≤ (c : Int) := by omega
          clear hxy hR hcM
          go_wp2_with fail
          have hmc : M.length ≤ c := by
            obtain ⟨cur, -, -, h1, h2, h3, h4⟩ := own_open hO.out
            omega
          go_loopw [3, 5] (fun tv jv wr => ∃ (t k : Nat) (M2 : List Nat), 1 ≤ k ∧ i + 1 + k ≤ M.length ∧ tv = .int .i64 t ∧ jv = .int .i64 k ∧ Hid (Comp15 M M2 t (i + 1 + k)) ∧ Hid (OwnN w0 wr (.slice (some ⟨g, 0, none⟩) M.length c) M2) ∧ Hid (Keeps (fun i => i = g) w wr)) (fun _ jv _ => M.length - (intOf jv).toNat)
          case atStart => exact ⟨i + 1, 1, M, by omega, by omega, rfl, rfl, hC0, hO3, Lib.hid (hK3.out.mono (fun _ f => f.elim))⟩
          case round =>
            obtain ⟨t, k, M2, hk1, hk2, rfl, rfl, hC, hO4, hK4⟩ := hrel
            have ht1 := hC.out.t1
            have htr := hC.out.tr
            have hl2 := hC.out.l
            by_cases hkl : i + 1 + k < M.length
            · obtain ⟨q, rfl⟩ : ∃ q, k = q + 1 := ⟨k - 1, by omega⟩
              obtain ⟨v, hv⟩ : ∃ x, M[i + 1 + (q + 1)]? = some x := ⟨_, List.getElem?_eq_getElem (by omega)⟩
              obtain ⟨u, hu⟩ : ∃ x, M[i + 1 + q]? = some x := ⟨_, List.getElem?_eq_getElem (by omega)⟩
              have hv2 := (hC.out.s (i + 1 + (q + 1)) (by omega)).trans hv
              have hu2 := (hC.out.s (i + 1 + q) (by omega)).trans hu
              have hcv := Lib.hid (own_cell hO4.out hv2)
              have hcu := Lib.hid (own_cell hO4.out hu2)
              have hgl := Lib.hid (World.block_lt_of_cell? _ _ hcv.out.1)
              have g1 : (q : Int) + 1 < ((M.length - (i + 1) : Nat) : Int) := by omega
              have g2 : (0 : Int) ≤ (q : Int) + 1 := by omega
              have g3 : (q : Int) < ((M.length - (i + 1) : Nat) : Int) := by omega
              have g4 : (0 : Int) ≤ (q : Int) := by omega
              have e2 : IntKind.i64.wrap (q : Int) = (q : Int) := IntWalk.i64_in _ (by omega)
              have hu' := Lib.hid hu
              have hv' := Lib.hid hv
              clear hu hv hu2 hv2
              go_upto_region 11 with fail
              refine wp_region_noPanic ?_
              refine wp_region_held_drew (S := (fun W => Keeps (fun _ => False) wr W)) (by kernel_rfl) (((Keeps.refl (fun _ => False) wr).drew)) (fun hHeld => ?_)
              refine tk 0 rfl ?_
              refine tk 1 rfl ?_
              refine tk 2 rfl ?_
              refine tkL 3 rfl (yieldsIf_load_cell (by rfl) 40 (.tmp 37) rfl g (i + 1 + (q + 1)) rfl (.int .u32 v) (fun _ s => (s.cell (p := ⟨g, i + 1 + (q + 1), none⟩) hgl.out id).trans hcv.out.1) (fun w s => load_u32 w _ _ _ s)) ?_
              refine tk 4 rfl ?_
              refine tk 5 rfl ?_
              refine tk 6 rfl ?_
              refine tk 7 rfl ?_
              refine tkL 8 rfl (yieldsIf_load_cell (by rfl) 40 (.tmp 42) rfl g (i + 1 + q) rfl (.int .u32 u) (fun _ s => (s.cell (p := ⟨g, i + 1 + q, none⟩) hgl.out id).trans hcu.out.1) (fun w s => load_u32 w _ _ _ s)) ?_
              refine tk 9 rfl ?_
              refine wpAnyH_done (by kernel_rfl) (NoPanic.normal ?_) _
              have hK5 := Lib.hid (hK4.out.trans (hHeld.mono (fun _ f => f.elim)))
              have hO5 := Lib.hid (hO4.out.keep hHeld (fun _ _ f => f))
              have hcv5 := Lib.hid ((hHeld.cell (p := ⟨g, i + 1 + (q + 1), none⟩) hgl.out id).trans hcv.out.1)
              generalize wr.drew = W5 at hK5 hO5 hcv5 ⊢
              clear hHeld hK4 hO4 hcv hcu hgl
              by_cases hvu : v = u
              · have z1 : ((v : Int) == (u : Int)) = true := by simp [hvu]
                have hC2 := Lib.hid (comp_skip hC.out hkl hu'.out (by rw [hv'.out, hvu]))
                clear hvu hC
                go_wp2_with fail
                exact ⟨⟨t, q + 1 + 1, M2, by omega, by omega, rfl, by go_num, hC2, hO5, hK5⟩, by simp [intOf]; omega⟩
              · have z1 : ((v : Int) == (u : Int)) = false := by simp; omega
                have hC2 := Lib.hid (comp_put hs.out hC.out hkl hu'.out hv'.out hvu)
                clear hvu hC
                have g5 : (t : Int) < (M.length : Int) := by omega
                have hO6 := Lib.hid (own_set (M := M2) (hl2 ▸ hO5.out) t v (by omega))
                have hK6 := Lib.hid (hK5.out.setCell (p := ⟨g, t, none⟩) (.inl rfl) (.int .u32 v))
                obtain ⟨z, hz⟩ : ∃ z, M2[t]? = some z := ⟨_, List.getElem?_eq_getElem (by omega)⟩
                have q0 := hcv5.out
                have q1 := (own_cell hO5.out hz).1
                have q2 := (own_cell hO5.out hz).2
                clear hz
                go_wp2_with fail
                exact ⟨⟨t + 1, q + 1 + 1, M2.set t v, by omega, by omega, by go_num, by go_num, hC2, Lib.hid (hl2 ▸ hO6.out), hK6⟩, by simp [intOf]; omega⟩
            · obtain rfl : k = M.length - (i + 1) := by omega
              have hcl := own_clear (M := M2) (n := M.length - t) (hl2 ▸ hO4.out) t (by omega) (by omega)
              have hO5 := Lib.hid (own_cut (M := M2) (hl2 ▸ hO4.out) t (by omega) (List.replicate (M.length - t) (.int .u32 0)))
              have hlt : (M2.take t).length = t := by rw [List.length_take]; omega
              have hrl : i + 1 + (M.length - (i + 1)) = M.length := by omega
              have hC' : Hid (Comp15 M M2 t M.length) := Lib.hid (by have := hC.out; rwa [hrl] at this)
              clear hC
              go_wp2_with fail
              go_ret
              refine ⟨M2.take t, by rw [hlt]; rfl, by rw [hlt]; exact hO5.out, fun a b x y hab hb hx hy => ?_, fun z => ?_, by omega, ?_⟩
              · rw [hlt] at hb
                rw [List.getElem?_take, if_pos (by omega)] at hx hy
                exact hC'.out.ri a b x y hab hb hx hy
              · constructor
                · intro hz
                  obtain ⟨a, ha⟩ := List.mem_iff_getElem?.1 hz
                  have hat : a < t := by have := (List.getElem?_eq_some_iff.1 ha).1; omega
                  rw [List.getElem?_take, if_pos hat] at ha
                  obtain ⟨b, -, h3⟩ := (hC'.out.m z).1 ⟨a, hat, ha⟩
                  exact List.mem_iff_getElem?.2 ⟨b, h3⟩
                · intro hz
                  obtain ⟨b, hb⟩ := List.mem_iff_getElem?.1 hz
                  obtain ⟨a, h3, h4⟩ := (hC'.out.m z).2 ⟨b, (List.getElem?_eq_some_iff.1 hb).1, hb⟩
                  exact List.mem_iff_getElem?.2 ⟨a, by rw [List.getElem?_take, if_pos h3]; exact h4⟩
              · exact Keeps.setCells (F := fun j => j = g) (.inl rfl) _ _ _ hK4.out
        · have z1 : ((y : Int) == (x : Int)) = false := by simp; omega
          have hR2 := Lib.hid (rise_more hs.out hR.out hi1 (by rw [Nat.add_sub_cancel]; exact hx'.out) hy'.out (fun e => hxy e.symm))
          clear hxy hR
          go_wp2_with fail
          exact ⟨⟨i + 2, by omega, by omega, by go_num, hR2, hK3⟩, by simp [intOf]; omega⟩
      · obtain rfl : i = M.length := by omega
        go_wp2_with fail
        go_ret
        exact ⟨M, rfl, hO.out.keep hK.out (fun _ _ f => f), hR.out, fun z => Iff.rfl, Nat.le_refl _, hK.out.mono (fun _ f => f.elim)⟩
end Go.Proofs.YtialookpnoaogaaGreat
/- The document's Right of an Lsa, walked (gen_ly.py writes this). -/
namespace Go.Proofs.YtialookpnoaogaaGreat
open Go.RowKit

theorem zero_beq (n : Nat) : ((n : Int) == 0) = decide (n = 0) := by cases n with
  | zero => rfl
  | succ n => rw [beq_eq_false_iff_ne.2 (by omega), decide_eq_false (by omega)]
end Go.Proofs.YtialookpnoaogaaGreat
/- To, walked (gen_lz.py writes this). -/
namespace Go.Proofs.YtialookpnoaogaaGreat
open Go.RowKit

theorem OwnN.ne_blk {w0 w : World} {v : Value} {xs : List Nat} (h : OwnN w0 w v xs) {B : Nat} {cs : List Value} (hb : BlkAt w B 75 cs) : ∀ k, v.ownBlock = some k → k ≠ B := by
  rintro k e rfl
  rcases h.1.2 with ⟨e1, -⟩ | ⟨g, cap, cur, e1, -, hg, -⟩
  · rw [e1] at e; simp [Value.ownBlock] at e
  · rw [e1] at e
    simp only [Value.ownBlock, Option.some.injEq] at e
    subst e
    have hb2 : w.heap[g]? = _ := hb
    rw [hg] at hb2
    injection hb2 with hb2
    injection hb2 with _ hb2
    exact absurd hb2 (by decide)
theorem BlkAt.put {w : World} {B : Nat} {t : TypeId} {cs : List Value} (h : BlkAt w B t cs) (o : Nat) (v : Value) : BlkAt (w.setCell ⟨B, o, none⟩ v) B t (cs.set o v) := by
  have h2 : w.heap[B]? = _ := h
  have := heap_put h2 o v
  unfold BlkAt
  rw [this]; simp
/-- a link behind links of the call's own: one operation -/
theorem wp_append_lb {P : Program} {w : World} {o : Oper} {a : Act} {K : Act → World → Prop} {Q : Exit → Act → World → Prop} (s x : Operand) (t : TypeId)
    (ho : o.op = .call { callee := .builtin .append, args := #[s, x], argTypes := #[t, t] })
    (i : TypeInfo) (ht : P.underlying t = some (.slice 142)) (hi : P.info? 142 = some i) (hz : i.zero = some (.agg #[.int .u32 0, .int .u32 0, .int .i64 0, .int .i64 0])) (hsize : i.size = 4) (hby : i.bytes = 24)
    (w0 : World) (v : Value) (n : Nat) (xs : List LinkD) (hn : xs.length = n) (hs : a.eval s = v) (hown : OwnL w0 w v xs) (ad : Addr) (hx : a.eval x = .slice (some ad) 1 1) (l : LinkD) (hl : ∀ j u, (linkVals l)[j]? = some u → w.cell? (ad.add j) = some u) (hsz : (n + 1) * 24 ≤ 140737488355328)
    (h : ∀ p c w', OwnL w0 w' (.slice p (n + 1) c) (xs ++ [l]) → Grown w v p (n + 1) c w' → K (a.put o.dst (.slice p (n + 1) c)) w') : Oper.wp P o a w K Q := by
  subst hn
  obtain ⟨v', w', hr, h2, h3, h4⟩ := run_append_sep (P := P) w t o.type 142 i (.agg #[.int .u32 0, .int .u32 0, .int .i64 0, .int .i64 0]) 4 24 ht hi hz hsize hby rfl (by decide) v xs.length (linkCells xs) hown.1 ad 1 1 (linkVals l) rfl hl (linkVals_one l) (by unfold maxLen; omega) (by omega)
  obtain ⟨p, c, rfl⟩ := ownsRow_slice h2
  unfold Oper.wp execOp
  simp only [ho, resolve, invoke, builtin, Sem.run_bind, Sem.run_pure, Result.andThen_ok, List.map_toArray, List.map_cons, List.map_nil, hs, hx, hr]
  refine h p c w' ⟨by rw [linkCells_snoc]; simpa using h2, fun k e => ?_, Nat.le_trans hown.2.2 h3.size⟩ ⟨(Keeps.refl _ _).grown h3 (fun k e => .inl e), h4⟩
  rcases h4 k e with e | e
  · exact hown.2.1 k e
  · exact Nat.le_trans hown.2.2 e
theorem run_append_numsb {P : Program} (w : World) (t ty : TypeId) (i : TypeInfo) (ht : P.underlying t = some (.slice 40)) (hi : P.info? 40 = some i) (hz : i.zero = some (.int .u32 0)) (hsize : i.size = 1) (hby : i.bytes = 4)
    (w0 : World) (v : Value) (xs : List Nat) (hown : OwnN w0 w v xs) (sv : Value) (l : List Nat) (hl : NumsAt w sv l) (hsz : (xs.length + l.length) * 4 ≤ 140737488355328) :
    ∃ p c w', (Builtin.append_ #[t, t] ty #[v, sv]).run P w = .ok (.slice p (xs.length + l.length) c) w' ∧ OwnN w0 w' (.slice p (xs.length + l.length) c) (xs ++ l) ∧ Grown w v p (xs.length + l.length) c w' := by
  obtain ⟨sp, sc, rfl, hp, -, hlr⟩ := hl
  cases sp with
  | none =>
    have h0 : l.length = 0 := by
      rcases Nat.eq_zero_or_pos l.length with h | h
      · exact h
      · obtain ⟨b, o, e, _⟩ := hlr h; cases e
    have hc := hp rfl
    subst hc
    have hl0 : l = [] := List.length_eq_zero_iff.1 h0
    subst hl0
    obtain ⟨p, c, rfl⟩ := hown.slice
    exact ⟨p, c, w, run_append_owned_none (P := P) (w := w) 0 t ty 40 i 1 ht hi _ xs.length (xs.map nv) hown.1, by simpa using hown, Keeps.refl _ _, fun k e => .inl e⟩
  | some ad =>
    obtain ⟨v', w', hr, h2, h3, h4⟩ := run_append_sep (P := P) w t ty 40 i (.int .u32 0) 1 4 ht hi hz hsize hby rfl (by decide) v xs.length (xs.map nv) hown.1 ad l.length sc (l.map nv) (by simp) (fun j u hu => by
      have h0 : 0 < l.length := by
        have := (List.getElem?_eq_some_iff.1 hu).1; simp at this; omega
      obtain ⟨b, o, e, hr⟩ := hlr h0
      injection e with e; subst e
      rw [Addr.add_mid]; exact hr j u hu) (nv_one l) (by unfold maxLen; omega) (by omega)
    obtain ⟨p, c, rfl⟩ := ownsRow_slice h2
    refine ⟨p, c, w', hr, ⟨by rw [List.map_append, List.length_append]; exact h2, fun k e => ?_, Nat.le_trans hown.2.2 h3.size⟩, (Keeps.refl _ _).grown h3 (fun k e => .inl e), h4⟩
    rcases h4 k e with e | e
    · exact hown.2.1 k e
    · exact Nat.le_trans hown.2.2 e
/-- .. as one operation -/
theorem wp_append_numsb {P : Program} {w : World} {o : Oper} {a : Act} {K : Act → World → Prop} {Q : Exit → Act → World → Prop} (s x : Operand) (t : TypeId)
    (ho : o.op = .call { callee := .builtin .append, args := #[s, x], argTypes := #[t, t] })
    (i : TypeInfo) (ht : P.underlying t = some (.slice 40)) (hi : P.info? 40 = some i) (hz : i.zero = some (.int .u32 0)) (hsize : i.size = 1) (hby : i.bytes = 4)
    (w0 : World) (v : Value) (n : Nat) (xs : List Nat) (hn : xs.length = n) (hs : a.eval s = v) (hown : OwnN w0 w v xs) (sv : Value) (hx : a.eval x = sv) (l : List Nat) (hl : NumsAt w sv l) (hsz : (n + l.length) * 4 ≤ 140737488355328)
    (h : ∀ p c w', OwnN w0 w' (.slice p (n + l.length) c) (xs ++ l) → Grown w v p (n + l.length) c w' → K (a.put o.dst (.slice p (n + l.length) c)) w') : Oper.wp P o a w K Q := by
  subst hn
  obtain ⟨p, c, w', hr, h2, h3⟩ := run_append_numsb (P := P) w t o.type i ht hi hz hsize hby w0 v xs hown sv l hl hsz
  unfold Oper.wp execOp
  simp only [ho, resolve, invoke, builtin, Sem.run_bind, Sem.run_pure, Result.andThen_ok, List.map_toArray, List.map_cons, List.map_nil, hs, hx, hr]
  exact h p c w' h2 h3
theorem no_true {b : Bool} (h : b = true → False) : b = false := by cases b with
  | false => rfl
  | true => exact (h rfl).elim
theorem load_r10links (w : World) (b o : Nat) (v : Value) (h : w.cell? ⟨b, o, none⟩ = some v) : (loadVar 92 ⟨b, o, none⟩).run Tryz.prog w = .ok v w := by simp [go_sem, h]
theorem OwnL.type_ {w0 w : World} {v : Value} {xs : List LinkD} (h : OwnL w0 w v xs) (k : Nat) (e : v.ownBlock = some k) : ∃ cur, w.heap[k]? = some (.cells cur 142 (0, 0)) := by
  rcases h.1.2 with ⟨e1, -⟩ | ⟨g, cap, cur, e1, -, hg, -⟩
  · rw [e1] at e; simp [Value.ownBlock] at e
  · rw [e1] at e
    simp only [Value.ownBlock, Option.some.injEq] at e
    subst e; exact ⟨cur, hg⟩
theorem OwnN.type_ {w0 w : World} {v : Value} {xs : List Nat} (h : OwnN w0 w v xs) (k : Nat) (e : v.ownBlock = some k) : ∃ cur, w.heap[k]? = some (.cells cur 40 (0, 0)) := by
  rcases h.1.2 with ⟨e1, -⟩ | ⟨g, cap, cur, e1, -, hg, -⟩
  · rw [e1] at e; simp [Value.ownBlock] at e
  · rw [e1] at e
    simp only [Value.ownBlock, Option.some.injEq] at e
    subst e; exact ⟨cur, hg⟩
theorem OwnL.ne_blkL {w0 w : World} {v : Value} {xs : List LinkD} (h : OwnL w0 w v xs) {B : Nat} {cs : List Value} (hb : BlkAt w B 75 cs) : ∀ k, v.ownBlock = some k → k ≠ B := by
  rintro k e rfl
  obtain ⟨cur, hg⟩ := h.type_ k e
  have hb2 : w.heap[k]? = _ := hb
  rw [hg] at hb2
  injection hb2 with hb2
  injection hb2 with _ hb2
  exact absurd hb2 (by decide)
theorem OwnL.ne_nums {w0 w : World} {v u : Value} {xs : List LinkD} {ns : List Nat} (h : OwnL w0 w v xs) (hb : OwnN w0 w u ns) : ∀ k, v.ownBlock = some k → u.ownBlock = some k → False := by
  intro k e f
  obtain ⟨cur, hg⟩ := h.type_ k e
  obtain ⟨cur2, hb2⟩ := hb.type_ k f
  rw [hg] at hb2
  injection hb2 with hb2
  injection hb2 with _ hb2
  exact absurd hb2 (by decide)
end Go.Proofs.YtialookpnoaogaaGreat
