/- RG -/
import Derived.Test.YtmggbljkehclpaaG01
import Derived.Deep.RegionHeld3
set_option linter.unusedVariables false
set_option linter.unusedSimpArgs false
namespace Go.Proofs.Ytmggbljkehclpaa
open Go.RowKit
def updF (f : Nat → Value) (d : Nat) (v : Value) : Nat → Value := fun k => if k = d then v else f k
def updB (L : Nat → Bool) (r : Nat) : Nat → Bool := fun k => if k = r then true else L k
def a0r (A : Act) (ds : List Nat) (f : Nat → Value) : Act := ds.foldl (fun a d => a.put (some d) (f d)) A
theorem i0d (A : Act) (d : Nat) (ds : List Nat) (f : Nat → Value) : a0r A (d :: ds) f = a0r (A.put (some d) (f d)) ds f := rfl
theorem h0w (ds : List Nat) (f : Nat → Value) : ∀ (A : Act) (i : Nat), (a0r A ds f).tmps[i]? = if i ∈ ds ∧ i < A.tmps.size then some (f i) else A.tmps[i]? := by
 induction ds with
 | nil => intro A i; simp [a0r]
 | cons d ds ih =>
  intro A i
  rw [i0d, ih]
  have hs : (A.put (some d) (f d)).tmps.size = A.tmps.size := by simp [Act.put]
  have hg : (A.put (some d) (f d)).tmps[i]? = if d = i then (if d < A.tmps.size then some (f d) else none) else A.tmps[i]? := by
   simp only [Act.put, Array.getElem?_setIfInBounds]
  rw [hs, hg]
  by_cases h1 : i ∈ ds ∧ i < A.tmps.size
  ·rw [if_pos h1, if_pos ⟨List.mem_cons_of_mem _ h1.1, h1.2⟩]
  ·rw [if_neg h1]
   by_cases h2 : d = i
   ·subst h2
    rw [if_pos rfl]
    by_cases h3 : d < A.tmps.size
    ·rw [if_pos h3, if_pos ⟨by simp, h3⟩]
    ·rw [if_neg h3, if_neg (fun h => h3 h.2), Array.getElem?_eq_none (by omega)]
   ·rw [if_neg h2, if_neg]
    rintro ⟨h3, h4⟩
    rcases List.mem_cons.1 h3 with h3 | h3
    ·exact h2 h3.symm
    ·exact h1 ⟨h3, h4⟩
theorem p0e (ds : List Nat) (f : Nat → Value) : ∀ A : Act, (a0r A ds f).tmps.size = A.tmps.size := by
 induction ds with
 | nil => intro A; rfl
 | cons d ds ih => intro A; rw [i0d, ih]; simp [Act.put]
theorem g0a (ds : List Nat) (f : Nat → Value) : ∀ A : Act, (a0r A ds f).defers = A.defers := by
 induction ds with
 | nil => intro A; rfl
 | cons d ds ih => intro A; rw [i0d, ih]; simp [Act.put]
theorem q0x {a b : Act} (h1 : ∀ i : Nat, a.tmps[i]? = b.tmps[i]?) (h2 : a.defers = b.defers) : a = b := by
 cases a; cases b
 simp only at h1 h2
 subst h2
 congr 1
 exact Array.ext_getElem? h1
theorem m0l {A : Act} {ds : List Nat} {f : Nat → Value} {d : Nat} (hd : d ∈ ds) (v : Value) : (a0r A ds f).put (some d) v = a0r A ds (updF f d v) := by
 apply q0x
 ·intro i
  rw [h0w]
  simp only [Act.put, Array.getElem?_setIfInBounds, p0e]
  rw [h0w]
  by_cases h : d = i
  ·subst h
   rw [if_pos rfl]
   by_cases h3 : d < A.tmps.size
   ·rw [if_pos h3, if_pos ⟨hd, h3⟩]; simp [updF]
   ·rw [if_neg h3, if_neg (fun h => h3 h.2), Array.getElem?_eq_none (by omega)]
  ·rw [if_neg h]
   by_cases h1 : i ∈ ds ∧ i < A.tmps.size
   ·rw [if_pos h1, if_pos h1]; simp [updF, Ne.symm h]
   ·rw [if_neg h1, if_neg h1]
 ·rw [g0a]; simp [Act.put, g0a]
theorem p0f (A : Act) (ds : List Nat) : a0r A ds (fun d => A.tmps.getD d undef) = A := by
 apply q0x
 ·intro i
  rw [h0w]
  split
  ·rename_i h; simp [h.2]
  ·rfl
 ·exact g0a ..
def unl (L : Array Bool) : Nat := L.toList.count false
theorem n0o : ∀ (l : List Bool) (i : Nat), l[i]? = some false → (l.set i true).count false + 1 = l.count false
 | [], i, h => by simp at h
 | b :: l, 0, h => by simp at h; subst h; simp
 | b :: l, i + 1, h => by
  have := n0o l i (by simpa using h)
  simp only [List.set_cons_succ, List.count_cons]; omega
theorem unl_set {L : Array Bool} {i : Nat} (h : L.getD i true = false) : unl (L.setIfInBounds i true) + 1 = unl L := by
 unfold unl
 rw [Array.toList_setIfInBounds]
 refine n0o _ _ ?_
 have hi : i < L.size := by
  rcases Nat.lt_or_ge i L.size with h' | h'
  ·exact h'
  ·simp [Array.getElem?_eq_none h'] at h
 simp [hi] at h ⊢
 exact h
theorem unl_zero {L : Array Bool} (h : unl L = 0) (i : Nat) : L.getD i true = true := by
 unfold unl at h
 rw [List.count_eq_zero] at h
 rcases Nat.lt_or_ge i L.size with h' | h'
 ·have : L[i] ≠ false := fun e => h (by rw [← e]; simp)
  simp [h'] ; simpa using this
 ·simp [Array.getElem?_eq_none h']
def q0t (md : Region.Mode) (ops : Array Oper) : Bool := (List.range ops.size).all fun i => ((ops[i]?).map fun o => o.after.all fun e => !Region.binds md e || decide (e.on < i)).getD true
section
variable {P : Program} {ops : Array Oper} {Q : Exit → Act → World → Prop} {md : Region.Mode} {S : World → Prop}
theorem p0d (h : q0t md ops = true) {i : Nat} {o : Oper} (ho : ops[i]? = some o) {e : Edge} (he : e ∈ o.after) (hb : Region.binds md e = true) : e.on < i := by
 unfold q0t at h
 have hi : i < ops.size := (Array.getElem?_eq_some_iff.1 ho).1
 have := List.all_eq_true.1 h i (List.mem_range.2 hi)
 rw [ho] at this
 simp only [Option.map_some, Option.getD_some] at this
 have := (Array.all_eq_true'.1 this) e he
 simpa [hb] using this
theorem o0d (Inv : Array Bool → Act → World → Prop) (hb : q0t md ops = true)
 (hstep : ∀ L a w i o, ops[i]? = some o → Inv L a w → L.getD i true = false → (∀ e ∈ o.after, Region.binds md e = true → L.getD e.on false = true) → wpOp P ops Q i (fun a' w' => S w' ∧ Inv (L.setIfInBounds i true) a' w') a w)
 (hdone : ∀ L a w, Inv L a w → (∀ i, i < ops.size → L.getD i true = true) → Q .normal a w) :
 ∀ (fuel : Nat) (L : Array Bool) (a : Act) (w : World), unl L ≤ fuel → Inv L a w → wpAnyH P md ops Q S fuel L a w := by
 intro fuel
 induction fuel with
 | zero =>
  intro L a w hu hi
  have hall : ∀ i, L.getD i true = true := unl_zero (by omega)
  refine ⟨?_, hdone L a w hi (fun i _ => hall i)⟩
  rw [List.eq_nil_iff_forall_not_mem]
  intro j hj
  have := (mem_ready.1 hj).1
  rw [hall j] at this; cases this
 | succ fuel ih =>
  intro L a w hu hi
  refine ⟨fun hr => hdone L a w hi ?_, fun i hir => ?_⟩
  ·intro i
   induction i using Nat.strongRecOn with
   | _ i ihi =>
    intro hlt
    cases hc : L.getD i true with
    | true => rfl
    | false =>
     exfalso
     have : i ∈ Region.ready md ops L := mem_ready.2 ⟨hc, ops[i], by simp [hlt], fun e he hbd => by
      have hlti := p0d hb (show ops[i]? = some ops[i] by simp [hlt]) he hbd
      have h1 := ihi e.on hlti (by omega)
      have hsz : i < L.size := by
       rcases Nat.lt_or_ge i L.size with h' | h'
       ·exact h'
       ·simp [Array.getElem?_eq_none h'] at hc
      have : e.on < L.size := by omega
      simp [this] at h1 ⊢; exact h1⟩
     rw [hr] at this; cases this
  ·obtain ⟨h1, o, ho, h2⟩ := mem_ready.1 hir
   refine wpOp_mono (fun a' w' h => ⟨h.1, ih _ a' w' ?_ h.2⟩) (hstep L a w i o ho hi h1 h2)
   have := unl_set h1; omega
def StepG (P : Program) (md : Region.Mode) (ops : Array Oper) (Q : Exit → Act → World → Prop) (S : World → Prop) (A : Act) (ds R : List Nat) (G : (Nat → Bool) → (Nat → Value) → World → Prop) (r : Nat) : Prop :=
 ∀ o, ops[r]? = some o → ∀ (L : Nat → Bool) f w, G L f w → S w → L r = false → (∀ e ∈ o.after, Region.binds md e = true → e.on ∈ R → L e.on = true) →
  wpOp P ops Q r (fun a' w' => S w' ∧ ∃ f', a' = a0r A ds f' ∧ G (updB L r) f' w') (a0r A ds f) w
def a0v (P : Program) (md : Region.Mode) (ops : Array Oper) (Q : Exit → Act → World → Prop) (S : World → Prop) (A : Act) (ds R : List Nat) (G : (Nat → Bool) → (Nat → Value) → World → Prop) (R' : List Nat) : Prop :=
 ∀ r ∈ R', StepG P md ops Q S A ds R G r
theorem a0v.nil {A : Act} {ds R : List Nat} {G : (Nat → Bool) → (Nat → Value) → World → Prop} : a0v P md ops Q S A ds R G [] := fun _ h => by cases h
theorem a0v.cons {A : Act} {ds R : List Nat} {G : (Nat → Bool) → (Nat → Value) → World → Prop} {r d : Nat} {R' : List Nat} {o : Oper} (ho : ops[r]? = some o) (hd : o.dst = some d) (hm : d ∈ ds)
 (h : ∀ (L : Nat → Bool) f w, G L f w → S w → L r = false → (∀ e ∈ o.after, Region.binds md e = true → e.on ∈ R → L e.on = true) →
  ∀ K' : Act → World → Prop, Shut (∀ v w', S w' → G (updB L r) (updF f d v) w' → K' ((a0r A ds f).put (some d) v) w') →
   if Region.wanted o (yielded ops (a0r A ds f).tmps) = true then Oper.wp P o (a0r A ds f) w K' Q else K' ((a0r A ds f).put o.dst undef) w)
 (hs : a0v P md ops Q S A ds R G R') : a0v P md ops Q S A ds R G (r :: R') := fun j hj => by
 rcases List.mem_cons.1 hj with rfl | hj
 ·intro o' ho' L f w hG hS hL hdep
  rw [ho] at ho'; injection ho' with ho'; subst ho'
  exact wpOp_step ho (fun K' hK => h L f w hG hS hL hdep K' (fun v w' hS' hG' => hK _ _ ⟨hS', updF f d v, m0l hm v, hG'⟩))
 ·exact hs j hj
theorem a0v.cons0 {A : Act} {ds R : List Nat} {G : (Nat → Bool) → (Nat → Value) → World → Prop} {r : Nat} {R' : List Nat} {o : Oper} (ho : ops[r]? = some o) (hd : o.dst = none)
 (h : ∀ (L : Nat → Bool) f w, G L f w → S w → L r = false → (∀ e ∈ o.after, Region.binds md e = true → e.on ∈ R → L e.on = true) →
  ∀ K' : Act → World → Prop, Shut (∀ w', S w' → G (updB L r) f w' → K' (a0r A ds f) w') →
   if Region.wanted o (yielded ops (a0r A ds f).tmps) = true then Oper.wp P o (a0r A ds f) w K' Q else K' ((a0r A ds f).put o.dst undef) w)
 (hs : a0v P md ops Q S A ds R G R') : a0v P md ops Q S A ds R G (r :: R') := fun j hj => by
 rcases List.mem_cons.1 hj with rfl | hj
 ·intro o' ho' L f w hG hS hL hdep
  rw [ho] at ho'; injection ho' with ho'; subst ho'
  exact wpOp_step ho (fun K' hK => h L f w hG hS hL hdep K' (fun w' hS' hG' => hK _ _ ⟨hS', f, rfl, hG'⟩))
 ·exact hs j hj
theorem b0a {A : Act} {w : World} {fuel : Nat} {L0 : Array Bool} (ds R : List Nat) (G : (Nat → Bool) → (Nat → Value) → World → Prop)
 (hb : q0t md ops = true) (hR : ((List.range ops.size).all fun j => L0.getD j true || R.contains j) = true) (hsz : L0.size = ops.size) (hR2 : (R.all fun j => !L0.getD j true) = true) (hf : unl L0 ≤ fuel) (hS : S w)
 (h0 : ∀ (L : Nat → Bool) f, (∀ r ∈ R, L r = false) → G L f w)
 (hs : a0v P md ops Q S A ds R G R)
 (hdone : ∀ f w, G (fun _ => true) f w → S w → Q .normal (a0r A ds f) w) : wpAnyH P md ops Q S fuel L0 A w := by
 refine o0d (fun L a w => S w ∧ L.size = ops.size ∧ (∀ j, j ∉ R → L.getD j true = true) ∧ ∃ f, a = a0r A ds f ∧ G (fun j => L.getD j true) f w) hb ?_ ?_ fuel L0 A w hf ?_
 ·rintro L a w i o ho ⟨hSw, hsz, hL, f, rfl, hG⟩ hun hdep
  have hi : i ∈ R := Classical.byContradiction fun h => by rw [hL i h] at hun; cases hun
  refine wpOp_mono ?_ (hs i hi o ho _ f w hG hSw hun (fun e he hbd hr => ?_))
  ·rintro a' w' ⟨hS', f', rfl, hG'⟩
   refine ⟨hS', hS', by simpa using hsz, fun j hj => ?_, f', rfl, ?_⟩
   ·have hne : i ≠ j := fun e => hj (e ▸ hi)
    rw [getD_set_ne true hne]; exact hL j hj
   ·have hilt : i < L.size := by
     rcases Nat.lt_or_ge i L.size with h' | h'
     ·exact h'
     ·simp [Array.getElem?_eq_none h'] at hun
    have e : (fun j => (L.setIfInBounds i true).getD j true) = updB (fun j => L.getD j true) i := by
     funext j
     unfold updB
     by_cases hj : j = i
     ·subst hj; rw [if_pos rfl]; simp [hilt]
     ·rw [if_neg hj, getD_set_ne true (Ne.symm hj)]
    rw [e]; exact hG'
  ·have h1 := hdep e he hbd
   have : e.on < L.size := by
    rcases Nat.lt_or_ge e.on L.size with h' | h'
    ·exact h'
    ·simp [Array.getElem?_eq_none h'] at h1
   simp [this] at h1 ⊢; exact h1
 ·rintro L a w ⟨hSw, hsz, hL, f, rfl, hG⟩ hall
  refine hdone f w ?_ hSw
  have e : (fun j => L.getD j true) = fun _ => true := by
   funext j
   by_cases hj : j < ops.size
   ·exact hall j hj
   ·simp [Array.getElem?_eq_none (show L.size ≤ j by omega)]
  rw [e] at hG; exact hG
 ·refine ⟨hS, hsz, fun j hj => ?_, _, (p0f A ds).symm, h0 _ _ (fun r hr => ?_)⟩
  ·by_cases hlt : j < ops.size
   ·have := List.all_eq_true.1 hR j (List.mem_range.2 hlt)
    rw [Bool.or_eq_true] at this
    rcases this with h | h
    ·exact h
    ·exact absurd (by simpa using h) hj
   ·simp [Array.getElem?_eq_none (show L0.size ≤ j by omega)]
  ·have := List.all_eq_true.1 hR2 r hr
   simpa using this
end
end Go.Proofs.Ytmggbljkehclpaa
