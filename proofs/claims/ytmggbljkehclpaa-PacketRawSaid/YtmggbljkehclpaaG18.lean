/- RE -/
import Derived.Test.YtmggbljkehclpaaG03
import Derived.Test.YtmggbljkehclpaaG04
set_option linter.unusedVariables false
set_option linter.unusedSimpArgs false
namespace Go.Proofs.Ytmggbljkehclpaa
open Go.RowKit
structure Pc where
 op : Option Nat
 cons : Option Nat
 d : Nat
def Pc.alive (s : Pc) (L : Nat → Bool) : Bool := (s.op.map L).getD true && (s.cons.map fun r => !L r).getD true
structure Rs (w0 : World) where
 H : World → Value → Prop
 Fp : World → Value → Nat → Prop
 keep : ∀ {F : Nat → Prop} {w w' : World} {v : Value}, H w v → a02 F w w' → (∀ i, Fp w v i → ¬ F i) → H w' v
 keepF : ∀ {F : Nat → Prop} {w w' : World} {v : Value}, H w v → a02 F w w' → (∀ i, Fp w v i → ¬ F i) → ∀ i, Fp w' v i → Fp w v i
 lt : ∀ {w : World} {v : Value} {i : Nat}, H w v → Fp w v i → i < w.heap.size
 ge : ∀ {w : World} {v : Value} {i : Nat}, H w v → Fp w v i → w0.heap.size ≤ i
def tvOf (A : Act) (ds : List Nat) (f : Nat → Value) (d : Nat) : Value := cond (ds.contains d) (f d) (A.tmps.getD d undef)
theorem tvOf_upd (A : Act) {ds : List Nat} (f : Nat → Value) {d : Nat} (v : Value) {e : Nat} (h : e ≠ d) : tvOf A ds (updF f d v) e = tvOf A ds f e := by
 unfold tvOf updF
 rw [if_neg h]
theorem e0p (A : Act) {ds : List Nat} (f : Nat → Value) {d : Nat} (v : Value) (h : d ∈ ds) : tvOf A ds (updF f d v) d = v := by
 unfold tvOf updF; rw [List.contains_iff_mem.2 h, if_pos rfl]; rfl
theorem p0i (A : Act) (ds : List Nat) (f : Nat → Value) (d : Nat) (hd : d < A.tmps.size) : (a0r A ds f).tmps.getD d undef = tvOf A ds f d := by
 have := h0w ds f A d
 unfold tvOf
 by_cases h : d ∈ ds
 ·rw [if_pos ⟨h, hd⟩] at this
  rw [List.contains_iff_mem.2 h, Array.getD_eq_getD_getElem?, this]; rfl
 ·rw [if_neg (fun x => h x.1)] at this
  have hc : ds.contains d = false := by simpa using h
  rw [hc, Array.getD_eq_getD_getElem?, this, ← Array.getD_eq_getD_getElem?]; rfl
def k0j (md : Region.Mode) (ops : Array Oper) (r i : Nat) : Bool := ((ops[r]?).map fun o => o.after.any fun e => Region.binds md e && e.on == i).getD false
def ckOp (md : Region.Mode) (ops : Array Oper) (ss : List Pc) (R : List Nat) (ins : Nat → List Nat) (r : Nat) : Bool :=
 ((ops[r]?).map fun o => o.guard.isNone && ss.all (fun s => s.op == some r || o.dst != some s.d)).getD false &&
 (ss.filter (fun s => s.op == some r)).length ≤ 1 &&
 (ins r).all (fun k => ((ss[k]?).map fun s => (match s.op with | none => true | some i => k0j md ops r i && R.contains i) && (match s.cons with | none => true | some c => c == r || (R.contains c && k0j md ops c r))).getD false)
def ckR (md : Region.Mode) (ops : Array Oper) (ss : List Pc) (ds R : List Nat) (ins : Nat → List Nat) : Bool :=
 R.all (ckOp md ops ss R ins) && ss.all (fun s => (match s.op with | none => !ds.contains s.d | some i => R.contains i) && (match s.cons with | none => true | some c => R.contains c && (ins c).any (fun k => ((ss[k]?).map fun t => t.d == s.d && t.op == s.op && t.cons == s.cons).getD false)))
section
variable {P : Program} {ops : Array Oper} {Q : Exit → Act → World → Prop} {md : Region.Mode} {w0 : World}
def p0l (pcs : List (Pc × Rs w0)) (A : Act) (ds : List Nat) (ins : List Nat) (r : Nat) (f : Nat → Value) (W : World) (i : Nat) : Prop :=
 ∃ k ∈ ins, ∃ q, pcs[k]? = some q ∧ q.1.cons = some r ∧ q.2.Fp W (tvOf A ds f q.1.d) i
structure GR (md : Region.Mode) (ops : Array Oper) (pcs : List (Pc × Rs w0)) (A : Act) (ds R : List Nat) (L : Nat → Bool) (f : Nat → Value) (W : World) : Prop where
 h : ∀ (k : Nat) q, pcs[k]? = some q → q.1.alive L = true → q.2.H W (tvOf A ds f q.1.d)
 sep : ∀ (k k' : Nat) q q', k ≠ k' → pcs[k]? = some q → pcs[k']? = some q' → q.1.alive L = true → q'.1.alive L = true → ∀ i, q.2.Fp W (tvOf A ds f q.1.d) i → q'.2.Fp W (tvOf A ds f q'.1.d) i → False
 cl : ∀ r, r ∈ R → ∀ i, i ∈ R → L r = true → k0j md ops r i = true → L i = true
def j0x (pcs : List (Pc × Rs w0)) (r : Nat) : Option (Pc × Rs w0) := pcs.find? (fun q => q.1.op == some r)
def f0z (pcs : List (Pc × Rs w0)) (A : Act) (ds ins : List Nat) (r : Nat) (f f' : Nat → Value) (W W' : World) : Prop :=
 a02 (p0l pcs A ds ins r f W) W W' ∧ ∀ q, j0x pcs r = some q → q.2.H W' (tvOf A ds f' q.1.d) ∧ ∀ i, q.2.Fp W' (tvOf A ds f' q.1.d) i → p0l pcs A ds ins r f W i ∨ W.heap.size ≤ i
def hasR (pcs : List (Pc × Rs w0)) (A : Act) (ds ins : List Nat) (f : Nat → Value) (W : World) : Prop := ∀ k ∈ ins, ∀ q, pcs[k]? = some q → q.2.H W (tvOf A ds f q.1.d)
def RSt (P : Program) (ops : Array Oper) (Q : Exit → Act → World → Prop) (pcs : List (Pc × Rs w0)) (A : Act) (ds : List Nat) (ins : Nat → List Nat) (r : Nat) : Prop :=
 ∃ o, ops[r]? = some o ∧
  ((∃ d, o.dst = some d ∧ d ∈ ds ∧ ∀ f W, a02 (fun _ => False) w0 W → hasR pcs A ds (ins r) f W → ∀ K' : Act → World → Prop, Shut (∀ v W', f0z pcs A ds (ins r) r f (updF f d v) W W' → K' ((a0r A ds f).put (some d) v) W') → Oper.wp P o (a0r A ds f) W K' Q) ∨
   (o.dst = none ∧ ∀ f W, a02 (fun _ => False) w0 W → hasR pcs A ds (ins r) f W → ∀ K' : Act → World → Prop, Shut (∀ W', f0z pcs A ds (ins r) r f f W W' → K' (a0r A ds f) W') → Oper.wp P o (a0r A ds f) W K' Q))
def RSts (P : Program) (ops : Array Oper) (Q : Exit → Act → World → Prop) (pcs : List (Pc × Rs w0)) (A : Act) (ds : List Nat) (ins : Nat → List Nat) (R : List Nat) : Prop := ∀ r ∈ R, RSt P ops Q pcs A ds ins r
theorem RSts.nil {pcs : List (Pc × Rs w0)} {A : Act} {ds : List Nat} {ins : Nat → List Nat} : RSts P ops Q pcs A ds ins [] := fun _ h => by cases h
theorem RSts.cons {pcs : List (Pc × Rs w0)} {A : Act} {ds : List Nat} {ins : Nat → List Nat} {r d : Nat} {R : List Nat} {o : Oper} (ho : ops[r]? = some o) (hd : o.dst = some d) (hm : d ∈ ds)
 (h : ∀ f W, a02 (fun _ => False) w0 W → hasR pcs A ds (ins r) f W → ∀ K' : Act → World → Prop, Shut (∀ v W', f0z pcs A ds (ins r) r f (updF f d v) W W' → K' ((a0r A ds f).put (some d) v) W') → Oper.wp P o (a0r A ds f) W K' Q)
 (hs : RSts P ops Q pcs A ds ins R) : RSts P ops Q pcs A ds ins (r :: R) := fun j hj => by
 rcases List.mem_cons.1 hj with rfl | hj
 ·exact ⟨o, ho, .inl ⟨d, hd, hm, h⟩⟩
 ·exact hs j hj
theorem g0k {s : Pc} {L : Nat → Bool} {r : Nat} (h : s.alive (updB L r) = true) (ho : s.op ≠ some r) : s.alive L = true ∧ s.cons ≠ some r := by
 unfold Pc.alive updB at *
 cases hop : s.op with
 | none =>
  cases hc : s.cons with
  | none => simp
  | some c =>
   rw [hop, hc] at h
   by_cases e : c = r
   ·subst e; simp at h
   ·simp [e] at h; simp [h, e]
 | some i =>
  have hi : i ≠ r := fun e => ho (by rw [hop, e])
  cases hc : s.cons with
  | none => rw [hop, hc] at h; simp [hi] at h; simp [h]
  | some c =>
   rw [hop, hc] at h
   by_cases e : c = r
   ·subst e; simp at h
   ·simp [e, hi] at h; simp [h, e]
theorem m0a {α : Type} (p : α → Bool) : ∀ (l : List α) (k : Nat) (q : α), (∀ (k k' : Nat) (q q' : α), k < k' → l[k]? = some q → l[k']? = some q' → p q = true → p q' = true → False) → l[k]? = some q → p q = true → l.find? p = some q
 | [], k, q, _, h, _ => by simp at h
 | x :: l, k, q, hu, h, hp => by
  rw [List.find?_cons]
  cases k with
  | zero => rw [List.getElem?_cons_zero] at h; injection h with h; subst h; rw [hp]
  | succ k =>
   rw [List.getElem?_cons_succ] at h
   cases hx : p x with
   | true => exact (hu 0 (k + 1) x q (by omega) rfl (by simpa using h) hx hp).elim
   | false =>
    exact m0a p l k q (fun a b c d hab h1 h2 => hu (a + 1) (b + 1) c d (by omega) (by simpa using h1) (by simpa using h2)) h hp
theorem GR.step {pcs : List (Pc × Rs w0)} {A : Act} {ds R : List Nat} {ins : Nat → List Nat} (hck : ckR md ops (pcs.map (·.1)) ds R ins = true) {r : Nat} (hr : r ∈ R) {o : Oper} (ho : ops[r]? = some o) {L : Nat → Bool} {f f' : Nat → Value} {W W' : World}
 (hG : GR md ops pcs A ds R L f W) (hL : L r = false) (hdep : ∀ e ∈ o.after, Region.binds md e = true → e.on ∈ R → L e.on = true)
 (hf : ∀ e, o.dst ≠ some e → tvOf A ds f' e = tvOf A ds f e) (hout : f0z pcs A ds (ins r) r f f' W W') : GR md ops pcs A ds R (updB L r) f' W' := by
 unfold ckR at hck
 rw [Bool.and_eq_true] at hck
 obtain ⟨hck1, -⟩ := hck
 have hc := List.all_eq_true.1 hck1 r hr
 unfold ckOp at hc
 rw [Bool.and_eq_true, Bool.and_eq_true, ho] at hc
 obtain ⟨⟨hc1, hc2⟩, hc3⟩ := hc
 simp only [Option.map_some, Option.getD_some, Bool.and_eq_true] at hc1
 have huniq : ∀ (k k' : Nat) (q q' : Pc × Rs w0), k < k' → pcs[k]? = some q → pcs[k']? = some q' → (q.1.op == some r) = true → (q'.1.op == some r) = true → False := by
  have h1 := hc2
  rw [decide_eq_true_eq] at h1
  have hcount : ∀ (l : List (Pc × Rs w0)) (k k' : Nat) (q q' : Pc × Rs w0), k < k' → l[k]? = some q → l[k']? = some q' → (q.1.op == some r) = true → (q'.1.op == some r) = true → 2 ≤ ((l.map (·.1)).filter (fun s => s.op == some r)).length := by
   intro l
   induction l with
   | nil => intro k k' q q' _ h; simp at h
   | cons x l ih =>
    intro k k' q q' hlt h h' e e'
    cases k' with
    | zero => omega
    | succ k' =>
     rw [List.getElem?_cons_succ] at h'
     rw [List.map_cons, List.filter_cons]
     cases k with
     | zero =>
      rw [List.getElem?_cons_zero] at h; injection h with h; subst h
      rw [if_pos e, List.length_cons]
      have : 0 < ((l.map (·.1)).filter (fun s => s.op == some r)).length := List.length_pos_of_mem (a := q'.1) (List.mem_filter.2 ⟨List.mem_of_getElem? (by rw [List.getElem?_map, h']; rfl), e'⟩)
      omega
     | succ k =>
      rw [List.getElem?_cons_succ] at h
      have := ih k k' q q' (by omega) h h' e e'
      split
      ·rw [List.length_cons]; omega
      ·exact this
  intro k k' q q' hlt h h' e e'
  have := hcount pcs k k' q q' hlt h h' e e'
  omega
 have hmade : ∀ (k : Nat) q, pcs[k]? = some q → q.1.op = some r → j0x pcs r = some q := fun k q hq hop => m0a _ pcs k q huniq hq (by simp [hop])
 have hslot : ∀ (k : Nat) q, pcs[k]? = some q → q.1.op ≠ some r → tvOf A ds f' q.1.d = tvOf A ds f q.1.d := fun k q hq hop => by
  apply hf
  have := List.all_eq_true.1 hc1.2 q.1 (List.mem_of_getElem? (by rw [List.getElem?_map, hq]; rfl))
  intro e
  simp [hop, e] at this
 have hLi : ∀ i, i ∈ R → k0j md ops r i = true → L i = true := fun i hi he => by
  unfold k0j at he
  rw [ho] at he
  simp only [Option.map_some, Option.getD_some, Array.any_eq_true'] at he
  obtain ⟨e, he1, he2⟩ := he
  simp only [Bool.and_eq_true, beq_iff_eq] at he2
  have := hdep e he1 he2.1 (by rw [he2.2]; exact hi)
  rw [he2.2] at this; exact this
 have hal : ∀ k ∈ ins r, ∀ q, pcs[k]? = some q → q.1.alive L = true := fun k hk q hq => by
  have := List.all_eq_true.1 hc3 k hk
  rw [List.getElem?_map, hq] at this
  simp only [Option.map_some, Option.getD_some, Bool.and_eq_true] at this
  obtain ⟨h1, h2⟩ := this
  unfold Pc.alive
  rw [Bool.and_eq_true]
  constructor
  ·cases hop : q.1.op with
   | none => rfl
   | some i =>
    rw [hop] at h1
    simp only [Bool.and_eq_true, List.contains_iff_mem] at h1
    exact hLi i h1.2 h1.1
  ·cases hco : q.1.cons with
   | none => rfl
   | some c =>
    rw [hco] at h2
    simp only [Bool.or_eq_true, beq_iff_eq, Bool.and_eq_true, List.contains_iff_mem] at h2
    rcases h2 with e | ⟨e1, e2⟩
    ·subst e; simp [hL]
    ·have : L c ≠ true := fun h => by have := hG.cl c e1 r hr h e2; rw [hL] at this; cases this
     simpa using this
 have hsepT : ∀ (k : Nat) q, pcs[k]? = some q → q.1.alive L = true → q.1.cons ≠ some r → ∀ i, q.2.Fp W (tvOf A ds f q.1.d) i → ¬ p0l pcs A ds (ins r) r f W i := by
  rintro k q hq ha hcn i hi ⟨k2, hk2, q2, hq2, hc2, hi2⟩
  have hne : k ≠ k2 := fun e => by subst e; rw [hq] at hq2; injection hq2 with hq2; exact hcn (by rw [hq2]; exact hc2)
  exact hG.sep k k2 q q2 hne hq hq2 ha (hal k2 hk2 q2 hq2) i hi hi2
 refine ⟨fun k q hq ha => ?_, fun k k' q q' hne hq hq' ha ha' i hi hi' => ?_, fun r' hr' i hi h1 h2 => ?_⟩
 ·by_cases hop : q.1.op = some r
  ·exact (hout.2 q (hmade k q hq hop)).1
  ·obtain ⟨ha2, hcn⟩ := g0k ha hop
   rw [hslot k q hq hop]
   exact q.2.keep (hG.h k q hq ha2) hout.1 (fun i hi => hsepT k q hq ha2 hcn i hi)
 ·by_cases hop : q.1.op = some r
  ·by_cases hop' : q'.1.op = some r
   ·exfalso
    rcases Nat.lt_or_gt_of_ne hne with h | h
    ·exact huniq k k' q q' h hq hq' (by simp [hop]) (by simp [hop'])
    ·exact huniq k' k q' q h hq' hq (by simp [hop']) (by simp [hop])
   ·obtain ⟨ha2, hcn⟩ := g0k ha' hop'
    rw [hslot k' q' hq' hop'] at hi'
    have hi' := q'.2.keepF (hG.h k' q' hq' ha2) hout.1 (fun i hi => hsepT k' q' hq' ha2 hcn i hi) i hi'
    rcases (hout.2 q (hmade k q hq hop)).2 i hi with h | h
    ·exact hsepT k' q' hq' ha2 hcn i hi' h
    ·have := q'.2.lt (hG.h k' q' hq' ha2) hi'; omega
  ·obtain ⟨ha1, hcn1⟩ := g0k ha hop
   rw [hslot k q hq hop] at hi
   have hi := q.2.keepF (hG.h k q hq ha1) hout.1 (fun i hi => hsepT k q hq ha1 hcn1 i hi) i hi
   by_cases hop' : q'.1.op = some r
   ·rcases (hout.2 q' (hmade k' q' hq' hop')).2 i hi' with h | h
    ·exact hsepT k q hq ha1 hcn1 i hi h
    ·have := q.2.lt (hG.h k q hq ha1) hi; omega
   ·obtain ⟨ha2, hcn⟩ := g0k ha' hop'
    rw [hslot k' q' hq' hop'] at hi'
    have hi' := q'.2.keepF (hG.h k' q' hq' ha2) hout.1 (fun i hi => hsepT k' q' hq' ha2 hcn i hi) i hi'
    exact hG.sep k k' q q' hne hq hq' ha1 ha2 i hi hi'
 ·unfold updB at h1 ⊢
  by_cases e : i = r
  ·rw [if_pos e]
  ·rw [if_neg e]
   by_cases e' : r' = r
   ·subst e'; exact hLi i hi h2
   ·rw [if_neg e'] at h1; exact hG.cl r' hr' i hi h1 h2
theorem f0z.keeps {pcs : List (Pc × Rs w0)} {A : Act} {ds ins : List Nat} {r : Nat} {f f' : Nat → Value} {W W' : World} (h : f0z pcs A ds ins r f f' W W') (hh : hasR pcs A ds ins f W) (hS : a02 (fun _ => False) w0 W) : a02 (fun _ => False) w0 W' :=
 hS.trans' h.1 (fun i ⟨k, hk, q, hq, _, hi⟩ => .inr (q.2.ge (hh k hk q hq) hi))
theorem e0c {A : Act} {w : World} {fuel : Nat} {L0 : Array Bool} (pcs : List (Pc × Rs w0)) (ds R : List Nat) (ins : Nat → List Nat)
 (hb : q0t md ops = true) (hR : ((List.range ops.size).all fun j => L0.getD j true || R.contains j) = true) (hsz : L0.size = ops.size) (hR2 : (R.all fun j => !L0.getD j true) = true) (hf : unl L0 ≤ fuel) (hS : a02 (fun _ => False) w0 w)
 (hck : ckR md ops (pcs.map (·.1)) ds R ins = true)
 (h0 : ∀ (k : Nat) q, pcs[k]? = some q → q.1.op = none → q.2.H w (A.tmps.getD q.1.d undef))
 (h0s : ∀ (k k' : Nat) q q', k < k' → pcs[k]? = some q → pcs[k']? = some q' → q.1.op = none → q'.1.op = none → ∀ i, q.2.Fp w (A.tmps.getD q.1.d undef) i → q'.2.Fp w (A.tmps.getD q'.1.d undef) i → False)
 (hs : RSts P ops Q pcs A ds ins R)
 (hdone : ∀ f w, a02 (fun _ => False) w0 w → (∀ (k : Nat) q, pcs[k]? = some q → q.1.cons = none → q.2.H w (tvOf A ds f q.1.d)) →
  (∀ (k k' : Nat) q q', k ≠ k' → pcs[k]? = some q → pcs[k']? = some q' → q.1.cons = none → q'.1.cons = none → ∀ i, q.2.Fp w (tvOf A ds f q.1.d) i → q'.2.Fp w (tvOf A ds f q'.1.d) i → False) → Q .normal (a0r A ds f) w) : wpAnyH P md ops Q (a02 (fun _ => False) w0) fuel L0 A w := by
 have hck' := hck
 unfold ckR at hck'
 rw [Bool.and_eq_true] at hck'
 have hpc : ∀ (k : Nat) q, pcs[k]? = some q → (q.1.op = none → q.1.d ∉ ds) ∧ (∀ i, q.1.op = some i → i ∈ R) ∧ (∀ c, q.1.cons = some c → c ∈ R) := fun k q hq => by
  have := List.all_eq_true.1 hck'.2 q.1 (List.mem_of_getElem? (by rw [List.getElem?_map, hq]; rfl))
  rw [Bool.and_eq_true] at this
  refine ⟨fun e => ?_, fun i e => ?_, fun c e => ?_⟩
  ·rw [e] at this; simpa using this.1
  ·rw [e] at this; simpa using this.1
  ·rw [e] at this
   have h2 := this.2
   simp only [Bool.and_eq_true, List.contains_iff_mem] at h2
   exact h2.1
 refine b0a ds R (fun L f W => GR md ops pcs A ds R L f W) hb hR hsz hR2 hf hS ?_ ?_ ?_
 ·intro L f hL
  have hold : ∀ (k : Nat) q, pcs[k]? = some q → q.1.alive L = true → q.1.op = none := fun k q hq ha => by
   cases hop : q.1.op with
   | none => rfl
   | some i =>
    unfold Pc.alive at ha
    rw [hop] at ha
    simp [hL i ((hpc k q hq).2.1 i hop)] at ha
  have hval : ∀ (k : Nat) q, pcs[k]? = some q → q.1.op = none → tvOf A ds f q.1.d = A.tmps.getD q.1.d undef := fun k q hq hop => by
   unfold tvOf
   rw [show ds.contains q.1.d = false by simpa using (hpc k q hq).1 hop]; rfl
  refine ⟨fun k q hq ha => ?_, fun k k' q q' hne hq hq' ha ha' i hi hi' => ?_, fun r hr i _ h => by rw [hL r hr] at h; cases h⟩
  ·rw [hval k q hq (hold k q hq ha)]; exact h0 k q hq (hold k q hq ha)
  ·rw [hval k q hq (hold k q hq ha)] at hi
   rw [hval k' q' hq' (hold k' q' hq' ha')] at hi'
   rcases Nat.lt_or_gt_of_ne hne with h | h
   ·exact h0s k k' q q' h hq hq' (hold k q hq ha) (hold k' q' hq' ha') i hi hi'
   ·exact h0s k' k q' q h hq' hq (hold k' q' hq' ha') (hold k q hq ha) i hi' hi
 ·intro r hr o ho L f W hG hS hL hdep
  obtain ⟨o', ho', h⟩ := hs r hr
  rw [ho] at ho'; injection ho' with ho'; subst ho'
  have hc := List.all_eq_true.1 hck'.1 r hr
  have hc0 := hc
  unfold ckOp at hc
  rw [Bool.and_eq_true, Bool.and_eq_true, ho] at hc
  have hg : Region.wanted o (yielded ops (a0r A ds f).tmps) = true := by
   have := hc.1.1
   simp only [Option.map_some, Option.getD_some, Bool.and_eq_true, Option.isNone_iff_eq_none] at this
   unfold Region.wanted; rw [this.1]
  have hhas : hasR pcs A ds (ins r) f W := fun k hk q hq => by
   refine hG.h k q hq ?_
   have := List.all_eq_true.1 hc.2 k hk
   rw [List.getElem?_map, hq] at this
   simp only [Option.map_some, Option.getD_some, Bool.and_eq_true] at this
   obtain ⟨h1, h2⟩ := this
   unfold Pc.alive
   rw [Bool.and_eq_true]
   constructor
   ·cases hop : q.1.op with
    | none => rfl
    | some i =>
     rw [hop] at h1
     simp only [Bool.and_eq_true, List.contains_iff_mem] at h1
     have he := h1.1
     unfold k0j at he
     rw [ho] at he
     simp only [Option.map_some, Option.getD_some, Array.any_eq_true'] at he
     obtain ⟨e, he1, he2⟩ := he
     simp only [Bool.and_eq_true, beq_iff_eq] at he2
     have := hdep e he1 he2.1 (by rw [he2.2]; exact h1.2)
     rw [he2.2] at this; exact this
   ·cases hco : q.1.cons with
    | none => rfl
    | some c =>
     rw [hco] at h2
     simp only [Bool.or_eq_true, beq_iff_eq, Bool.and_eq_true, List.contains_iff_mem] at h2
     rcases h2 with e | ⟨e1, e2⟩
     ·subst e; simp [hL]
     ·have : L c ≠ true := fun h => by have := hG.cl c e1 r hr h e2; rw [hL] at this; cases this
      simpa using this
  refine wpOp_step ho (fun K' hK => ?_)
  rw [if_pos hg]
  rcases h with ⟨d, hd, hm, h⟩ | ⟨hd, h⟩
  ·refine h f W hS hhas K' (fun v W' hout => hK _ _ ⟨hout.keeps hhas hS, updF f d v, m0l hm v, ?_⟩)
   exact GR.step hck hr ho hG hL hdep (fun e he => tvOf_upd A f v (fun x => he (by rw [hd, x]))) hout
  ·refine h f W hS hhas K' (fun W' hout => hK _ _ ⟨hout.keeps hhas hS, f, rfl, ?_⟩)
   exact GR.step hck hr ho hG hL hdep (fun e _ => rfl) hout
 ·intro f W hG hS
  have hal : ∀ (q : Pc × Rs w0), q.1.cons = none → q.1.alive (fun _ => true) = true := fun q h => by
   unfold Pc.alive; rw [h]; cases q.1.op <;> rfl
  exact hdone f W hS (fun k q hq h => hG.h k q hq (hal q h)) (fun k k' q q' hne hq hq' h h' => hG.sep k k' q q' hne hq hq' (hal q h) (hal q' h'))
end
def rsB (w0 : World) (x : List UInt8) : Rs w0 where
 H := fun w v => OwnB w0 w v x
 Fp := fun _ v i => v.ownBlock = some i
 keepF := fun _ _ _ _ e => e
 keep := fun h k hF => h.keep k hF
 lt := fun h e => by
  rcases h.1.2 with ⟨e1, -⟩ | ⟨g, cap, cur, e1, -, hg, -⟩
  ·rw [e1] at e; simp [Value.ownBlock] at e
  ·rw [e1] at e; simp only [Value.ownBlock, Option.some.injEq] at e; subst e; exact lt_of_block hg
 ge := fun h e => h.2.1 _ e
end Go.Proofs.Ytmggbljkehclpaa
