/- RF -/
import Derived.Test.YtmggbljkehclpaaG06
import Derived.Test.YtmggbljkehclpaaG18
set_option linter.unusedVariables false
set_option linter.unusedSimpArgs false
namespace Go.Proofs.Ytmggbljkehclpaa
open Go.RowKit
theorem o06 (A : Act) (ds : List Nat) (f : Nat → Value) (d : Nat) (hd : Nat.blt d A.tmps.size = true) : (a0r A ds f).eval (.tmp d) = tvOf A ds f d :=
 p0i A ds f d (by rw [Nat.blt_eq] at hd; exact hd)
theorem ent_fn {P : Program} {f : FuncId} {fn : Func} {c : Code} (hf : P.funcs[f]? = some fn) (hname : (fn.name == "runtime.NumGoroutine") = false) (hb : fn.body = some c) (args : Array Value) (w : World) :
 (callFunc f args).run P w = .ok (.enter f args) w := by
 have h1 : fn.name ≠ "runtime.NumGoroutine" := by simpa using hname
 simp [callFunc, hf, h1, hb]
theorem o0c {P : Program} {w : World} {o : Oper} {a : Act} {K : Act → World → Prop} {Q : Exit → Act → World → Prop} {F : FuncId} {args : List Operand} {ts : Array TypeId}
 (ho : o.op = .call { callee := .value (.func F), args := args.toArray, argTypes := ts }) (hent : ∀ (xs : Array Value) (w : World), (callFunc F xs).run P w = .ok (.enter F xs) w) (vals : List Value) (hv : args.map a.eval = vals) {C : Ending → World → Prop} (hc : Calls P F vals.toArray w C)
 (h : ∀ e w', C e w' → ∃ v, e = .returned v ∧ K (a.put o.dst v) w') : Oper.wp P o a w K Q := by
 unfold Oper.wp execOp
 simp only [ho, resolve, Act.eval, Deferred.ofValue, invoke, Sem.run_bind, Sem.run_pure, Result.andThen_ok, List.map_toArray, hv]
 rw [hent, Oper.upon_enter]
 have e : #[] ++ vals.toArray ++ #[] = vals.toArray := by simp
 rw [e]
 refine hc.mono (fun e w' hC => ?_)
 obtain ⟨v, rfl, hk⟩ := h e w' hC
 exact hk
section
variable {P : Program} {ops : Array Oper} {Q : Exit → Act → World → Prop} {w0 : World} {pcs : List (Pc × Rs w0)} {A : Act} {ds : List Nat} {ins : List Nat} {r d : Nat} {o : Oper}
theorem f0z.b0s {f f' : Nat → Value} {W W' : World} {q : Pc × Rs w0} (k : a02 (fun _ => False) W W') (hq : j0x pcs r = some q) (hH : q.2.H W' (tvOf A ds f' q.1.d)) (hF : ∀ i, q.2.Fp W' (tvOf A ds f' q.1.d) i → W.heap.size ≤ i) : f0z pcs A ds ins r f f' W W' :=
 ⟨k.mono (fun _ e => e.elim), fun q' hq' => by rw [hq] at hq'; injection hq' with hq'; subst hq'; exact ⟨hH, fun i e => .inr (hF i e)⟩⟩
theorem noIni (h : pcs.all (fun q => q.1.op.isSome) = true) : ∀ (k : Nat) q, pcs[k]? = some q → q.1.op = none → False := fun k q hq ho => by
 have := List.all_eq_true.1 h q (List.mem_of_getElem? hq)
 rw [ho] at this; cases this
theorem ini0 {w : World} (h : pcs.all (fun q => q.1.op.isSome) = true) : ∀ (k : Nat) q, pcs[k]? = some q → q.1.op = none → q.2.H w (A.tmps.getD q.1.d undef) := fun k q hq ho => (noIni h k q hq ho).elim
theorem p03 {w : World} (h : pcs.all (fun q => q.1.op.isSome) = true) : ∀ (k k' : Nat) q q', k < k' → pcs[k]? = some q → pcs[k']? = some q' → q.1.op = none → q'.1.op = none → ∀ i, q.2.Fp w (A.tmps.getD q.1.d undef) i → q'.2.Fp w (A.tmps.getD q'.1.d undef) i → False := fun k _ q _ _ hq _ ho _ => (noIni h k q hq ho).elim
theorem iniC {w : World} {x : Pc × Rs w0} (H : x.2.H w (A.tmps.getD x.1.d undef)) (h : ∀ (k : Nat) q, pcs[k]? = some q → q.1.op = none → q.2.H w (A.tmps.getD q.1.d undef)) : ∀ (k : Nat) q, (x :: pcs)[k]? = some q → q.1.op = none → q.2.H w (A.tmps.getD q.1.d undef)
 | 0, q, hq, _ => by rw [List.getElem?_cons_zero] at hq; injection hq with hq; subst hq; exact H
 | k + 1, q, hq, ho => h k q (by simpa using hq) ho
theorem n0e {w : World} {x : Pc × Rs w0} (H : ∀ (k : Nat) q, pcs[k]? = some q → q.1.op = none → ∀ i, x.2.Fp w (A.tmps.getD x.1.d undef) i → q.2.Fp w (A.tmps.getD q.1.d undef) i → False)
 (h : ∀ (k k' : Nat) q q', k < k' → pcs[k]? = some q → pcs[k']? = some q' → q.1.op = none → q'.1.op = none → ∀ i, q.2.Fp w (A.tmps.getD q.1.d undef) i → q'.2.Fp w (A.tmps.getD q'.1.d undef) i → False) :
 ∀ (k k' : Nat) q q', k < k' → (x :: pcs)[k]? = some q → (x :: pcs)[k']? = some q' → q.1.op = none → q'.1.op = none → ∀ i, q.2.Fp w (A.tmps.getD q.1.d undef) i → q'.2.Fp w (A.tmps.getD q'.1.d undef) i → False
 | k, 0, _, _, hlt, _, _, _, _ => by omega
 | 0, k' + 1, q, q', _, hq, hq', _, ho' => by rw [List.getElem?_cons_zero] at hq; injection hq with hq; subst hq; exact H k' q' (by simpa using hq') ho'
 | k + 1, k' + 1, q, q', hlt, hq, hq', ho, ho' => h k k' q q' (by omega) (by simpa using hq) (by simpa using hq') ho ho'
theorem sepC {w : World} {x y : Pc × Rs w0} (H : ∀ i, x.2.Fp w (A.tmps.getD x.1.d undef) i → y.2.Fp w (A.tmps.getD y.1.d undef) i → False) (h : ∀ (k : Nat) q, pcs[k]? = some q → q.1.op = none → ∀ i, x.2.Fp w (A.tmps.getD x.1.d undef) i → q.2.Fp w (A.tmps.getD q.1.d undef) i → False) :
 ∀ (k : Nat) q, (y :: pcs)[k]? = some q → q.1.op = none → ∀ i, x.2.Fp w (A.tmps.getD x.1.d undef) i → q.2.Fp w (A.tmps.getD q.1.d undef) i → False
 | 0, q, hq, _ => by rw [List.getElem?_cons_zero] at hq; injection hq with hq; subst hq; exact H
 | k + 1, q, hq, ho => h k q (by simpa using hq) ho
theorem sepN {w : World} {x : Pc × Rs w0} (h : pcs.all (fun q => q.1.op.isSome) = true) : ∀ (k : Nat) q, pcs[k]? = some q → q.1.op = none → ∀ i, x.2.Fp w (A.tmps.getD x.1.d undef) i → q.2.Fp w (A.tmps.getD q.1.d undef) i → False := fun k q hq ho => (noIni h k q hq ho).elim
theorem st_newB {F : FuncId} {args : List Operand} {ts : Array TypeId} (ho : o.op = .call { callee := .value (.func F), args := args.toArray, argTypes := ts }) (hent : ∀ (xs : Array Value) (w : World), (callFunc F xs).run P w = .ok (.enter F xs) w) (hd : o.dst = some d) (hm : d ∈ ds)
 (vals : List Value) (hv : ∀ f, args.map (a0r A ds f).eval = vals) (l : List UInt8) (cc : Option Nat) (hq : j0x pcs r = some (⟨some r, cc, d⟩, rsB w0 l))
 (hc : ∀ W, a02 (fun _ => False) w0 W → Calls P F vals.toArray W (h0x l W)) :
 ∀ f W, a02 (fun _ => False) w0 W → hasR pcs A ds ins f W → ∀ K' : Act → World → Prop, Shut (∀ v W', f0z pcs A ds ins r f (updF f d v) W W' → K' ((a0r A ds f).put (some d) v) W') → Oper.wp P o (a0r A ds f) W K' Q := by
 intro f W hS _ K hK
 refine o0c ho hent vals (hv f) (hc W hS) ?_
 rintro e W' ⟨p, c, rfl, hO, k⟩
 refine ⟨_, rfl, ?_⟩
 rw [hd]
 refine hK.out _ _ (f0z.b0s k hq ?_ ?_)
 ·show OwnB w0 W' (tvOf A ds (updF f d _) d) l
  rw [e0p A f _ hm]; exact hO.older hS.size
 ·intro i e
  have e : (tvOf A ds (updF f d _) d).ownBlock = some i := e
  rw [e0p A f _ hm] at e
  exact hO.2.1 i e
theorem f03 {a b : Nat} {t : TypeId} (ho : o.op = .call { callee := .builtin .append, args := #[.tmp a, .tmp b], argTypes := #[t, t] }) (hd : o.dst = some d) (hm : d ∈ ds)
 (i : TypeInfo) (ht : P.underlying t = some (.slice 5)) (hi : P.info? 5 = some i) (hz : i.zero = some (.int .u8 0)) (hsize : i.size = 1) (hby : i.bytes = 1)
 (ha : Nat.blt a A.tmps.size = true) (hb : Nat.blt b A.tmps.size = true)
 (ka kb : Nat) (oa ob cb cc : Option Nat) (xa xb z : List UInt8) (hka : pcs[ka]? = some (⟨oa, some r, a⟩, rsB w0 xa)) (hkb : pcs[kb]? = some (⟨ob, cb, b⟩, rsB w0 xb)) (hia : ka ∈ ins) (hib : kb ∈ ins)
 (hq : j0x pcs r = some (⟨some r, cc, d⟩, rsB w0 z)) (hzz : xa ++ xb = z) (hsz : z.length ≤ 70368744177664) :
 ∀ f W, a02 (fun _ => False) w0 W → hasR pcs A ds ins f W → ∀ K' : Act → World → Prop, Shut (∀ v W', f0z pcs A ds ins r f (updF f d v) W W' → K' ((a0r A ds f).put (some d) v) W') → Oper.wp P o (a0r A ds f) W K' Q := by
 intro f W hS hin K hK
 have h1 : OwnB w0 W (tvOf A ds f a) xa := hin ka hia _ hka
 have h2 : OwnB w0 W (tvOf A ds f b) xb := hin kb hib _ hkb
 refine a0m (.tmp a) (.tmp b) t ho i ht hi hz hsize hby w0 _ xa (o06 A ds f a ha) h1 _ (o06 A ds f b hb) xb h2.bytes (by rw [← hzz, List.length_append] at hsz; exact hsz) ?_
 intro p c W' hO hg
 rw [hd]
 refine hK.out _ _ ⟨hg.k.mono (fun i e => .inl ⟨ka, hia, _, hka, rfl, e⟩), fun q hq' => ?_⟩
 rw [hq] at hq'; injection hq' with hq'; subst hq'
 refine ⟨?_, fun i e => ?_⟩
 ·show OwnB w0 W' (tvOf A ds (updF f d _) d) z
  rw [e0p A f _ hm, ← hzz]; exact hO
 ·have e : (tvOf A ds (updF f d _) d).ownBlock = some i := e
  rw [e0p A f _ hm] at e
  rcases hg.s i e with e | e
  ·exact .inl ⟨ka, hia, _, hka, rfl, e⟩
  ·exact .inr e
theorem k03 {a : Nat} (ho : o.op = .assign (.tmp a)) (hd : o.dst = some d) (hm : d ∈ ds) (ha : Nat.blt a A.tmps.size = true) (ka : Nat) (oa cc : Option Nat) (ρ : Rs w0)
 (hka : pcs[ka]? = some (⟨oa, some r, a⟩, ρ)) (hia : ka ∈ ins) (hq : j0x pcs r = some (⟨some r, cc, d⟩, ρ)) :
 ∀ f W, a02 (fun _ => False) w0 W → hasR pcs A ds ins f W → ∀ K' : Act → World → Prop, Shut (∀ v W', f0z pcs A ds ins r f (updF f d v) W W' → K' ((a0r A ds f).put (some d) v) W') → Oper.wp P o (a0r A ds f) W K' Q := by
 intro f W hS hin K hK
 have h1 : ρ.H W (tvOf A ds f a) := hin ka hia _ hka
 have e : (execOp (a0r A ds f).eval o).run P W = .ok (.value (tvOf A ds f a)) W := by
  unfold execOp
  simp only [ho, o06 A ds f a ha, Sem.run_pure]
 unfold Oper.wp
 rw [e, Oper.upon_value, hd]
 refine hK.out _ _ ⟨(a02.refl (fun _ => False) W).mono (fun _ e => e.elim), fun q hq' => ?_⟩
 rw [hq] at hq'; injection hq' with hq'; subst hq'
 refine ⟨?_, fun i e => ?_⟩
 ·show ρ.H W (tvOf A ds (updF f d _) d)
  rw [e0p A f _ hm]; exact h1
 ·have e : ρ.Fp W (tvOf A ds (updF f d _) d) i := e
  rw [e0p A f _ hm] at e
  exact .inl ⟨ka, hia, _, hka, rfl, e⟩
theorem OwnB.buf {w0 w : World} {g n : Nat} {x : List UInt8} (h : f0b w g x) (hn : x.length = n) (hm : n ≤ 1000000) (hg : w0.heap.size ≤ g) : OwnB w0 w (.slice (some ⟨g, 0, none⟩) n n) x := by
 subst hn
 refine ⟨⟨by simp, .inr ⟨g, x.length, (x.map bv).toArray, rfl, Nat.zero_le _, h, Nat.le_refl _, by unfold maxLen; omega, by simp, ?_⟩⟩, fun k e => by simp only [Value.ownBlock, Option.some.injEq] at e; omega, by have := h.lt; omega⟩
 rw [List.take_of_length_le (by simp)]
theorem n0r {t : TypeId} {n : Nat} {parts : Array (Nat × Operand)} (_ : o.op = .buildSlice t n parts) (hd : o.dst = some d) (hm : d ∈ ds) (l : List UInt8) (hl : l.length = n) (hn : n ≤ 1000) (cc : Option Nat)
 (hq : j0x pcs r = some (⟨some r, cc, d⟩, rsB w0 l))
 (hrun : ∀ f W, (execOp (a0r A ds f).eval o).run P W = .ok (.value (.slice (some ⟨W.heap.size, 0, none⟩) n n)) (W.alloc (.cells (l.map bv).toArray 5))) :
 ∀ f W, a02 (fun _ => False) w0 W → hasR pcs A ds ins f W → ∀ K' : Act → World → Prop, Shut (∀ v W', f0z pcs A ds ins r f (updF f d v) W W' → K' ((a0r A ds f).put (some d) v) W') → Oper.wp P o (a0r A ds f) W K' Q := by
 intro f W hS _ K hK
 unfold Oper.wp
 rw [hrun f W, Oper.upon_value, hd]
 have hO := OwnB.new w0 W hS.size l hl (by unfold maxLen; omega)
 refine hK.out _ _ (f0z.b0s ((a02.refl _ _).alloc _) hq ?_ ?_)
 ·show OwnB w0 _ (tvOf A ds (updF f d _) d) l
  rw [e0p A f _ hm]; exact hO
 ·intro i e
  have e : (tvOf A ds (updF f d _) d).ownBlock = some i := e
  rw [e0p A f _ hm] at e
  simp only [Value.ownBlock, Option.some.injEq] at e
  omega
end
end Go.Proofs.Ytmggbljkehclpaa
