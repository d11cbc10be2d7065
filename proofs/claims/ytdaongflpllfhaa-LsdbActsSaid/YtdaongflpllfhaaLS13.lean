/- slices.SortedFunc(maps.Keys(m), order); a Db's keys. -/
import Derived.Test.YtdaongflpllfhaaLS12
import Derived.Test.YtdaongflpllfhaaLS11
import Derived.Test.YtdaongflpllfhaaLS01
import Derived.Deep.DeepCutAuto
set_option linter.unusedVariables false
set_option linter.unusedSimpArgs false
set_option linter.unusedVariables false
set_option linter.unusedSimpArgs false
namespace Go.Proofs.Ytdaongflpllfhaa
open Go.RowKit Go.Sort Go.Shelf

/-- a map's keys, rising -/
def Sorted3 (K : KMap) (S : List K3) : Prop := KeysOfM K S ∧ S.Pairwise ltK
theorem ltK_total {x y : K3} (h : x ≠ y) (hn : ¬ ltK y x) : ltK x y := by
  obtain ⟨t, i, a⟩ := x
  obtain ⟨t', i', a'⟩ := y
  unfold ltK at *
  simp only [ne_eq, Prod.mk.injEq, not_and] at *
  by_cases h1 : t = t'
  · by_cases h2 : i = i'
    · have := h h1 h2
      omega
    · omega
  · omega
theorem sorted_of {K : KMap} {ss S : List K3} (h : KeysOfM K ss) (hp : S.Perm ss) (hs : S.Pairwise (fun x y => ltOf cmpK y x = false)) : Sorted3 K S := by
  obtain ⟨h1, h2, h3⟩ := h
  have hn : S.Nodup := hp.nodup_iff.2 h1
  refine ⟨⟨hn, fun x hx => h2 x (hp.mem_iff.1 hx), fun t i a ho => by rw [hp.mem_iff]; exact h3 t i a ho⟩, ?_⟩
  refine (hs.and hn).imp (fun {x y} ⟨e, hne⟩ => ltK_total hne (fun hl => ?_))
  rw [(ltK_iff y x).2 hl] at e
  cases e
set_option maxRecDepth 100000 in
set_option maxHeartbeats 2000000 in
theorem sortedK_any (Bm b N n0 : Nat) (K : KMap) (hcnt : ∀ ss, KeysOfM K ss → ss.length ≤ 1000000) (hN : n0 ≤ 1000000) (w : World) (hm : w.cell? ⟨Bm, 0, none⟩ = some (.map (some b))) (hK : KAt w b N K n0) :
    Calls Try.prog 57 #[.func (.func 93) #[] #[.pointer (some ⟨Bm, 0, none⟩)], .func (.func 40) #[] #[]] w fun e w' => ∃ (v : Value) (S : List K3), e = .returned v ∧ Sorted3 K S ∧ OwnR 25 3 kV w w' v S ∧ Keeps (fun _ => False) w w' := by
  have hc := Lib.hid (collectK_any Bm b N n0 K hN w hm hK)
  clear hm
  go_enter Try.func57, Try.ntmps57
  go_wp2_with fail
  refine hc.out.mono ?_
  rintro e w1 ⟨v, ss, rfl, hS, hO, hb⟩
  have k1 : Hid (Keeps (fun _ => False) w w1) := Lib.hid ⟨hb.os, hb.tape, hb.output, hb.size, fun k hk _ => hb.block k hk⟩
  have hss : ss.length ≤ 1000000 := hcnt ss hS
  have hO' := Lib.hid hO
  have hS' := Lib.hid hS
  clear hc hb hO hS
  go_wp2_with fail
  refine (sortKeys_any v ss w w1 hO' hss).mono ?_
  rintro e w2 ⟨rfl, S, hp, hs, hO2, k2⟩
  have hK2 : Hid (Keeps (fun _ => False) w w2) := Lib.hid (k1.out.trans' k2 (fun i e => .inr (hO'.out.2.1 i e)))
  have hR := Lib.hid (sorted_of hS'.out hp hs)
  have hO2' := Lib.hid hO2
  clear hp hs k2 hO2
  go_wp2_with fail
  go_ret
  exact ⟨v, S, rfl, hR.out, hO2'.out, hK2.out⟩
end Go.Proofs.Ytdaongflpllfhaa
/- A Db's keys, in order. -/
set_option linter.unusedVariables false
set_option linter.unusedSimpArgs false
namespace Go.Proofs.Ytdaongflpllfhaa
open Go.RowKit

theorem ldKeys_nil (w : World) : Calls Try.prog 32 #[.pointer none] w fun e w' => e = .returned (.slice none 0 0) ∧ w = w' := by
  go_enter Try.func32, Try.ntmps32
  go_wp2_with fail
  go_ret
  exact ⟨rfl, rfl⟩
set_option maxRecDepth 100000 in
set_option maxHeartbeats 2000000 in
theorem ldKeys_any (bd b N n0 : Nat) (K : KMap) (hcnt : ∀ ss, KeysOfM K ss → ss.length ≤ 1000000) (hN : n0 ≤ 1000000) (w : World) (hd : w.cell? ⟨bd, 0, none⟩ = some (.map (some b))) (hK : Hid (KAt w b N K n0)) :
    Calls Try.prog 32 #[.pointer (some ⟨bd, 0, none⟩)] w fun e w' => ∃ (v : Value) (S : List K3), e = .returned v ∧ Sorted3 K S ∧ OwnR 25 3 kV w w' v S ∧ Keeps (fun _ => False) w w' := by
  have hcnt' := Lib.hid hcnt
  clear hcnt
  go_enter Try.func32, Try.ntmps32
  go_wp2_with fail
  refine (mapsKeysK_any (some b) w).mono ?_
  rintro e w1 ⟨rfl, rfl⟩
  have k1 : Hid (Keeps (fun _ => False) w (w.alloc (.cells #[.map (some b)] 84))) := Lib.hid ((Keeps.refl _ _).alloc _)
  have hB : BlkAt (w.alloc (.cells #[.map (some b)] 84)) w.heap.size 84 [.map (some b)] := BlkAt.new w 84 [.map (some b)]
  have hc := hB.cell 0 _ rfl
  have hK1 := hK.out.keep k1.out id
  have hs := Lib.hid (sortedK_any w.heap.size b N n0 K hcnt'.out hN _ hc hK1)
  clear hc hK1 hB
  go_wp2_with fail
  refine hs.out.mono ?_
  rintro e w2 ⟨v, S, rfl, hS, hO, hk⟩
  have hS' := Lib.hid hS
  have hO' := Lib.hid (hO.older (w0 := w) k1.out.size)
  have hk' := Lib.hid (k1.out.trans hk)
  clear hs hS hO hk
  go_wp2_with fail
  go_ret
  exact ⟨v, S, rfl, hS'.out, hO'.out, hk'.out⟩
end Go.Proofs.Ytdaongflpllfhaa
/- Lists of an Lsa cloned, whatever they are. -/
set_option linter.unusedVariables false
set_option linter.unusedSimpArgs false
namespace Go.Proofs.Ytdaongflpllfhaa
open Go.RowKit

theorem linkAllK : ∃ i, Try.prog.info? 70 = some i ∧ i.zero = some (.agg #[.int .u32 0, .int .u32 0, .int .i64 0, .int .i64 0]) ∧ i.size = 4 ∧ i.bytes = 24 := by
  have h : (Try.prog.info? 70).map (fun i => (i.zero, i.size, i.bytes)) = some (some (.agg #[.int .u32 0, .int .u32 0, .int .i64 0, .int .i64 0]), 4, 24) := by kernel_rfl
  obtain ⟨i, hi, e⟩ := Option.map_eq_some_iff.1 h
  injection e with e1 e; injection e with e2 e3
  exact ⟨i, hi, e1, e2, e3⟩
theorem wpList_append_nilK {α : Type} {sz : Nat} {cv : α → List Value} {P : Program} {w : World} {ops : Array Oper} {rest : List Oper} {o : Oper} {a : Act} {Q : Exit → Act → World → Prop} (hgd : o.guard = none) (s x : Operand) (t e : TypeId)
    (ho : o.op = .call { callee := .builtin .append, args := #[s, x], argTypes := #[t, t] })
    (i : TypeInfo) (z : Value) (by_ : Nat) (ht : P.underlying t = some (.slice e)) (hi : P.info? e = some i) (hz : i.zero = some z) (hsize : i.size = sz) (hby : i.bytes = by_) (hzs : z.cells.size = sz) (hsz0 : 0 < sz) (hby1 : by_ ≤ 100000)
    (hcv : ∀ x, (cv x).length = sz) (h1 : ∀ (x : α), ∀ u ∈ cv x, u.oneCell' = true) (w0 : World) (v : Value) (hs : a.eval s = v) (hown : OwnR e sz cv w0 w v []) (sv : Value) (hx : a.eval x = sv) (ys : List α) (hl : RowsAt sz cv w sv ys) (hsz : ys.length ≤ 1000000000)
    (h : ∀ p c w', Hid (OwnR e sz cv w0 w' (.slice p ys.length c) ys) → Hid (Grown w v p ys.length c w') → wpList P ops Q rest (a.put o.dst (.slice p ys.length c)) w') : wpList P ops Q (o :: rest) a w :=
  wpList_plain hgd fun _ hK => wp_append_rows s x t e ho i z by_ ht hi hz hsize hby hzs hsz0 hby1 hcv h1 w0 v [] hs hown sv hx ys hl (by simpa using hsz) (fun p c w' k1 k2 => by
    have e0 : ([] : List α).length + ys.length = ys.length := by simp
    rw [e0] at k1 k2 ⊢
    exact hK _ _ (h p c w' (Lib.hid (by simpa using k1)) (Lib.hid k2)))
theorem rows_emptyK {α : Type} {sz : Nat} {cv : α → List Value} {t : TypeId} (w0 w : World) (h : w0.heap.size ≤ w.heap.size) : OwnR t sz cv w0 (w.alloc (.cells #[] t)) (.slice (some ⟨w.heap.size, 0, none⟩) 0 0) ([] : List α) := by
  refine ⟨⟨by simp [rowCells], .inr ⟨w.heap.size, 0, #[], rfl, Nat.zero_le _, heap_alloc_last w _, Nat.le_refl _, by unfold maxLen; omega, by simp, by simp [rowCells]⟩⟩, fun k e => ?_, by simp; omega⟩
  simp only [Value.ownBlock, Option.some.injEq] at e
  omega
theorem eql_nilL (a : Addr) (l c : Nat) (w : World) : (binOp .eql 26 (.slice (some a) l c) (.slice none 0 0)).run Try.prog w = .ok (.bool false) w := by
  simp [binOp, run_equal_slice_nil w 26 _ (some a) l c Try.underlying26]
theorem eql_nilU (a : Addr) (l c : Nat) (w : World) : (binOp .eql 27 (.slice (some a) l c) (.slice none 0 0)).run Try.prog w = .ok (.bool false) w := by
  simp [binOp, run_equal_slice_nil w 27 _ (some a) l c Try.underlying27]
theorem linkLenK (x : LinkD) : (linkVals x).length = 4 := rfl
/-- what a clone is: new rows, or none -/
def CloneP {α : Type} (sz : Nat) (cv : α → List Value) (ls : List α) (w : World) (e : Ending) (w' : World) : Prop := ∃ p c, e = .returned (.slice p ls.length c) ∧ RowsAt sz cv w' (.slice p ls.length c) ls ∧ (∀ i, (Value.slice p ls.length c).ownBlock = some i → w.heap.size ≤ i) ∧ Keeps (fun _ => False) w w'
set_option maxRecDepth 100000 in
set_option maxHeartbeats 4000000 in
theorem cloneLinks_any (v : Value) (ls : List LinkD) (w : World) (hv : Hid (RowsAt 4 linkVals w v ls)) (hl : ls.length ≤ 1000000) :
    Calls Try.prog 52 #[v] w (CloneP 4 linkVals ls w) := by
  obtain ⟨i0, hi0, hi1, hi2, hi3⟩ := linkAllK
  obtain ⟨p, c, rfl⟩ := hv.out.slice
  cases p with
  | none =>
    have h0 : ls = [] := by
      obtain ⟨p', c', e, hp, hc, hr⟩ := hv.out
      injection e with e1 e2 e3
      subst e1
      have := hp rfl
      exact List.eq_nil_of_length_eq_zero (by omega)
    obtain rfl := h0
    obtain ⟨p', c', e, hp, hc, hr⟩ := hv.out
    injection e with e1 e2 e3
    subst e1
    have hc0 := hp rfl
    subst e3
    subst hc0
    refine (slClLinks_nil w).mono ?_
    rintro e w' ⟨rfl, rfl⟩
    exact ⟨none, 0, rfl, RowsAt.nil _, fun i e => by simp [Value.ownBlock] at e, Keeps.refl _ _⟩
  | some a =>
    have hE := Lib.hid (rows_emptyK (cv := linkVals) (sz := 4) (t := 70) w w (Nat.le_refl _))
    have hR := Lib.hid (hv.out.keep ((Keeps.refl (fun _ => False) w).alloc (.cells #[] 70)))
    clear hv
    have heq := eql_nilL a ls.length c w
    go_enter Try.func52, Try.ntmps52
    go_wp2_with ((with_reducible refine at_slot 7 ?_); refine wpList_append_nilK rfl (.tmp 5) (.tmp 6) 26 70 rfl i0 _ 24 Try.underlying26 hi0 hi1 hi2 hi3 rfl (by decide) (by decide) linkLenK (fun x => linkVals_one x) w _ rfl hE.out _ rfl ls hR.out (by omega) ?_; intro q8 d8 w8 hO8 hg8)
    go_ret
    exact ⟨q8, d8, rfl, hO8.out.at linkLenK, hO8.out.2.1, ((Keeps.refl (fun _ => False) w).alloc _).trans' hg8.out.k (fun i e => .inr (hE.out.2.1 i e))⟩
def nvL (n : Nat) : List Value := [.int .u32 n]
theorem nvLenK (x : Nat) : (nvL x).length = 1 := rfl
theorem nvL_oneK (x : Nat) : ∀ u ∈ nvL x, u.oneCell' = true := by
  intro u hu
  simp only [nvL, List.mem_cons, List.not_mem_nil, or_false] at hu
  subst hu; rfl
theorem u32AllK : ∃ i, Try.prog.info? 23 = some i ∧ i.zero = some (.int .u32 0) ∧ i.size = 1 ∧ i.bytes = 4 := by
  obtain ⟨i, hi, e⟩ := Option.map_eq_some_iff.1 u32InfoAll
  injection e with e1 e; injection e with e2 e3
  exact ⟨i, hi, e1, e2, e3⟩
theorem nums_rowsK {w : World} {v : Value} {l : List Nat} (h : NumsAt w v l) : RowsAt 1 nvL w v l := by
  obtain ⟨p, c, e, hp, hc, hr⟩ := h
  refine ⟨p, c, e, hp, hc, fun h0 => ?_⟩
  obtain ⟨g, o, rfl, hr2⟩ := hr h0
  refine ⟨g, o, rfl, fun i x hx j u hu => ?_⟩
  have hj : j = 0 := by have := (List.getElem?_eq_some_iff.1 hu).1; simp [nvL] at this; omega
  subst hj
  have h1 := hr2 i u (by rw [List.getElem?_map, hx]; exact hu)
  rw [Nat.mul_one, Nat.add_zero]; exact h1
theorem rows_numsK {w : World} {v : Value} {l : List Nat} (h : RowsAt 1 nvL w v l) : NumsAt w v l := by
  obtain ⟨p, c, e, hp, hc, hr⟩ := h
  refine ⟨p, c, e, hp, hc, fun h0 => ?_⟩
  obtain ⟨g, o, rfl, hr2⟩ := hr h0
  refine ⟨g, o, rfl, fun i u hu => ?_⟩
  rw [List.getElem?_map] at hu
  cases hx : l[i]? with
  | none => rw [hx] at hu; cases hu
  | some x =>
    rw [hx] at hu
    have h1 := hr2 i x hx 0 u hu
    rw [Nat.mul_one, Nat.add_zero] at h1; exact h1
set_option maxRecDepth 100000 in
set_option maxHeartbeats 4000000 in
theorem cloneU32_any (v : Value) (ls : List Nat) (w : World) (hv : Hid (RowsAt 1 nvL w v ls)) (hl : ls.length ≤ 1000000) :
    Calls Try.prog 53 #[v] w (CloneP 1 nvL ls w) := by
  obtain ⟨i0, hi0, hi1, hi2, hi3⟩ := u32AllK
  obtain ⟨p, c, rfl⟩ := hv.out.slice
  cases p with
  | none =>
    have h0 : ls = [] := by
      obtain ⟨p', c', e, hp, hc, hr⟩ := hv.out
      injection e with e1 e2 e3
      subst e1
      have := hp rfl
      exact List.eq_nil_of_length_eq_zero (by omega)
    obtain rfl := h0
    obtain ⟨p', c', e, hp, hc, hr⟩ := hv.out
    injection e with e1 e2 e3
    subst e1
    have hc0 := hp rfl
    subst e3
    subst hc0
    refine (slClU32_nil w).mono ?_
    rintro e w' ⟨rfl, rfl⟩
    exact ⟨none, 0, rfl, RowsAt.nil _, fun i e => by simp [Value.ownBlock] at e, Keeps.refl _ _⟩
  | some a =>
    have hE := Lib.hid (rows_emptyK (cv := nvL) (sz := 1) (t := 23) w w (Nat.le_refl _))
    have hR := Lib.hid (hv.out.keep ((Keeps.refl (fun _ => False) w).alloc (.cells #[] 23)))
    clear hv
    have heq := eql_nilU a ls.length c w
    go_enter Try.func53, Try.ntmps53
    go_wp2_with ((with_reducible refine at_slot 7 ?_); refine wpList_append_nilK rfl (.tmp 5) (.tmp 6) 27 23 rfl i0 _ 4 Try.underlying27 hi0 hi1 hi2 hi3 rfl (by decide) (by decide) nvLenK (fun x => nvL_oneK x) w _ rfl hE.out _ rfl ls hR.out (by omega) ?_; intro q8 d8 w8 hO8 hg8)
    go_ret
    exact ⟨q8, d8, rfl, hO8.out.at nvLenK, hO8.out.2.1, ((Keeps.refl (fun _ => False) w).alloc _).trans' hg8.out.k (fun i e => .inr (hE.out.2.1 i e))⟩
end Go.Proofs.Ytdaongflpllfhaa
/- A region of two phases (an assignment of several): what is done ahead only reads, what is done behind it writes. Behind each of the first n the world's condition stays, if it held; a load is taken first if all that write wait for it. -/
namespace Go.Proofs.Ytdaongflpllfhaa
open Go.RowKit

/-- each operation from n on waits for operation i -/
def phaseB (md : Region.Mode) (ops : Array Oper) (n i : Nat) : Bool :=
  decide (i < n) && (List.range ops.size).all fun t => decide (t < n) || ((ops[t]?).map fun o => o.after.any fun e => Region.binds md e && e.on == i).getD true
section
variable {P : Program} {ops : Array Oper} {Q : Exit → Act → World → Prop} {md : Region.Mode} {S : World → Prop} {n : Nat}
theorem phaseB_lt {i j : Nat} {oj : Oper} (h : phaseB md ops n i = true) (hj : ops[j]? = some oj) (hno : ∀ e ∈ oj.after, Region.binds md e = true → e.on ≠ i) : j < n := by
  unfold phaseB at h
  rw [Bool.and_eq_true] at h
  have h1 := List.all_eq_true.1 h.2 j (List.mem_range.2 (Array.getElem?_eq_some_iff.1 hj).1)
  rw [Bool.or_eq_true] at h1
  rcases h1 with h1 | h1
  · exact of_decide_eq_true h1
  · rw [hj] at h1
    simp only [Option.map_some, Option.getD_some] at h1
    obtain ⟨e, he, hb⟩ := Array.any_eq_true'.1 h1
    rw [Bool.and_eq_true] at hb
    exact absurd (by simpa using hb.2) (hno e he hb.1)
/-- whatever order; each of the first n keeps S -/
def wpX (P : Program) (md : Region.Mode) (ops : Array Oper) (Q : Exit → Act → World → Prop) (n : Nat) (S : World → Prop) : Nat → Array Bool → Act → World → Prop
  | 0, L, a, w => Region.ready md ops L = [] ∧ Q .normal a w
  | f + 1, L, a, w => (Region.ready md ops L = [] → Q .normal a w) ∧ ∀ i ∈ Region.ready md ops L, wpOp P ops Q i (fun a' w' => (i < n → S w → S w') ∧ wpX P md ops Q n S f (L.setIfInBounds i true) a' w') a w
theorem wpAny_of_X : ∀ (f : Nat) (L : Array Bool) (a : Act) (w : World), wpX P md ops Q n S f L a w → wpAny P md ops Q f L a w
  | 0, _, _, _, h => h
  | f + 1, _, _, _, h => ⟨h.1, fun i hi => wpOp_mono (fun _ _ h' => wpAny_of_X f _ _ _ h'.2) (h.2 i hi)⟩
/-- all of the first n have come up: no condition is asked for any more -/
theorem wpX_tail : ∀ (f : Nat) (L : Array Bool) (a : Act) (w : World), (∀ i, i < n → L.getD i true = true) → wpAnyH P md ops Q (fun _ => True) f L a w → wpX P md ops Q n S f L a w
  | 0, _, _, _, _, h => h
  | f + 1, L, _, _, hL, h => ⟨h.1, fun i hi => wpOp_mono (fun _ _ h' => ⟨fun hin _ => (by have := (mem_ready.1 hi).1; rw [hL i hin] at this; cases this), wpX_tail f _ _ _ (fun j hj => by
      by_cases e : i = j
      · subst e; have := (mem_ready.1 hi).1; rw [hL i hj] at this; cases this
      · rw [getD_set_ne true e]; exact hL j hj) h'.2⟩) (h.2 i hi)⟩
theorem wpX_takeG (S' : World → Prop) {i : Nat} {oi : Oper} {v : Value} (hi : ops[i]? = some oi) (hs : Region.noSelect ops = true)
    (hp : ∀ j oj, ops[j]? = some oj → (∀ e ∈ oj.after, Region.binds md e = true → e.on ≠ i) → ∀ w w', S' w → (j < n → S w → S w') → S' w')
    (hQ : ∀ c a w, Q (.panic c) (a.put oi.dst v) w → Q (.panic c) a w) : ∀ (f : Nat) (L : Array Bool) (a : Act) (w : World),
      (∀ j oj, ops[j]? = some oj → j ≠ i → L.getD j true = false → (∀ e ∈ oj.after, Region.binds md e = true → e.on ≠ i) → oi.apart ops oj = true) →
      i ∈ Region.ready md ops L → YieldsIf P ops S' oi v a → S' w → wpX P md ops Q n S f (L.setIfInBounds i true) (a.put oi.dst v) w → wpX P md ops Q n S (f + 1) L a w := by
  intro f
  induction f with
  | zero =>
    intro L a w _ hr hy hS H
    refine ⟨fun h => absurd (h ▸ hr) (by simp), fun j hj => ?_⟩
    by_cases e : j = i
    · subst e; exact hy.wpOp hi hS ⟨fun _ h => h, H⟩
    · have := ready_mono hj e
      rw [H.1] at this; cases this
  | succ f ih =>
    intro L a w hfree hr hy hS H
    refine ⟨fun h => absurd (h ▸ hr) (by simp), fun j hj => ?_⟩
    by_cases e : j = i
    · subst e; exact hy.wpOp hi hS ⟨fun _ h => h, H⟩
    obtain ⟨hun, oj, hoj, hall⟩ := mem_ready.1 hj
    have hno : ∀ e ∈ oj.after, Region.binds md e = true → e.on ≠ i := fun e he hb hon => by
      have h1 := hall e he hb
      have h0 := (mem_ready.1 hr).1
      rw [hon] at h1
      rcases Nat.lt_or_ge i L.size with h' | h'
      · simp [h'] at h0 h1; rw [h0] at h1; cases h1
      · simp [Array.getElem?_eq_none h'] at h1
    have h2 := wpOp_putIf hoj (hfree j oj hoj e hun hno) (fun cs b => Region.noSelect_spec hs i oi cs b hi) (fun cs b => Region.noSelect_spec hs j oj cs b hoj) hQ hy (H.2 j (ready_mono hj e))
    refine wpOp_mono (fun a' w' h3 => ⟨h3.2.1, ih _ a' w' (fun k ok hk hki hku hkn => hfree k ok hk hki ?_ hkn) (ready_mono hr (Ne.symm e)) h3.1 (hp j oj hoj hno w w' hS h3.2.1) ?_⟩) h2
    · by_cases e2 : j = k
      · subst e2; exact hun
      · rwa [getD_set_ne true e2] at hku
    · rw [Array.setIfInBounds_comm _ _ e]; exact h3.2.2
theorem phaseB_keep {i : Nat} (h : phaseB md ops n i = true) : ∀ j oj, ops[j]? = some oj → (∀ e ∈ oj.after, Region.binds md e = true → e.on ≠ i) → ∀ w w', S w → (j < n → S w → S w') → S w' :=
  fun _ _ hj hno _ _ hS hk => hk (phaseB_lt h hj hno) hS
theorem wp_region_phase {id : Nat} {a : Act} {w : World} (n : Nat) (hm : P.follows .mixedOrders = true) (hS : S w.drew)
    (h : S w.drew → wpX P .any ops Q n S ops.size (Array.replicate ops.size false) a w.drew) : (Code.region id ops true).wp P Q a w :=
  wp_region_any hm (wpAny_of_X _ _ _ _ (h hS))
end
section
variable {P : Program} {l : List Oper} {Q : Exit → Act → World → Prop} {md : Region.Mode} {S : World → Prop} {n : Nat}
theorem tkx (i : Nat) {oi : Oper} {v : Value} {fuel : Nat} {listed : Array Bool} {a a' : Act} {w : World} (hi : l[i]? = some oi) (h : wpX P md l.toArray Q n S fuel (listed.setIfInBounds i true) a' w)
    (hs : Region.noSelect l.toArray = true := by kernel_rfl) (hf : Region.free md l.toArray listed i = true := by kernel_rfl) (hr : (Region.ready md l.toArray listed).contains i = true := by kernel_rfl) (hw : Region.wanted oi (yielded l.toArray a.tmps) = true := by rfl) (hy : ∀ w, (execOp a.eval oi).run P w = .ok (.value v) w := by (intro wS; go_simp; try with_reducible rfl))
    (ha : a.put oi.dst v = a' := by (try simp only [Act.put, sA, sZ, sS]; rfl))
    (hQ : ∀ c a w, Q (.panic c) (a.put oi.dst v) w → Q (.panic c) a w := by exact fun _ _ _ h => h) : wpX P md l.toArray Q n S (fuel + 1) listed a w :=
  wpX_takeG (fun _ => True) (by simpa using hi) hs (fun _ _ _ _ _ _ _ _ => trivial) hQ fuel listed a w (Region.free_spec (by simpa using hi) hf) (by simpa using hr) (Or.inl ⟨hw, fun w _ => hy w⟩) trivial (by rw [ha]; exact h)
theorem tkxL (i : Nat) {oi : Oper} {v : Value} {fuel : Nat} {listed : Array Bool} {a a' : Act} {w : World} (hi : l[i]? = some oi) (hy : YieldsIf P l.toArray S oi v a) (h : wpX P md l.toArray Q n S fuel (listed.setIfInBounds i true) a' w)
    (hs : Region.noSelect l.toArray = true := by kernel_rfl) (hf : Region.free md l.toArray listed i = true := by kernel_rfl) (hr : (Region.ready md l.toArray listed).contains i = true := by kernel_rfl) (hp : phaseB md l.toArray n i = true := by kernel_rfl)
    (ha : a.put oi.dst v = a' := by (try simp only [Act.put, sA, sZ, sS]; rfl))
    (hQ : ∀ c a w, Q (.panic c) (a.put oi.dst v) w → Q (.panic c) a w := by exact fun _ _ _ h => h) (hS : S w := by assumption) : wpX P md l.toArray Q n S (fuel + 1) listed a w :=
  wpX_takeG S (by simpa using hi) hs (phaseB_keep hp) hQ fuel listed a w (Region.free_spec (by simpa using hi) hf) (by simpa using hr) hy hS (by rw [ha]; exact h)
end
end Go.Proofs.Ytdaongflpllfhaa
/- A region of two phases: the one operation that comes up in the first (a call, an append). -/
namespace Go.Proofs.Ytdaongflpllfhaa
open Go.RowKit
section
variable {P : Program} {l : List Oper} {Q : Exit → Act → World → Prop} {md : Region.Mode} {S : World → Prop} {n : Nat}
theorem stepXG (i : Nat) {fuel : Nat} {listed : Array Bool} {a : Act} {w : World} {o : Oper} (ho : l[i]? = some o) (hr : Region.ready md l.toArray listed = [i]) (hw : Region.wanted o (yielded l.toArray a.tmps) = true)
    (h : ∀ K' : Act → World → Prop, Shut (∀ a' w', ((i < n → S w → S w') ∧ wpX P md l.toArray Q n S fuel (listed.setIfInBounds i true) a' w') → K' a' w') → Oper.wp P o a w K' Q) :
    wpX P md l.toArray Q n S (fuel + 1) listed a w := by
  refine ⟨fun e => (by rw [hr] at e; cases e), fun j hj => ?_⟩
  rw [hr] at hj
  obtain rfl : j = i := by simpa using hj
  unfold wpOp
  have ho' : l.toArray[j]? = some o := by simpa using ho
  rw [ho']
  simp only [hw, if_true]
  exact .inl (h _ (fun _ _ h => h))
end
theorem allBX {n : Nat} {L : Array Bool} (h : ((List.range n).all fun i => L.getD i true) = true) : ∀ i, i < n → L.getD i true = true := fun i hi => List.all_eq_true.1 h i (List.mem_range.2 hi)
end Go.Proofs.Ytdaongflpllfhaa
/- clone of whatever Lsa. -/
set_option linter.unusedVariables false
set_option linter.unusedSimpArgs false
namespace Go.Proofs.Ytdaongflpllfhaa
open Go.RowKit

theorem ret_cellK {P : Program} {fn : Func} {p : Tmp} {ty : TypeId} (h : fn.results = #[.cell p ty]) (tmps : Array Value) (w : World) (b : Nat) (cs : List Value) (d : TypeDesc) (hp : tmps.getD p undef = .pointer (some ⟨b, 0, none⟩))
    (hc : w.rangeAt b 0 cs) (hu : P.underlying ty = some d) (hd : d.isRow = true) (hi : (P.info? ty).map (·.size) = some cs.length) : (results fn tmps).run P w = .ok (.agg cs.toArray) w := by
  have hl := run_loadVar_mid w b 0 ty cs d hc hu hd hi
  have e : (results fn tmps).run P w = ((asAddr (tmps.getD p undef)).run P w).andThen fun a w₁ => (loadVar ty a).run P w₁ := by
    simp only [results, h]
    simp [Sem.run_bind, Result.andThen]
  rw [e, hp]
  simp only [asAddr, Sem.run_pure, Result.andThen, hl]
/-- an Lsa whose lists lie in blocks from block B on -/
def NewIn (B : Nat) (m : LsaM) : Prop := (∀ i, (Value.slice m.p5 m.d.links.length m.c5).ownBlock = some i → B ≤ i) ∧ (∀ i, (Value.slice m.p7 m.d.routers.length m.c7).ownBlock = some i → B ≤ i)
theorem lsaRow_oneK (m : LsaM) : (lsaRow m).toArray.all (·.oneCell') = true := by
  simp [lsaRow]
  exact ⟨rfl, rfl, rfl, rfl, rfl, rfl, rfl, rfl, rfl⟩
set_option maxRecDepth 100000 in
set_option maxHeartbeats 4000000 in
theorem ldClone_any (m : LsaM) (w : World) (hL : Hid (RowsAt 4 linkVals w (.slice m.p5 m.d.links.length m.c5) m.d.links)) (hN : Hid (NumsAt w (.slice m.p7 m.d.routers.length m.c7) m.d.routers)) (hl5 : m.d.links.length ≤ 1000000) (hl7 : m.d.routers.length ≤ 1000000) :
    Calls Try.prog 29 #[.agg (lsaRow m).toArray] w fun e w' => ∃ m' : LsaM, e = .returned (.agg (lsaRow m').toArray) ∧ m'.d = m.d ∧ LsaIn w' m' ∧ NewIn w.heap.size m' ∧ Keeps (fun _ => False) w w' := by
  obtain ⟨⟨age, type, id, adv, seq, links, mask, routers, cost⟩, p5, c5, p7, c7⟩ := m
  simp only at hL hN hl5 hl7
  have e0 : (lsaRow ⟨⟨age, type, id, adv, seq, links, mask, routers, cost⟩, p5, c5, p7, c7⟩).toArray = #[.int .i64 age, .int .i64 type, .int .u32 id, .int .u32 adv, .int .i64 seq, .slice p5 links.length c5, .int .u32 mask, .slice p7 routers.length c7, .int .i64 cost] := rfl
  rw [e0]
  clear e0
  obtain ⟨W0, hW0⟩ : ∃ W0, W0 = (w.alloc (.cells #[.int .i64 age, .int .i64 type, .int .u32 id, .int .u32 adv, .int .i64 seq, .slice p5 links.length c5, .int .u32 mask, .slice p7 routers.length c7, .int .i64 cost] 29)).alloc (.cells #[.int .i64 0, .int .i64 0, .int .u32 0, .int .u32 0, .int .i64 0, .slice none 0 0, .int .u32 0, .slice none 0 0, .int .i64 0] 29) := ⟨_, rfl⟩
  have hB : Hid (BlkAt W0 w.heap.size 29 [.int .i64 age, .int .i64 type, .int .u32 id, .int .u32 adv, .int .i64 seq, .slice p5 links.length c5, .int .u32 mask, .slice p7 routers.length c7, .int .i64 cost]) := Lib.hid (by rw [hW0]; exact (BlkAt.new w 29 [.int .i64 age, .int .i64 type, .int .u32 id, .int .u32 adv, .int .i64 seq, .slice p5 links.length c5, .int .u32 mask, .slice p7 routers.length c7, .int .i64 cost]).alloc _)
  have hR : Hid (BlkAt W0 (w.heap.size + 1) 29 [.int .i64 0, .int .i64 0, .int .u32 0, .int .u32 0, .int .i64 0, .slice none 0 0, .int .u32 0, .slice none 0 0, .int .i64 0]) := Lib.hid (by
    have := BlkAt.new (w.alloc (.cells #[.int .i64 age, .int .i64 type, .int .u32 id, .int .u32 adv, .int .i64 seq, .slice p5 links.length c5, .int .u32 mask, .slice p7 routers.length c7, .int .i64 cost] 29)) 29 [.int .i64 0, .int .i64 0, .int .u32 0, .int .u32 0, .int .i64 0, .slice none 0 0, .int .u32 0, .slice none 0 0, .int .i64 0]
    rw [hW0]; simpa using this)
  have hK : Hid (Keeps (fun _ => False) w W0) := Lib.hid (by rw [hW0]; exact ((Keeps.refl _ _).alloc _).alloc _)
  have hW0' := Lib.hid hW0
  clear hW0
  go_enter Try.func29, Try.ntmps29
  go_upto_region 1 with fail
  rw [← hW0'.out]
  clear hW0'
  obtain ⟨b1, hb1⟩ : ∃ b, w.heap.size = b := ⟨_, rfl⟩
  have hb1' := Lib.hid hb1
  rw [hb1] at hB hR ⊢
  clear hb1
  refine wp_region_noPanic ?_
  refine wp_region_phase (S := fun W => Keeps (fun _ => False) W0 W) 6 (by kernel_rfl) ((Keeps.refl _ _).drew) (fun hHeld => ?_)
  refine tkx 0 rfl ?_
  refine tkxL 1 rfl (yieldsIf_load_cell (by rfl) 26 (.tmp 3) rfl b1 5 rfl (.slice p5 links.length c5) (fun _ s => (hB.out.keep s (fun f => f)).cell 5 _ rfl) (fun w s => load_links w _ _ _ s)) ?_
  refine tkx 3 rfl ?_
  refine tkxL 4 rfl (yieldsIf_load_cell (by rfl) 27 (.tmp 6) rfl b1 7 rfl (.slice p7 routers.length c7) (fun _ s => (hB.out.keep s (fun f => f)).cell 7 _ rfl) (fun w s => load_u32s w _ _ _ s)) ?_
  have hk1 := Lib.hid (hK.out.trans hHeld)
  have hq := Lib.hid hHeld
  generalize hgz : W0.drew = W1 at hk1 hq ⊢
  clear hgz hHeld
  refine stepXG 2 rfl (by kernel_rfl) rfl (fun K hK2 => ?_)
  go_simp
  refine (cloneLinks_any _ links W1 (Lib.hid (hL.out.keep hk1.out)) (by omega)).mono ?_
  rintro e W2 ⟨r5, d5, rfl, hC5, hB5, k2⟩
  have hC5' := Lib.hid hC5
  have hB5' := Lib.hid hB5
  have hk2 := Lib.hid (hk1.out.trans k2)
  have hq2 := Lib.hid (hq.out.trans k2)
  have k2' := Lib.hid k2
  clear hC5 hB5 k2
  go_wp2_with fail
  refine hK2 _ _ ⟨fun _ s => s.trans k2'.out, ?_⟩
  clear hK2 K
  try simp only [Act.put, sA, sZ, sS]
  refine tkx 6 rfl ?_
  refine stepXG 5 rfl (by kernel_rfl) rfl (fun K hK2 => ?_)
  go_simp
  refine (cloneU32_any _ routers W2 (Lib.hid (nums_rowsK (hN.out.keepF hk2.out (fun _ _ _ f => f)))) (by omega)).mono ?_
  rintro e W3 ⟨r7, d7, rfl, hC7, hB7, k3⟩
  have hC7' := Lib.hid hC7
  have hB7' := Lib.hid hB7
  have hk3 := Lib.hid (hk2.out.trans k3)
  have hq3 := Lib.hid (hq2.out.trans k3)
  have hC53 := Lib.hid (hC5'.out.keep k3)
  have k3' := Lib.hid k3
  clear hC7 hB7 k3 hC5'
  go_wp2_with fail
  refine hK2 _ _ ⟨fun _ s => s.trans k3'.out, ?_⟩
  clear hK2 K
  try simp only [Act.put, sA, sZ, sS]
  refine wpX_tail _ _ _ _ (allBX (by kernel_rfl)) ?_
  have hB3 := hB.out.keep hq3.out (fun f => f)
  have hR3 := Lib.hid (hR.out.keep hq3.out (fun f => f))
  have q1 := hB3.cell 5 _ rfl
  have q2 := hB3.frozen 5
  have hB4 := hB3.set 5 (.slice r5 links.length d5)
  have q3 := hB4.cell 7 _ rfl
  have q4 := hB4.frozen 7
  have hB6 := Lib.hid (hB4.set 7 (.slice r7 routers.length d7))
  have ks : Hid (Keeps (fun i => i = b1) W3 ((W3.setCell ⟨b1, 5, none⟩ (.slice r5 links.length d5)).setCell ⟨b1, 7, none⟩ (.slice r7 routers.length d7))) := Lib.hid ((Keeps.setCell (F := fun i => i = b1) (Keeps.refl _ _) (.inl rfl) _).setCell (p := ⟨b1, 7, none⟩) (.inl rfl) _)
  clear hB3 hB4
  have hHeld : (fun _ : World => True) W3 := trivial
  refine stepL 7 rfl (by kernel_rfl) (fun K hK => ?_)
  go_simp
  refine hK.out _ _ (trivial) (fun hHeld => ?_)
  clear hK K
  try simp only [Act.put, sA, sZ, sS]
  refine tk 8 rfl ?_
  refine stepL 9 rfl (by kernel_rfl) (fun K hK => ?_)
  go_simp
  refine hK.out _ _ (trivial) (fun hHeld => ?_)
  clear hK K
  try simp only [Act.put, sA, sZ, sS]
  refine wpAnyH_done (by kernel_rfl) (NoPanic.normal ?_) _
  clear hHeld q1 q2 q3 q4
  generalize hgz : (W3.setCell ⟨b1, 5, none⟩ (.slice r5 links.length d5)).setCell ⟨b1, 7, none⟩ (.slice r7 routers.length d7) = W4 at hB6 ks ⊢
  clear hgz
  have hR4 := Lib.hid (hR3.out.keep ks.out (by omega))
  have hth := Lib.hid (hR4.out.there 0 9 (Nat.le_refl _))
  have hone := Lib.hid (lsaRow_oneK ⟨⟨age, type, id, adv, seq, links, mask, routers, cost⟩, r5, d5, r7, d7⟩)
  have hLI : Hid (LsaIn W4 ⟨⟨age, type, id, adv, seq, links, mask, routers, cost⟩, r5, d5, r7, d7⟩) := Lib.hid ⟨hC53.out.keepF ks.out (fun _ i e f => by have h1 := hB5'.out i e; have h2 := hk1.out.size; have h3 := lt_of_block hB.out; have h4 := hq.out.size; omega), (rows_numsK hC7'.out).keepF ks.out (fun _ i e f => by have h1 := hB7'.out i e; have h2 := hk2.out.size; have h3 := lt_of_block hB.out; have h4 := hq2.out.size; omega)⟩
  have hap : Hid ((∀ i, (Value.slice r5 links.length d5).ownBlock = some i → i ≠ b1 + 1) ∧ (∀ i, (Value.slice r7 routers.length d7).ownBlock = some i → i ≠ b1 + 1)) := Lib.hid ⟨fun i e f => by have h1 := hB5'.out i e; have h3 := lt_of_block hR.out; have h4 := hq.out.size; omega, fun i e f => by have h1 := hB7'.out i e; have h3 := lt_of_block hR.out; have h4 := hq2.out.size; omega⟩
  have hNI : Hid (NewIn w.heap.size ⟨⟨age, type, id, adv, seq, links, mask, routers, cost⟩, r5, d5, r7, d7⟩) := Lib.hid ⟨fun i e => Nat.le_trans hk1.out.size (hB5'.out i e), fun i e => Nat.le_trans hk2.out.size (hB7'.out i e)⟩
  have hK4 : Hid (Keeps (fun _ => False) w W4) := Lib.hid (hk3.out.trans' ks.out (fun i e => .inr (by rw [e, hb1'.out]; exact Nat.le_refl _)))
  clear hC53 hC7' hB5' hB7' hk1 hk2 hk3 hq hq2 hq3 k2' k3' hR3 ks hL hN
  have e1 : (lsaRow ⟨⟨age, type, id, adv, seq, links, mask, routers, cost⟩, r5, d5, r7, d7⟩).toArray = #[.int .i64 age, .int .i64 type, .int .u32 id, .int .u32 adv, .int .i64 seq, .slice r5 links.length d5, .int .u32 mask, .slice r7 routers.length d7, .int .i64 cost] := rfl
  rw [e1] at hone
  clear e1
  go_wp2_with (first | ((with_reducible refine at_slot 11 ?_); refine wpList_load_mid rfl 29 (.tmp 1) rfl b1 0 rfl [.int .i64 age, .int .i64 type, .int .u32 id, .int .u32 adv, .int .i64 seq, .slice r5 links.length d5, .int .u32 mask, .slice r7 routers.length d7, .int .i64 cost] _ hB6.out.range Try.underlying29 rfl lsaInfo ?_) | ((with_reducible refine at_store 2 ?_); refine wpList_store_blk rfl 29 (.tmp 2) (.tmp 11) rfl (b1 + 1) _ rfl rfl hth.out lsaInfo hone.out ?_; intro W5 hr5 hk5))
  have hLI5 : LsaIn W5 ⟨⟨age, type, id, adv, seq, links, mask, routers, cost⟩, r5, d5, r7, d7⟩ := ⟨hLI.out.1.keepF hk5.out (fun _ i e f => hap.out.1 i e f), hLI.out.2.keepF hk5.out (fun _ i e f => hap.out.2 i e f)⟩
  refine bodyPost_ret (ret_cellK rfl _ W5 (b1 + 1) _ _ rfl hr5.out Try.underlying29 rfl lsaInfo) rfl ⟨⟨⟨age, type, id, adv, seq, links, mask, routers, cost⟩, r5, d5, r7, d7⟩, rfl, rfl, hLI5, hNI.out, hK4.out.trans' hk5.out (fun i e => .inr (by rw [e, ← hb1'.out]; omega))⟩
end Go.Proofs.Ytdaongflpllfhaa
/- headOf of whatever Lsa that can be. -/
set_option linter.unusedVariables false
set_option linter.unusedSimpArgs false
namespace Go.Proofs.Ytdaongflpllfhaa
open Go.RowKit

/-- an Lsa whose numbers are in range -/
structure LsaFine (l : LsaD) : Prop where
  links : ∀ x ∈ l.links, x.ok
  routers : Small l.routers
  id : l.id < 4294967296
  adv : l.adv < 4294967296
  mask : l.mask < 4294967296
theorem putB_len24K (m : LsaD) (h : canB m = true) : 24 ≤ (putB m).length ∧ (putB m).length ≤ 504 := by
  have h0 := canB_lens h
  have h1 := tellB_len (l := m) (by omega) (by omega)
  rw [putB_len]; omega
set_option maxRecDepth 100000 in
set_option maxHeartbeats 1000000 in
theorem ldHeadOf_yes (m : LsaM) (H : HeadD) (w : World) (hI : Hid (LsaIn w m)) (hok : Hid (LsaFine m.d)) (hcanB : Hid (canB m.d = true)) (hH : Hid (hdD m.d = H)) : Calls Try.prog 30 #[.agg (lsaRow m).toArray] w fun e w' => e = .returned (.tuple #[.agg #[.int .i64 H.age, .int .i64 H.type, .int .u32 H.id, .int .u32 H.adv, .int .i64 H.seq, .int .u16 H.sum, .int .i64 H.len], .int .i64 0]) ∧ Keeps (fun _ => False) w w' := by
  have hlen := putB_len24K m.d hcanB.out
  obtain ⟨⟨age, type, id, adv, seq, links, mask, routers, cost⟩, p5, c5, p7, c7⟩ := m
  simp only at hI hok hcanB hH hlen
  have hll := canB_lens hcanB.out
  have e0 : (lsaRow ⟨⟨age, type, id, adv, seq, links, mask, routers, cost⟩, p5, c5, p7, c7⟩).toArray = #[.int .i64 age, .int .i64 type, .int .u32 id, .int .u32 adv, .int .i64 seq, .slice p5 links.length c5, .int .u32 mask, .slice p7 routers.length c7, .int .i64 cost] := rfl
  rw [e0]
  clear e0
  obtain ⟨W0, hW0⟩ : ∃ W0, W0 = (w.alloc (.cells #[.int .i64 age, .int .i64 type, .int .u32 id, .int .u32 adv, .int .i64 seq, .slice p5 links.length c5, .int .u32 mask, .slice p7 routers.length c7, .int .i64 cost] 29)).alloc (.cells #[.int .i64 0, .int .i64 0, .int .u32 0, .int .u32 0, .int .i64 0, .int .u16 0, .int .i64 0] 82) := ⟨_, rfl⟩
  have hB : Hid (BlkAt W0 w.heap.size 29 [.int .i64 age, .int .i64 type, .int .u32 id, .int .u32 adv, .int .i64 seq, .slice p5 links.length c5, .int .u32 mask, .slice p7 routers.length c7, .int .i64 cost]) := Lib.hid (by rw [hW0]; exact (BlkAt.new w 29 [.int .i64 age, .int .i64 type, .int .u32 id, .int .u32 adv, .int .i64 seq, .slice p5 links.length c5, .int .u32 mask, .slice p7 routers.length c7, .int .i64 cost]).alloc _)
  have hR : Hid (BlkAt W0 (w.heap.size + 1) 82 [.int .i64 0, .int .i64 0, .int .u32 0, .int .u32 0, .int .i64 0, .int .u16 0, .int .i64 0]) := Lib.hid (by
    have := BlkAt.new (w.alloc (.cells #[.int .i64 age, .int .i64 type, .int .u32 id, .int .u32 adv, .int .i64 seq, .slice p5 links.length c5, .int .u32 mask, .slice p7 routers.length c7, .int .i64 cost] 29)) 82 [.int .i64 0, .int .i64 0, .int .u32 0, .int .u32 0, .int .i64 0, .int .u16 0, .int .i64 0]
    rw [hW0]; simpa using this)
  have hK : Hid (Keeps (fun _ => False) w W0) := Lib.hid (by rw [hW0]; exact ((Keeps.refl _ _).alloc _).alloc _)
  have hW0' := Lib.hid hW0
  clear hW0
  have hlink : Hid (LinksAt W0 (.slice p5 links.length c5) links) := Lib.hid (hI.out.1.keepF hK.out (fun _ _ _ f => f))
  have hnum : Hid (NumsAt W0 (.slice p7 routers.length c7) routers) := Lib.hid (hI.out.2.keepF hK.out (fun _ _ _ f => f))
  have hcan := hcanB
  go_enter Try.func30, Try.ntmps30
  go_upto_region 1 with fail
  rw [← hW0'.out]
  go_wp2_with ((with_reducible refine at_slot 7 ?_); refine wpList_load_mid rfl 29 (.tmp 1) rfl w.heap.size 0 rfl _ _ hB.out.range Try.underlying29 rfl lsaInfo ?_)
  refine (lsPut_yes age type seq cost id adv mask links routers p5 p7 c5 c7 _ hlink hnum (Lib.hid hok.out.links) (Lib.hid hok.out.routers) hok.out.id hok.out.adv hok.out.mask hcan).mono ?_
  rintro e w2 ⟨p, c, rfl, ho, k2⟩
  have hH2 : Hid (headOf (putB ⟨age, type, id, adv, seq, links, mask, routers, cost⟩) = H) := Lib.hid hH.out
  obtain ⟨X, hX⟩ : ∃ X, putB ⟨age, type, id, adv, seq, links, mask, routers, cost⟩ = X := ⟨_, rfl⟩
  rw [hX] at ho hlen hH2 ⊢
  obtain ⟨p', c', ep, -, hc, hr⟩ := ho.bytes
  obtain ⟨g, o, ep2, hrr⟩ := hr (by omega)
  injection ep with e1 e2 e3
  subst e1; subst e3; subst ep2
  have hr' := Lib.hid hrr
  clear hrr
  have hR2 := Lib.hid (hR.out.keep k2 (fun f => f))
  have hK2 := Lib.hid (hK.out.trans k2)
  have hlen' := Lib.hid hlen
  clear e2 hr k2 ho hX hB hR hK hlink hnum hcan hlen hI hok hcanB hll
  go_wp2_with fail
  refine (lsHead_yes g o c X (by have := hlen'.out; omega) (by have := hlen'.out; omega) hc _ hr').mono ?_
  rintro e w3 ⟨rfl, k3⟩
  rw [hH2.out]
  have hR3 := Lib.hid (hR2.out.keep k3 (fun f => f))
  have hK3 := Lib.hid (hK2.out.trans k3)
  clear k3 hR2 hK2 hH2 hr'
  unfold headV
  go_wp2_with ((with_reducible refine at_store 2 ?_); refine wpList_store_blk rfl 82 (.tmp 2) (.tmp 17) rfl (w.heap.size + 1) #[.int .i64 H.age, .int .i64 H.type, .int .u32 H.id, .int .u32 H.adv, .int .i64 H.seq, .int .u16 H.sum, .int .i64 H.len] rfl rfl (BlkAt.there hR3.out 0 7 (Nat.le_refl 7)) headInfo (head_one _ _ _ _ _ _ _) ?_; intro w9 hr9 hs9)
  have c0 := rangeAt_cell hr9.out 0 (.int .i64 H.age) rfl
  have c1 := rangeAt_cell hr9.out 1 (.int .i64 H.type) rfl
  have c2 := rangeAt_cell hr9.out 2 (.int .u32 H.id) rfl
  have c3 := rangeAt_cell hr9.out 3 (.int .u32 H.adv) rfl
  have c4 := rangeAt_cell hr9.out 4 (.int .i64 H.seq) rfl
  have c5 := rangeAt_cell hr9.out 5 (.int .u16 H.sum) rfl
  have c6 := rangeAt_cell hr9.out 6 (.int .i64 H.len) rfl
  refine bodyPost_ret (v := .tuple #[.agg #[.int .i64 H.age, .int .i64 H.type, .int .u32 H.id, .int .u32 H.adv, .int .i64 H.seq, .int .u16 H.sum, .int .i64 H.len], .int .i64 0]) (by simp [results, Try.results30, go_sem, c0, c1, c2, c3, c4, c5, c6]) rfl ⟨rfl, ?_⟩
  exact hK3.out.trans' hs9.out (fun i e => .inr (by rw [e]; omega))
set_option maxRecDepth 100000 in
set_option maxHeartbeats 1000000 in
theorem ldHeadOf_no (m : LsaM) (w : World) (hI : Hid (LsaIn w m)) (hl5 : m.d.links.length ≤ 9223372036854775807) (hl7 : m.d.routers.length ≤ 9223372036854775807) (hcanB : Hid (canB m.d = false)) : Calls Try.prog 30 #[.agg (lsaRow m).toArray] w fun e w' => e = .returned (.tuple #[.agg #[.int .i64 0, .int .i64 0, .int .u32 0, .int .u32 0, .int .i64 0, .int .u16 0, .int .i64 0], .int .i64 1]) ∧ Keeps (fun _ => False) w w' := by
  obtain ⟨⟨age, type, id, adv, seq, links, mask, routers, cost⟩, p5, c5, p7, c7⟩ := m
  simp only at hI hcanB hl5 hl7
  have e0 : (lsaRow ⟨⟨age, type, id, adv, seq, links, mask, routers, cost⟩, p5, c5, p7, c7⟩).toArray = #[.int .i64 age, .int .i64 type, .int .u32 id, .int .u32 adv, .int .i64 seq, .slice p5 links.length c5, .int .u32 mask, .slice p7 routers.length c7, .int .i64 cost] := rfl
  rw [e0]
  clear e0
  obtain ⟨W0, hW0⟩ : ∃ W0, W0 = (w.alloc (.cells #[.int .i64 age, .int .i64 type, .int .u32 id, .int .u32 adv, .int .i64 seq, .slice p5 links.length c5, .int .u32 mask, .slice p7 routers.length c7, .int .i64 cost] 29)).alloc (.cells #[.int .i64 0, .int .i64 0, .int .u32 0, .int .u32 0, .int .i64 0, .int .u16 0, .int .i64 0] 82) := ⟨_, rfl⟩
  have hB : Hid (BlkAt W0 w.heap.size 29 [.int .i64 age, .int .i64 type, .int .u32 id, .int .u32 adv, .int .i64 seq, .slice p5 links.length c5, .int .u32 mask, .slice p7 routers.length c7, .int .i64 cost]) := Lib.hid (by rw [hW0]; exact (BlkAt.new w 29 [.int .i64 age, .int .i64 type, .int .u32 id, .int .u32 adv, .int .i64 seq, .slice p5 links.length c5, .int .u32 mask, .slice p7 routers.length c7, .int .i64 cost]).alloc _)
  have hR : Hid (BlkAt W0 (w.heap.size + 1) 82 [.int .i64 0, .int .i64 0, .int .u32 0, .int .u32 0, .int .i64 0, .int .u16 0, .int .i64 0]) := Lib.hid (by
    have := BlkAt.new (w.alloc (.cells #[.int .i64 age, .int .i64 type, .int .u32 id, .int .u32 adv, .int .i64 seq, .slice p5 links.length c5, .int .u32 mask, .slice p7 routers.length c7, .int .i64 cost] 29)) 82 [.int .i64 0, .int .i64 0, .int .u32 0, .int .u32 0, .int .i64 0, .int .u16 0, .int .i64 0]
    rw [hW0]; simpa using this)
  have hK : Hid (Keeps (fun _ => False) w W0) := Lib.hid (by rw [hW0]; exact ((Keeps.refl _ _).alloc _).alloc _)
  have hW0' := Lib.hid hW0
  clear hW0
  have hlink : Hid (LinksAt W0 (.slice p5 links.length c5) links) := Lib.hid (hI.out.1.keepF hK.out (fun _ _ _ f => f))
  go_enter Try.func30, Try.ntmps30
  go_upto_region 1 with fail
  rw [← hW0'.out]
  go_wp2_with ((with_reducible refine at_slot 7 ?_); refine wpList_load_mid rfl 29 (.tmp 1) rfl w.heap.size 0 rfl _ _ hB.out.range Try.underlying29 rfl lsaInfo ?_)
  refine (lsPut_no age type seq cost id adv mask links routers p5 p7 c5 c7 _ hlink (by omega) (by omega) hcanB).mono ?_
  rintro e w2 ⟨rfl, k2⟩
  have hR2 := Lib.hid (hR.out.keep k2 (fun f => f))
  have hK2 := Lib.hid (hK.out.trans k2)
  clear k2 hB hR hK hlink
  go_wp2_with ((with_reducible refine at_store 2 ?_); refine wpList_store_blk rfl 82 (.tmp 2) (.tmp 13) rfl (w.heap.size + 1) #[.int .i64 0, .int .i64 0, .int .u32 0, .int .u32 0, .int .i64 0, .int .u16 0, .int .i64 0] rfl rfl (BlkAt.there hR2.out 0 7 (Nat.le_refl 7)) headInfo (head_one _ _ _ _ _ _ _) ?_; intro w9 hr9 hs9)
  have c0 := rangeAt_cell hr9.out 0 (.int .i64 0) rfl
  have c1 := rangeAt_cell hr9.out 1 (.int .i64 0) rfl
  have c2 := rangeAt_cell hr9.out 2 (.int .u32 0) rfl
  have c3 := rangeAt_cell hr9.out 3 (.int .u32 0) rfl
  have c4 := rangeAt_cell hr9.out 4 (.int .i64 0) rfl
  have c5 := rangeAt_cell hr9.out 5 (.int .u16 0) rfl
  have c6 := rangeAt_cell hr9.out 6 (.int .i64 0) rfl
  refine bodyPost_ret (v := .tuple #[.agg #[.int .i64 0, .int .i64 0, .int .u32 0, .int .u32 0, .int .i64 0, .int .u16 0, .int .i64 0], .int .i64 1]) (by simp [results, Try.results30, go_sem, c0, c1, c2, c3, c4, c5, c6]) rfl ⟨rfl, ?_⟩
  exact hK2.out.trans' hs9.out (fun i e => .inr (by rw [e]; omega))
end Go.Proofs.Ytdaongflpllfhaa
/- A Db in memory, of whatever Lsas. -/
set_option linter.unusedVariables false
set_option linter.unusedSimpArgs false
namespace Go.Proofs.Ytdaongflpllfhaa
open Go.RowKit

theorem cells_of_cell {w : World} {b o : Nat} {v : Value} (h : w.cell? ⟨b, o, none⟩ = some v) : ∃ cur t r, w.heap[b]? = some (.cells cur t r) := by
  unfold World.cell? at h
  simp only at h
  split at h
  · rename_i cs t r hh
    exact ⟨_, _, _, hh⟩
  · cases h
theorem LsaIn.keepC {F : Nat → Prop} {w w' : World} {m : LsaM} (h : LsaIn w m) (k : Keeps F w w') (hF : ∀ i cur t r, w.heap[i]? = some (.cells cur t r) → ¬ F i) : LsaIn w' m := by
  refine ⟨RowsAt.keepF h.1 k (fun h0 i e => ?_), h.2.keepF k (fun h0 i e => ?_)⟩
  · obtain ⟨g, o, ep, hr⟩ := RowsAt.open (sz := 4) (cv := linkVals) h.1 h0
    rw [ep] at e
    have e : some g = some i := e
    injection e with e
    subst e
    obtain ⟨cur, t, r, hc⟩ := cells_of_cell (hr 0 _ (List.getElem?_eq_getElem h0) 0 _ rfl)
    exact hF _ _ _ _ hc
  · obtain ⟨p, c, ev, -, -, hr⟩ := h.2
    obtain ⟨g, o, ep, hr⟩ := hr h0
    injection ev with e1 e2 e3
    rw [e1, ep] at e
    have e : some g = some i := e
    injection e with e
    subst e
    obtain ⟨cur, t, r, hc⟩ := cells_of_cell (hr 0 _ (by rw [List.getElem?_map, List.getElem?_eq_getElem h0]; rfl))
    exact hF _ _ _ _ hc
/-- what a Db tells: an Lsa for a key -/
abbrev LMap := Int → Nat → Nat → Option LsaD
def ValK (w : World) (v : Option Value) (l : Option LsaD) : Prop := match l with
  | none => v = none
  | some d => ∃ m : LsaM, v = some (.agg (lsaRow m).toArray) ∧ m.d = d ∧ LsaIn w m
structure DbK (w : World) (b r N n : Nat) (K : KMap) (M : LMap) : Prop where
  blk : BlkAt w b 86 [.map (some r)]
  map : KAt w r N K n
  val : ∀ t i a, kOk t i a → ValK w (K t i a) (M t i a)
theorem map_not_cells {w : World} {r N n : Nat} {K : KMap} (h : KAt w r N K n) (i : Nat) (cur : Array Value) (t : TypeId) (x : Nat × Nat) (hc : w.heap[i]? = some (.cells cur t x)) : ¬ i = r := fun e => by
  subst e
  obtain ⟨D, ⟨es, clock, hb, -⟩, -⟩ := h
  rw [hb] at hc
  cases hc
theorem ValK.keep {F : Nat → Prop} {w w' : World} {v : Option Value} {l : Option LsaD} (h : ValK w v l) (k : Keeps F w w') (hF : ∀ i cur t r, w.heap[i]? = some (.cells cur t r) → ¬ F i) : ValK w' v l := by
  cases l with
  | none => exact h
  | some d =>
    obtain ⟨m, h1, h2, h3⟩ := h
    exact ⟨m, h1, h2, h3.keepC k hF⟩
theorem DbK.keep {w w' : World} {b r N n : Nat} {K : KMap} {M : LMap} (h : DbK w b r N n K M) (k : Keeps (fun _ => False) w w') : DbK w' b r N n K M :=
  ⟨h.blk.keep k id, h.map.keep k id, fun t i a ho => (h.val t i a ho).keep k (fun _ _ _ _ _ f => f)⟩
def updM (M : LMap) (t : Int) (i a : Nat) (l : Option LsaD) : LMap := fun t' i' a' => if t' = t ∧ i' = i ∧ a' = a then l else M t' i' a'
theorem ValK.some_iff {w : World} {v : Option Value} {l : Option LsaD} (h : ValK w v l) : v.isSome = l.isSome := by
  cases l with
  | none => have h : v = none := h; rw [h]; rfl
  | some d => obtain ⟨m, h1, -⟩ := h; rw [h1]; rfl
theorem DbK.ne {w : World} {b r N n : Nat} {K : KMap} {M : LMap} (h : DbK w b r N n K M) : ¬ b = r := map_not_cells h.map b _ _ _ h.blk
/-- d.lsas[l.Key] = l -/
theorem DbK.put {w : World} {b r N n : Nat} {K : KMap} {M : LMap} (h : DbK w b r N n K M) (hN : N < 1000000) (m : LsaM) (ho : kOk m.d.type m.d.id m.d.adv) (hm : LsaIn w m) :
    ∃ w', (Instr.mapUpdate 84 (.map (some r)) (keyA m.d.type m.d.id m.d.adv) (.agg (lsaRow m).toArray)).run Try.prog w = .ok () w' ∧ DbK w' b r (N + 1) (if (M m.d.type m.d.id m.d.adv).isSome then n else n + 1) (updK K m.d.type m.d.id m.d.adv (some (.agg (lsaRow m).toArray))) (updM M m.d.type m.d.id m.d.adv (some m.d)) ∧ Keeps (fun i => i = r) w w' ∧ w'.heap.size = w.heap.size := by
  obtain ⟨w', e1, e2, e3, e4⟩ := h.map.put hN ho (.agg (lsaRow m).toArray)
  refine ⟨w', e1, ⟨h.blk.keep e3 h.ne, by rw [← (h.val _ _ _ ho).some_iff]; exact e2, fun t i a ho2 => ?_⟩, e3, e4⟩
  unfold updK updM
  split
  · exact ⟨m, rfl, rfl, hm.keepC e3 (fun i cur t x hc => map_not_cells h.map i cur t x hc)⟩
  · exact (h.val t i a ho2).keep e3 (fun i cur t x hc => map_not_cells h.map i cur t x hc)
/-- delete(d.lsas, k) -/
theorem DbK.del {w : World} {b r N n : Nat} {K : KMap} {M : LMap} (h : DbK w b r N n K M) {t : Int} {i a : Nat} (ho : kOk t i a) (ty : TypeId) :
    ∃ w', (Builtin.delete_ #[84, 25] ty #[.map (some r), keyA t i a]).run Try.prog w = .ok (.tuple #[]) w' ∧ DbK w' b r N (if (M t i a).isSome then n - 1 else n) (updK K t i a none) (updM M t i a none) ∧ Keeps (fun i => i = r) w w' ∧ w'.heap.size = w.heap.size := by
  obtain ⟨w', e1, e2, e3, e4⟩ := h.map.del ho ty
  refine ⟨w', e1, ⟨h.blk.keep e3 h.ne, by rw [← (h.val _ _ _ ho).some_iff]; exact e2, fun t2 i2 a2 ho2 => ?_⟩, e3, e4⟩
  unfold updK updM
  split
  · exact rfl
  · exact (h.val t2 i2 a2 ho2).keep e3 (fun i cur t x hc => map_not_cells h.map i cur t x hc)
end Go.Proofs.Ytdaongflpllfhaa
/- Count of a Db of whatever Lsas. -/
set_option linter.unusedVariables false
set_option linter.unusedSimpArgs false
namespace Go.Proofs.Ytdaongflpllfhaa
open Go.RowKit

theorem ldCount_g (b r N n : Nat) (K : KMap) (M : LMap) (w : World) (h : Hid (DbK w b r N n K M)) : Calls Try.prog 14 #[.pointer (some ⟨b, 0, none⟩)] w fun e w' => e = .returned (.int .i64 n) ∧ w = w' := by
  have c0 := h.out.blk.cell 0 _ rfl
  have hl := fun ty => h.out.map.len ty
  go_enter Try.func14, Try.ntmps14
  go_wp2_with fail
  go_ret
  exact ⟨rfl, rfl⟩
/-- what a map tells for a key, as a struct -/
theorem val_cells {w : World} {v : Option Value} {l : Option LsaD} (h : ValK w v l) : ∃ cs : List Value, v.getD zeroLsa = .agg cs.toArray ∧ cs.length = 9 ∧ cs.toArray.all (·.oneCell') = true := by
  cases l with
  | none =>
    have h : v = none := h
    subst h
    exact ⟨[.int .i64 0, .int .i64 0, .int .u32 0, .int .u32 0, .int .i64 0, .slice none 0 0, .int .u32 0, .slice none 0 0, .int .i64 0], rfl, rfl, lsaRow_oneK ⟨⟨0, 0, 0, 0, 0, [], 0, [], 0⟩, none, 0, none, 0⟩⟩
  | some d =>
    obtain ⟨m, rfl, -, -⟩ := h
    exact ⟨lsaRow m, rfl, rfl, lsaRow_oneK m⟩
end Go.Proofs.Ytdaongflpllfhaa
