/- slices.AppendSeq at keys of Lsas, against whatever iterator that tells its elements. -/
import Derived.Test.YtdaongflpllfhaaLS10
import Derived.Shelf.Abstract
import Derived.RangeFuncLeaves
import Derived.RangeFuncRecord
import Derived.Shelf.SlGeneric
import Derived.Shelf.SlSortCmp.NoneTotal
import Derived.Ground.SlsfProg
import Derived.Test.YtdaongflpllfhaaProg
import Derived.Test.YtdaongflpllfhaaLS09
import Derived.Carry
set_option linter.unusedVariables false
set_option linter.unusedSimpArgs false
set_option linter.unusedVariables false
set_option linter.unusedSimpArgs false
namespace Go.Proofs.Ytdaongflpllfhaa
open Go.RowKit Go.Maps Go.Shelf

theorem keysGive (F : Fence) (n : Nat) (h10 : F.fn 93) (hro : F.round = none) (hn : 1 ≤ n) (Bm b N n0 : Nat) (K : KMap) (w : World) (hBm : Bm < w.heap.size) (hm : w.cell? ⟨Bm, 0, none⟩ = some (.map (some b))) (hK : KAt w b N K n0) :
    SeqGives F n Try.prog 93 #[.pointer (some ⟨Bm, 0, none⟩)] encK (KeysOfM K) n0 w := fun l J W hW hJ hY h0 => by
  have hK' : KAt W b N K n0 := by
    have hbl := hK.lt
    obtain ⟨D, ⟨es, clock, hb, Ft, hs, hD⟩, h2⟩ := hK
    exact ⟨D, ⟨es, clock, (hW.block b hbl).trans hb, Ft, hs, hD⟩, h2⟩
  exact keys1K_in F n h10 hro hn l Bm b N n0 K J hY W hJ ((hW.cell (p := ⟨Bm, 0, none⟩) hBm).trans hm) hK' h0
def kV (x : K3) : List Value := [.int .i64 x.1, .int .u32 x.2.1, .int .u32 x.2.2]
theorem kV_len (x : K3) : (kV x).length = 3 := rfl
def apAssignK : Code := Code.region 2 #[{ dst := some 5, op := Op.alloc 25, type := 0, pos := "iter.go:51", after := #[], guard := none }, { dst := none, op := Op.store 25 (Operand.tmp 5) (Operand.tmp 7), type := 0, pos := "iter.go:51", after := #[{ on := 0, ground := Ground.data }, { on := 0, ground := Ground.phase }], guard := none }] false
def apBodyK : Code := Code.block 1 (Code.region 3 #[{ dst := some 8, op := Op.load 39 (Operand.tmp 2), type := 39, pos := "iter.go:52", after := #[], guard := none }, { dst := some 9, op := Op.load 25 (Operand.tmp 5), type := 25, pos := "iter.go:52", after := #[], guard := none }, { dst := some 10, op := Op.buildSlice 39 1 #[(0, Operand.tmp 9)], type := 39, pos := "iter.go:52", after := #[{ on := 1, ground := Ground.data }], guard := none }, { dst := some 11, op := Op.call { callee := Callee.builtin Builtin.append, args := #[Operand.tmp 8, Operand.tmp 10], argTypes := #[39, 39] }, type := 39, pos := "iter.go:52", after := #[{ on := 0, ground := Ground.data }, { on := 2, ground := Ground.data }], guard := none }, { dst := none, op := Op.store 39 (Operand.tmp 2) (Operand.tmp 11), type := 0, pos := "iter.go:52", after := #[{ on := 3, ground := Ground.data }, { on := 3, ground := Ground.chain }, { on := 0, ground := Ground.phase }, { on := 1, ground := Ground.phase }, { on := 2, ground := Ground.phase }, { on := 3, ground := Ground.phase }], guard := none }] false)
def apRecK (fn : FuncId) (sv : Value) (Bs D : Nat) (st : LoopState) : Loop :=
  { state := st, pending := none, fn, tmps := #[.slice none 0 0, sv, .pointer (some ⟨Bs, 0, none⟩), undef, .slice none 0 0, undef, sv, undef, undef, undef, undef, undef, undef], params := #[7], assign := apAssignK, body := apBodyK, defers := D }
/-- between two rounds -/
structure ApAtK (w0 : World) (fn : FuncId) (sv : Value) (Bs l D : Nat) (ss : List K3) (W : World) : Prop where
  box : ∃ v, BlkAt W Bs 39 [v] ∧ OwnR 25 3 kV w0 W v ss
  L : W.heap[l]? = some (.loop (apRecK fn sv Bs D .ready))
  K : W.heap[D]? = some (.deferred (some []))
  below : Below w0.heap.size w0 W
theorem keep_putK (W : World) (l : Nat) (o : Obj) : Keeps (fun i => i = l) W (W.putObj l o) :=
  ⟨rfl, rfl, rfl, by simp, fun i hi hn => World.putObj_heap_other hn⟩
theorem grownBy_putK (W : World) (l : Nat) (o : Obj) : W.grownBy (W.putObj l o) (some l) :=
  ⟨rfl, rfl, rfl, by simp, fun i hi hn => World.putObj_heap_other (fun e => hn (by rw [e]))⟩
theorem OwnR.tyK {w0 w : World} {v : Value} {xs : List K3} (h : OwnR 25 3 kV w0 w v xs) (k : Nat) (e : v.ownBlock = some k) : ∃ cur, w.heap[k]? = some (.cells cur 25 (0, 0)) := by
  rcases h.1.2 with ⟨e1, _⟩ | ⟨g, cap, cur, he, _, hg, _⟩
  · rw [e1] at e; simp [Value.ownBlock] at e
  · rw [he] at e
    have e : some g = some k := e
    injection e with e; subst e; exact ⟨cur, hg⟩
theorem OwnR.neK {w0 w : World} {v : Value} {xs : List K3} (h : OwnR 25 3 kV w0 w v xs) {j : Nat} {o : Obj} (hj : w.heap[j]? = some o) (ho : ∀ cur, o ≠ .cells cur 25 (0, 0)) : ¬ v.ownBlock = some j := fun e => by
  obtain ⟨cur, h1⟩ := h.tyK j e
  rw [h1] at hj
  injection hj with hj
  exact ho cur hj.symm
theorem keyAllK : ∃ i, Try.prog.info? 25 = some i ∧ i.zero = some (.agg #[.int .i64 0, .int .u32 0, .int .u32 0]) ∧ i.size = 3 ∧ i.bytes = 16 := by
  have h : (Try.prog.info? 25).map (fun i => (i.zero, i.size, i.bytes)) = some (some (.agg #[.int .i64 0, .int .u32 0, .int .u32 0]), 3, 16) := by kernel_rfl
  obtain ⟨i, hi, e⟩ := Option.map_eq_some_iff.1 h
  injection e with e1 e; injection e with e2 e3
  exact ⟨i, hi, e1, e2, e3⟩
theorem wpListIn_append_rK {F : Fence} {n : Nat} {ops : Array Oper} {rest : List Oper} {o : Oper} {a : Act} {w : World} {Q : Exit → Act → World → Prop} (hg : o.guard = none) (s x : Operand)
    (hop : o.op = Op.call { callee := Callee.builtin Builtin.append, args := #[s, x], argTypes := #[39, 39] }) (w0 : World) (v : Value) (xs : List K3) (hs : a.eval s = v) (hown : OwnR 25 3 kV w0 w v xs) (ad : Addr) (hx : a.eval x = .slice (some ad) 1 1) (l : K3)
    (hl : ∀ j u, (kV l)[j]? = some u → w.cell? (ad.add j) = some u) (hsz : xs.length ≤ 1000000000)
    (hK : ∀ p c w', OwnR 25 3 kV w0 w' (.slice p (xs.length + 1) c) (xs ++ [l]) → Grown w v p (xs.length + 1) c w' → wpListIn F n Try.prog ops Q rest (a.put o.dst (.slice p (xs.length + 1) c)) w') : wpListIn F n Try.prog ops Q (o :: rest) a w := by
  obtain ⟨i, hi, hz, hsize, hby⟩ := keyAllK
  obtain ⟨v', w', hr, h2, h3, h4⟩ := run_append_sep (P := Try.prog) w 39 o.type 25 i _ 3 16 Try.underlying39 hi hz hsize hby rfl (by decide) v xs.length (rowCells kV xs) hown.1 ad 1 1 (kV l) (by rw [kV_len]) hl (fun u hu => by
    unfold kV at hu
    simp only [List.mem_cons, List.not_mem_nil, or_false] at hu
    rcases hu with rfl | rfl | rfl <;> rfl) (by unfold maxLen; omega) (by omega)
  obtain ⟨p, c, rfl⟩ := ownsRow_slice h2
  refine wpListIn_plain hg fun K hK' => ?_
  unfold Oper.wpIn
  refine ⟨?_, ?_⟩
  · simp [Oper.about, hop, resolve, Target.leads, Sem.run_pure]
  · rw [Oper.semAt_plain F _ _ (by rw [hop]; intro c hc'; cases hc')]
    simp [execOp, hop, resolve, invoke, builtin, hs, hx, hr, Result.andThen]
    refine hK' _ _ (hK p c w' ⟨by rw [rowCells_snoc]; simpa using h2, fun k e => ?_, Nat.le_trans hown.2.2 h3.size⟩ ⟨(Keeps.refl _ _).grown h3 (fun k e => .inl e), h4⟩)
    rcases h4 k e with e | e
    · exact hown.2.1 k e
    · exact Nat.le_trans hown.2.2 e
set_option maxRecDepth 100000 in
set_option maxHeartbeats 4000000 in
theorem apYieldK (F : Fence) (m : Nat) (w0 : World) (fn : FuncId) (hfn : F.fn fn) (sv : Value) (Bs l D : Nat) (hBl : Bs ≠ l) (hDl : D ≠ l) (hDB : D ≠ Bs) (h0B : w0.heap.size ≤ Bs) (h0l : w0.heap.size ≤ l) (ss : List K3) (x : K3) (W : World) (h : ApAtK w0 fn sv Bs l D ss W) (hlen : ss.length < 1000000) :
    YieldAt F m Try.prog l #[encK x] W fun e W' => e = .returned (.bool true) ∧ ApAtK w0 fn sv Bs l D (ss ++ [x]) W' ∧ KeepsWalks W W' := by
  obtain ⟨v, hv, hrow⟩ := h.box
  refine ⟨fn, #[.slice none 0 0, sv, .pointer (some ⟨Bs, 0, none⟩), undef, .slice none 0 0, undef, sv, encK x, undef, undef, undef, undef, undef], apAssignK, apBodyK, by simpa [apRecK] using run_yield (P := Try.prog) (args := #[encK x]) h.L rfl, roundIn_of_wpIn hfn ?_⟩
  have hl : l < W.heap.size := (Array.getElem?_eq_some_iff.1 h.L).1
  obtain ⟨t, i, a⟩ := x
  have ex : encK (t, i, a) = .agg #[.int .i64 t, .int .u32 i, .int .u32 a] := rfl
  rw [ex]
  clear ex
  have k1 := (Keeps.refl (fun _ => False) W).alloc (.cells #[.int .i64 t, .int .u32 i, .int .u32 a] 25)
  have hBn : BlkAt (W.alloc (.cells #[.int .i64 t, .int .u32 i, .int .u32 a] 25)) W.heap.size 25 [.int .i64 t, .int .u32 i, .int .u32 a] := BlkAt.new W 25 [.int .i64 t, .int .u32 i, .int .u32 a]
  have hs1 : (W.alloc (.cells #[.int .i64 t, .int .u32 i, .int .u32 a] 25)).heap.size = W.heap.size + 1 := by simp
  have hw1 : KeepsWalks W (W.alloc (.cells #[.int .i64 t, .int .u32 i, .int .u32 a] 25)) := KeepsWalks.alloc _ _
  have hL1 : (W.alloc (.cells #[.int .i64 t, .int .u32 i, .int .u32 a] 25)).heap[l]? = some (.loop (apRecK fn sv Bs D .ready)) := (k1.block l hl id).trans h.L
  unfold apAssignK
  gi_wp2_with (first
    | (refine wpListIn_store_newK rfl 25 (.tmp 5) (.tmp 7) rfl _ #[.int .i64 t, .int .u32 i, .int .u32 a] rfl rfl keyInfoK rfl (key_oneK _ _ _) ?_)
    | (rw [Oper.semAt_eq _ _ _ (fun c h => by cases h)]; go_simp; try go_bits))
  obtain ⟨b5, hb5⟩ : ∃ b, W.heap.size = b := ⟨_, rfl⟩
  rw [hb5] at hBn hs1 ⊢
  have hv1 := hv.keep k1 id
  have hrow1 := hrow.keep k1 (fun _ _ f => f)
  have hD1 := (k1.block D (Array.getElem?_eq_some_iff.1 h.K).1 id).trans h.K
  have hbl1 : Below w0.heap.size w0 (W.alloc (.cells #[.int .i64 t, .int .u32 i, .int .u32 a] 25)) := h.below.alloc h.below.size _
  have hlb : l ≠ b5 := by omega
  have hBb : Bs ≠ b5 := by have := lt_of_block hv; omega
  have hDb : D ≠ b5 := by have := (Array.getElem?_eq_some_iff.1 h.K).1; omega
  generalize W.alloc (.cells #[.int .i64 t, .int .u32 i, .int .u32 a] 25) = W1 at hBn hs1 hw1 hL1 hv1 hrow1 hD1 hbl1 ⊢
  have hl1 : l < W1.heap.size := by omega
  obtain ⟨W2, hW2⟩ : ∃ W2, W1.putObj l (.loop { apRecK fn sv Bs D .ready with state := .busy }) = W2 := ⟨_, rfl⟩
  have hbr := run_beginRound (P := Try.prog) hL1 rfl
  rw [hW2] at hbr
  have k2 : Keeps (fun i => i = l) W1 W2 := by rw [← hW2]; exact keep_putK _ _ _
  have hk2 : KeepsWalks W1 W2 := by rw [← hW2]; exact KeepsWalks.putObj _ hL1 rfl
  have hv2 : BlkAt W2 Bs 39 [v] := hv1.keep k2 hBl
  have hD2 : W2.heap[D]? = some (.deferred (some [])) := (k2.block D (Array.getElem?_eq_some_iff.1 hD1).1 hDl).trans hD1
  have hL2 : W2.heap[l]? = some (.loop (apRecK fn sv Bs D .busy)) := by rw [← hW2]; exact World.putObj_heap_same hl1
  have hrow2 : OwnR 25 3 kV w0 W2 v ss := hrow1.keep k2 (fun i e e2 => hrow1.neK hL1 (fun cur e => by cases e) (by rw [e, e2]))
  have hB2 : BlkAt W2 b5 25 [.int .i64 t, .int .u32 i, .int .u32 a] := hBn.keep k2 (fun e => hlb e.symm)
  have hbl2 : Below w0.heap.size w0 W2 := hbl1.grown (by rw [← hW2]; exact grownBy_putK _ _ _) hbl1.size (fun k e => by cases e; exact h0l)
  refine ⟨W2, hbr, ?_⟩
  clear hbr hW2 hL1 hv1 hrow1 hD1 hbl1 hBn k2
  have kA := (Keeps.refl (fun _ => False) W2).alloc (.cells #[.int .i64 t, .int .u32 i, .int .u32 a] 25)
  have hrowA := hrow2.keep kA (fun _ _ f => f)
  have hcn : ∀ j u, (kV (t, i, a))[j]? = some u → (W2.alloc (.cells #[.int .i64 t, .int .u32 i, .int .u32 a] 25)).cell? ((⟨W2.heap.size, 0, none⟩ : Addr).add j) = some u := cells_new (w := W2) rfl (kV (t, i, a)) 25
  have c0 := hv2.cell 0 _ rfl
  unfold apBodyK
  gi_wp2_with (first
    | (refine wpListIn_load_midK rfl 25 (.tmp 5) rfl b5 0 rfl [.int .i64 t, .int .u32 i, .int .u32 a] _ hB2.range Try.underlying25 rfl keyInfoK ?_)
    | (gi_at_builtin; refine wpListIn_append_rK rfl (.tmp 8) (.tmp 10) rfl w0 v ss rfl hrowA _ rfl (t, i, a) hcn (by omega) ?_; intro q8 d8 w8 hO8 hg8; have hv8 := (hv2.keep kA id).keep hg8.k (hrowA.neK (hv2.keep kA id) (fun cur e => by cases e)); have c8 := hv8.cell 0 _ rfl; have f8 := hv8.frozen 0)
    | (rw [Oper.semAt_eq _ _ _ (fun c h => by cases h)]; go_simp; try go_bits))
  have hwk : ∀ {X Y : World} {G : Nat → Prop}, Keeps G X Y → (∀ k o, X.heap[k]? = some o → o.isWalk = true → ¬ G k) → KeepsWalks X Y := fun k hg => ⟨k.size, fun i o hi hw => (k.block i (Array.getElem?_eq_some_iff.1 hi).1 (hg i o hi hw)).trans hi⟩
  have hlA : (W2.alloc (.cells #[.int .i64 t, .int .u32 i, .int .u32 a] 25)).heap[l]? = some (.loop (apRecK fn sv Bs D .busy)) := (kA.block l (Array.getElem?_eq_some_iff.1 hL2).1 id).trans hL2
  have hDA : (W2.alloc (.cells #[.int .i64 t, .int .u32 i, .int .u32 a] 25)).heap[D]? = some (.deferred (some [])) := (kA.block D (Array.getElem?_eq_some_iff.1 hD2).1 id).trans hD2
  have hL8 : w8.heap[l]? = some (.loop (apRecK fn sv Bs D .busy)) := (hg8.k.block l (Array.getElem?_eq_some_iff.1 hlA).1 (hrowA.neK hlA (fun cur e => by cases e))).trans hlA
  have hD8 : w8.heap[D]? = some (.deferred (some [])) := (hg8.k.block D (Array.getElem?_eq_some_iff.1 hDA).1 (hrowA.neK hDA (fun cur e => by cases e))).trans hDA
  have hw8 : KeepsWalks W w8 := ((hw1.trans hk2).trans (hwk kA (fun _ _ _ _ => id))).trans (hwk hg8.k (fun k o ho hw e => by
    obtain ⟨cur, h1⟩ := hrowA.tyK k e
    rw [h1] at ho
    injection ho with ho
    subst ho
    cases hw))
  have hb8 : Below w0.heap.size w0 w8 := (hbl2.alloc hbl2.size _).trans (hg8.k.below (by have := hbl2.size; simp; omega) (fun k e => hrowA.2.1 k e))
  obtain ⟨W4, hW4⟩ : ∃ X, w8.setCell ⟨Bs, 0, none⟩ (.slice q8 (ss.length + 1) d8) = X := ⟨_, rfl⟩
  have k4 : Keeps (fun i => i = Bs) w8 W4 := by rw [← hW4]; exact Keeps.setCell (F := fun i => i = Bs) (Keeps.refl _ _) (.inl rfl) _
  have hv4 : BlkAt W4 Bs 39 [.slice q8 (ss.length + 1) d8] := by rw [← hW4]; exact hv8.set 0 _
  have hrow4 : OwnR 25 3 kV w0 W4 (.slice q8 (ss.length + 1) d8) (ss ++ [(t, i, a)]) := hO8.keep k4 (fun j e e2 => hO8.neK hv8 (fun cur e => by cases e) (by rw [e, e2]))
  have hL4 : W4.heap[l]? = some (.loop (apRecK fn sv Bs D .busy)) := (k4.block l (Array.getElem?_eq_some_iff.1 hL8).1 (fun e => hBl e.symm)).trans hL8
  have hD4 : W4.heap[D]? = some (.deferred (some [])) := (k4.block D (Array.getElem?_eq_some_iff.1 hD8).1 hDB).trans hD8
  have hw4 : KeepsWalks W W4 := hw8.trans (by rw [← hW4]; exact KeepsWalks.setCell _ _ _)
  have hb4 : Below w0.heap.size w0 W4 := hb8.trans (k4.below (hb8.size) (fun k e => by rw [e]; exact h0B))
  rw [hW4]
  have k5 := keep_putK W4 l (.loop (apRecK fn sv Bs D .ready))
  refine ⟨_, _, run_endRound none hL4, rfl, ⟨⟨_, hv4.keep k5 hBl, hrow4.keep k5 (fun j e e2 => hrow4.neK hL4 (fun cur e => by cases e) (by rw [e, e2]))⟩, World.putObj_heap_same (Array.getElem?_eq_some_iff.1 hL4).1, (k5.block D (Array.getElem?_eq_some_iff.1 hD4).1 hDl).trans hD4, hb4.trans (k5.below hb4.size (fun k e => by rw [e]; exact h0l))⟩, hw4.trans (KeepsWalks.putObj _ hL4 rfl)⟩
end Go.Proofs.Ytdaongflpllfhaa
/- slices.AppendSeq, Collect at keys of Lsas; maps.Keys. -/
set_option linter.unusedVariables false
set_option linter.unusedSimpArgs false
namespace Go.Proofs.Ytdaongflpllfhaa
open Go.RowKit Go.Maps Go.Shelf

theorem keep_rowK {W W' : World} {row : Option Nat} (hg : W.grownBy W' row) : Keeps (fun i => row = some i) W W' := ⟨hg.os, hg.tape, hg.output, hg.size, fun k hk hn => hg.block k hk (fun e => hn e.symm)⟩
theorem apAbidesK (w0 : World) (fn : FuncId) (sv : Value) (Bs l D B : Nat) (hB : w0.heap.size ≤ B) : AbidesFrom B (ApAtK w0 fn sv Bs l D) := fun s W W' row h hg hrow => by
  have hrow' : ∀ r, row = some r → ∃ o : Obj, W.heap[r]? = some o ∧ o.isWalk = true := fun r e => (hrow r e).2
  obtain ⟨v, hv, hr⟩ := h.box
  have k := keep_rowK hg
  refine ⟨⟨v, (grownBy_keeps hg hrow' hv rfl).trans hv, hr.keep k (fun i e e2 => ?_)⟩, (grownBy_keeps hg hrow' h.L rfl).trans h.L, (grownBy_keeps hg hrow' h.K rfl).trans h.K, h.below.grown hg h.below.size (fun k e => Nat.le_trans hB (hrow k e).1)⟩
  obtain ⟨cur, h1⟩ := hr.tyK i e
  obtain ⟨o, h2, h3⟩ := hrow' i e2
  rw [h1] at h2
  injection h2 with h2
  subst h2
  cases h3
set_option maxRecDepth 100000 in
set_option maxHeartbeats 4000000 in
theorem appendSeqK_in (F : Fence) (n : Nat) (h11 : F.fn 112) (hro : F.round = none) (hn : 2 ≤ n) (g : Nat) (lb : Array Value) (hFg : F.fn g) (eg : ∀ args w, (callFunc g args).run Try.prog w = .ok (.enter g args) w)
    (S : List K3 → Prop) (N : Nat) (hN : N ≤ 1000000) (w : World) (hseq : SeqGives F (n - 1) Try.prog g lb encK S N w) :
    CallsIn F n Try.prog 112 #[.slice none 0 0, .func (.func g) #[] lb] w fun e w' => ∃ (v : Value) (ss : List K3), e = .returned v ∧ S ss ∧ OwnR 25 3 kV w w' v ss ∧ Below w.heap.size w w' := by
  have h1 : 1 ≤ n := by omega
  refine callsIn_of_wp_marks Try.func112 rfl h11 ?_ hro
  simp only [Try.ntmps112, List.size_toArray, List.length_cons, List.length_nil, Nat.reduceAdd, Nat.reduceSub, Array.replicate_succ, Array.replicate_zero, List.push_toArray, List.append_toArray, List.nil_append, List.cons_append]
  gi_wp2
  refine wpIn_rangeFunc ?_
  intro fn hfn
  rw [hro]
  obtain ⟨W0, hW0⟩ : ∃ W0, w.alloc (.cells #[.slice none 0 0] 39) = W0 := ⟨_, rfl⟩
  have hs0 : W0.heap.size = w.heap.size + 1 := by rw [← hW0]; simp
  have hv0 : BlkAt W0 w.heap.size 39 [.slice none 0 0] := by rw [← hW0]; exact BlkAt.new w 39 [.slice none 0 0]
  have hb0 : Below w.heap.size w W0 := by rw [← hW0]; exact (Below.refl _ w).alloc (Nat.le_refl _) _
  rw [hW0]
  obtain ⟨W1, hW1⟩ : ∃ W1, (W0.alloc (.deferred (some []))).alloc (.loop (apRecK fn (.func (.func g) #[] lb) w.heap.size W0.heap.size .ready)) = W1 := ⟨_, rfl⟩
  have k01 : Keeps (fun _ => False) W0 W1 := by rw [← hW1]; exact ((Keeps.refl (fun _ => False) W0).alloc _).alloc _
  have hb1 : Below w.heap.size w W1 := by rw [← hW1]; exact (hb0.alloc hb0.size _).alloc (by have := hb0.size; simp; omega) _
  have hs1 : W1.heap.size = W0.heap.size + 2 := by rw [← hW1]; simp
  have hM : ApAtK w fn (.func (.func g) #[] lb) w.heap.size (W0.heap.size + 1) W0.heap.size [] W1 :=
    ⟨⟨_, hv0.keep k01 id, OwnR.nil _ _ (by omega)⟩,
     by rw [← hW1]; have := World.alloc_heap_new (W0.alloc (.deferred (some []))) (.loop (apRecK fn (.func (.func g) #[] lb) w.heap.size W0.heap.size .ready)); rwa [World.size_alloc] at this,
     by rw [← hW1]; exact (Below.heap_alloc _ _ _ (by simp)).trans (World.alloc_heap_new W0 _), hb1⟩
  refine ⟨W0.heap.size + 1, [{ target := .collected W0.heap.size, args := #[] }], W1, { target := .fn (.func g) lb, args := #[.func (.yield (W0.heap.size + 1)) #[] #[]] }, W1, g,
    #[.func (.yield (W0.heap.size + 1)) #[] #[]] ++ lb, W1, ?_, ?_, ?_, ?_, fun _ => h1, ?_⟩
  · rw [← hW1]; exact run_enterLoop_outer _ _ _ _ _
  · simp [resolve, go_sem]
  · intro f' hf'; simp [Target.leads] at hf'; subst hf'; exact hFg
  · simp [invoke, go_sem, eg]
  · refine (hseq (W0.heap.size + 1) (ApAtK w fn (.func (.func g) #[] lb) w.heap.size (W0.heap.size + 1) W0.heap.size) W1 hb1 (apAbidesK _ _ _ _ _ _ _ hb1.size)
      (fun pre x W hJ hl => apYieldK F (n - 1 - 1) w fn hfn _ w.heap.size (W0.heap.size + 1) W0.heap.size (by omega) (by omega) (by omega) (Nat.le_refl _) (by omega) pre x W hJ (by omega)) hM).mono ?_
    rintro e W2 ⟨⟨v0, rfl⟩, ss, hS, h2⟩
    obtain ⟨v, hv, hrow⟩ := h2.box
    have hend := run_endLoop (P := Try.prog) h2.L (by simp [apRecK])
    obtain ⟨W3, hW3⟩ : ∃ W3, W2.putObj (W0.heap.size + 1) (.loop { apRecK fn (.func (.func g) #[] lb) w.heap.size W0.heap.size .ready with state := .exhausted }) = W3 := ⟨_, rfl⟩
    rw [hW3] at hend
    have k3 : Keeps (fun i => i = W0.heap.size + 1) W2 W3 := by rw [← hW3]; exact keep_putK _ _ _
    have hv3 : BlkAt W3 w.heap.size 39 [v] := hv.keep k3 (by omega)
    have hK3 : W3.heap[W0.heap.size]? = some (.deferred (some [])) := (k3.block _ (Array.getElem?_eq_some_iff.1 h2.K).1 (by omega)).trans h2.K
    have hrow3 := hrow.keep k3 (fun i e e2 => hrow.neK h2.L (fun cur e => by cases e) (by rw [e, e2]))
    have hb3 : Below w.heap.size w W3 := h2.below.trans (k3.below h2.below.size (fun k e => by omega))
    have hc3 := hv3.cell 0 _ rfl
    clear hW3
    refine ⟨none, W3, hend, ?_⟩
    gi_wp2
    rw [← hs0]
    refine ⟨by simp, .inl ⟨_, _, rfl, run_takeDeferred hK3, ?_⟩⟩
    have k4 := keep_putK W3 W0.heap.size (.deferred none)
    exact ⟨_, results_tmp rfl _ _ _, v, ss, rfl, hS, hrow3.keep k4 (fun i e e2 => hrow3.neK hK3 (fun cur e => by cases e) (by rw [e, e2])), hb3.trans (k4.below hb3.size (fun k e => by omega))⟩
end Go.Proofs.Ytdaongflpllfhaa
/- slices.Collect at keys of Lsas; maps.Keys. -/
set_option linter.unusedVariables false
set_option linter.unusedSimpArgs false
namespace Go.Proofs.Ytdaongflpllfhaa
open Go.RowKit Go.Maps Go.Shelf

theorem entersK1 (args : Array Value) (w : World) : (callFunc 93 args).run Try.prog w = .ok (.enter 93 args) w := by
  exact enters_of Try.func93 (by kernel_rfl) rfl args w
set_option maxRecDepth 100000 in
set_option maxHeartbeats 1000000 in
theorem collectK_in (F : Fence) (n : Nat) (h8 : F.fn 91) (h11 : F.fn 112) (hro : F.round = none) (hn : 3 ≤ n) (g : Nat) (lb : Array Value) (hFg : F.fn g) (eg : ∀ args w, (callFunc g args).run Try.prog w = .ok (.enter g args) w)
    (S : List K3 → Prop) (N : Nat) (hN : N ≤ 1000000) (w : World) (hseq : SeqGives F (n - 1 - 1) Try.prog g lb encK S N w) :
    CallsIn F n Try.prog 91 #[.func (.func g) #[] lb] w fun e w' => ∃ (v : Value) (ss : List K3), e = .returned v ∧ S ss ∧ OwnR 25 3 kV w w' v ss ∧ Below w.heap.size w w' := by
  have h1 : 1 ≤ n := by omega
  refine callsIn_of_wp Try.func91 rfl h8 ?_ hro
  simp only [Try.ntmps91, List.size_toArray, List.length_cons, List.length_nil, Nat.reduceAdd, Nat.reduceSub, Array.replicate_succ, Array.replicate_zero, List.push_toArray, List.append_toArray, List.nil_append, List.cons_append]
  gi_wp2_with fail
  refine (appendSeqK_in F (n - 1) h11 hro (by omega) g lb hFg eg S N hN _ hseq).mono ?_
  rintro e w' ⟨v, ss, rfl, hS, hrow, hb⟩
  gi_wp2
  go_ret
  exact ⟨v, ss, rfl, hS, hrow, hb⟩
set_option maxHeartbeats 1000000 in
theorem mapsKeysK_in (F : Fence) (n : Nat) (h7 : F.fn 58) (hro : F.round = none) (mb : Option Nat) (w : World) :
    CallsIn F n Try.prog 58 #[.map mb] w fun e w' => e = .returned (.func (.func 93) #[] #[.pointer (some ⟨w.heap.size, 0, none⟩)]) ∧ w' = w.alloc (.cells #[.map mb] 84) := by
  refine callsIn_of_wp Try.func58 rfl h7 ?_ hro
  simp only [Try.ntmps58, List.size_toArray, List.length_cons, List.length_nil, Nat.reduceAdd, Nat.reduceSub, Array.replicate_succ, Array.replicate_zero, List.push_toArray, List.append_toArray, List.nil_append, List.cons_append]
  gi_wp2
  go_ret
  exact ⟨rfl, rfl⟩
/-- slices.Collect(maps.Keys(m)), as a call like any other -/
theorem mapsKeysK_any (mb : Option Nat) (w : World) : Calls Try.prog 58 #[.map mb] w fun e w' => e = .returned (.func (.func 93) #[] #[.pointer (some ⟨w.heap.size, 0, none⟩)]) ∧ w' = w.alloc (.cells #[.map mb] 84) :=
  (callsIn_wide (n := 6)).1 (mapsKeysK_in Fence.wide 6 trivial rfl mb w)
theorem collectK_any (Bm b N n0 : Nat) (K : KMap) (hN : n0 ≤ 1000000) (w : World) (hm : w.cell? ⟨Bm, 0, none⟩ = some (.map (some b))) (hK : KAt w b N K n0) :
    Calls Try.prog 91 #[.func (.func 93) #[] #[.pointer (some ⟨Bm, 0, none⟩)]] w fun e w' => ∃ (v : Value) (ss : List K3), e = .returned v ∧ KeysOfM K ss ∧ OwnR 25 3 kV w w' v ss ∧ Below w.heap.size w w' :=
  (callsIn_wide (n := 6)).1 (collectK_in Fence.wide 6 trivial trivial rfl (by omega) _ _ trivial entersK1 _ n0 hN w (keysGive Fence.wide _ trivial rfl (by omega) Bm b N n0 K w (World.block_lt_of_cell? _ _ hm) hm hK))
end Go.Proofs.Ytdaongflpllfhaa
/- slices.SortFunc at keys of Lsas, laid in plain words by lay-plain.mjs: its numbers made names. -/
namespace Go.Proofs.Ytdaongflpllfhaa
open Go.Shelf
def Try.sortKeysK_ren : Go.Shelf.Ren := ⟨fun | 6 => 92 | 15 => 114 | 14 => 113 | 28 => 127 | 29 => 128 | 20 => 119 | 21 => 120 | 22 => 121 | 23 => 122 | 24 => 123 | 25 => 124 | 26 => 125 | 27 => 126 | 46 => 130 | 47 => 131 | 48 => 132 | 49 => 133 | 50 => 134 | 57 => 135 | n => n, fun | 22 => 39 | 24 => 25 | 25 => 101 | 3 => 3 | 39 => 140 | 0 => 0 | 53 => 23 | 55 => 51 | 4 => 4 | 46 => 179 | 45 => 178 | 50 => 183 | 5 => 5 | 9 => 9 | 66 => 188 | 70 => 192 | 76 => 194 | 77 => 168 | n => n, fun | n => n⟩
theorem Try.sortKeysK : Go.Proofs.SlLaysF0.n6 Try.prog Try.sortKeysK_ren := {
  mixed := by kernel_rfl
  f6 := ⟨Try.f92.name, by decide, Try.func92.trans (congrArg some (by kernel_rfl))⟩
  f14 := ⟨Try.f113.name, by decide, Try.func113.trans (congrArg some (by kernel_rfl))⟩
  f15 := Try.func114.trans (congrArg some (by kernel_rfl))
  f20 := ⟨Try.f119.name, by decide, Try.func119.trans (congrArg some (by kernel_rfl))⟩
  f21 := ⟨Try.f120.name, by decide, Try.func120.trans (congrArg some (by kernel_rfl))⟩
  f22 := ⟨Try.f121.name, by decide, Try.func121.trans (congrArg some (by kernel_rfl))⟩
  f23 := ⟨Try.f122.name, by decide, Try.func122.trans (congrArg some (by kernel_rfl))⟩
  f24 := ⟨Try.f123.name, by decide, Try.func123.trans (congrArg some (by kernel_rfl))⟩
  f25 := ⟨Try.f124.name, by decide, Try.func124.trans (congrArg some (by kernel_rfl))⟩
  f26 := ⟨Try.f125.name, by decide, Try.func125.trans (congrArg some (by kernel_rfl))⟩
  f27 := ⟨Try.f126.name, by decide, Try.func126.trans (congrArg some (by kernel_rfl))⟩
  f28 := Try.func127.trans (congrArg some (by kernel_rfl))
  f29 := Try.func128.trans (congrArg some (by kernel_rfl))
  f46 := ⟨Try.f130.name, by decide, Try.func130.trans (congrArg some (by kernel_rfl))⟩
  f47 := Try.func131.trans (congrArg some (by kernel_rfl))
  f48 := Try.func132.trans (congrArg some (by kernel_rfl))
  f49 := ⟨Try.f133.name, by decide, Try.func133.trans (congrArg some (by kernel_rfl))⟩
  f50 := ⟨Try.f134.name, by decide, Try.func134.trans (congrArg some (by kernel_rfl))⟩
  f57 := ⟨Try.f135.name, by decide, Try.func135.trans (congrArg some (by kernel_rfl))⟩
  t0 := Try.underlying0
  a0 := Try.isAgg0
  z0 := Try.sizeOf0
  v0 := Try.zeroValue0
  t3 := Try.underlying3
  a3 := Try.isAgg3
  z3 := Try.sizeOf3
  v3 := Try.zeroValue3
  t4 := Try.underlying4
  a4 := Try.isAgg4
  z4 := Try.sizeOf4
  v4 := Try.zeroValue4
  t5 := Try.underlying5
  a5 := Try.isAgg5
  z5 := Try.sizeOf5
  v5 := Try.zeroValue5
  t9 := Try.underlying9
  a9 := Try.isAgg9
  z9 := Try.sizeOf9
  v9 := Try.zeroValue9
  t22 := Try.underlying39
  a22 := Try.isAgg39
  z22 := Try.sizeOf39
  v22 := Try.zeroValue39
  t25 := Try.underlying101
  a25 := Try.isAgg101
  z25 := Try.sizeOf101
  v25 := Try.zeroValue101
  t39 := Try.underlying140
  a39 := Try.isAgg140
  z39 := Try.sizeOf140
  v39 := Try.zeroValue140
  t45 := Try.underlying178
  a45 := Try.isAgg178
  z45 := Try.sizeOf178
  v45 := Try.zeroValue178
  t46 := Try.underlying179
  a46 := Try.isAgg179
  z46 := Try.sizeOf179
  v46 := Try.zeroValue179
  t50 := Try.underlying183
  a50 := Try.isAgg183
  z50 := Try.sizeOf183
  v50 := Try.zeroValue183
  t53 := Try.underlying23
  a53 := Try.isAgg23
  z53 := Try.sizeOf23
  v53 := Try.zeroValue23
  t55 := Try.underlying51
  a55 := Try.isAgg51
  z55 := Try.sizeOf51
  v55 := Try.zeroValue51
  t66 := Try.underlying188
  a66 := Try.isAgg188
  z66 := Try.sizeOf188
  v66 := Try.zeroValue188
  t70 := Try.underlying192
  a70 := Try.isAgg192
  z70 := Try.sizeOf192
  v70 := Try.zeroValue192
  t76 := Try.underlying194
  a76 := Try.isAgg194
  z76 := Try.sizeOf194
  v76 := Try.zeroValue194
  t77 := Try.underlying168
  a77 := Try.isAgg168
  z77 := Try.sizeOf168
  v77 := Try.zeroValue168 }
end Go.Proofs.Ytdaongflpllfhaa
/- A Db of bare Lsas (without lists), in memory: New, clone, headOf, isNewer. -/
namespace Go.Proofs.Ytdaongflpllfhaa
open Go.RowKit

/-- an Lsa without lists, as a value -/
def bareV (m : LsaD) : Value := .agg #[.int .i64 m.age, .int .i64 m.type, .int .u32 m.id, .int .u32 m.adv, .int .i64 m.seq, .slice none 0 0, .int .u32 m.mask, .slice none 0 0, .int .i64 m.cost]
def bareL (m : LsaD) : List Value := [.int .i64 m.age, .int .i64 m.type, .int .u32 m.id, .int .u32 m.adv, .int .i64 m.seq, .slice none 0 0, .int .u32 m.mask, .slice none 0 0, .int .i64 m.cost]
structure Bare (m : LsaD) : Prop where
  links : m.links = []
  routers : m.routers = []
  can : canB m = true
  id : m.id < 4294967296
  adv : m.adv < 4294967296
  mask : m.mask < 4294967296
theorem slClLinks_nil (w : World) : Calls Try.prog 52 #[.slice none 0 0] w fun e w' => e = .returned (.slice none 0 0) ∧ w = w' := by
  have he : (binOp .eql 26 (.slice none 0 0) (.slice none 0 0)).run Try.prog w = .ok (.bool true) w := by simp [binOp, run_equal_slice_nil w 26 _ none 0 0 Try.underlying26]
  go_enter Try.func52, Try.ntmps52
  go_wp2_with fail
  go_ret
  exact ⟨rfl, rfl⟩
theorem slClU32_nil (w : World) : Calls Try.prog 53 #[.slice none 0 0] w fun e w' => e = .returned (.slice none 0 0) ∧ w = w' := by
  have he : (binOp .eql 27 (.slice none 0 0) (.slice none 0 0)).run Try.prog w = .ok (.bool true) w := by simp [binOp, run_equal_slice_nil w 27 _ none 0 0 Try.underlying27]
  go_enter Try.func53, Try.ntmps53
  go_wp2_with fail
  go_ret
  exact ⟨rfl, rfl⟩
set_option maxRecDepth 100000 in
set_option maxHeartbeats 1000000 in
theorem ldClone_bare (m : LsaD) (w : World) : Calls Try.prog 29 #[bareV m] w fun e w' => e = .returned (bareV m) ∧ Keeps (fun _ => False) w w' := by
  obtain ⟨cs, hcs⟩ : ∃ cs, cs = bareL m := ⟨_, rfl⟩
  have hcs' := Lib.hid hcs
  obtain ⟨W0, hW0⟩ : ∃ W0, W0 = (w.alloc (.cells #[.int .i64 m.age, .int .i64 m.type, .int .u32 m.id, .int .u32 m.adv, .int .i64 m.seq, .slice none 0 0, .int .u32 m.mask, .slice none 0 0, .int .i64 m.cost] 29)).alloc (.cells #[.int .i64 0, .int .i64 0, .int .u32 0, .int .u32 0, .int .i64 0, .slice none 0 0, .int .u32 0, .slice none 0 0, .int .i64 0] 29) := ⟨_, rfl⟩
  have hB : Hid (BlkAt W0 w.heap.size 29 cs) := Lib.hid (by rw [hW0, hcs]; exact (BlkAt.new w 29 (bareL m)).alloc _)
  have hR : Hid (BlkAt W0 (w.heap.size + 1) 29 [.int .i64 0, .int .i64 0, .int .u32 0, .int .u32 0, .int .i64 0, .slice none 0 0, .int .u32 0, .slice none 0 0, .int .i64 0]) := Lib.hid (by
    have := BlkAt.new (w.alloc (.cells #[.int .i64 m.age, .int .i64 m.type, .int .u32 m.id, .int .u32 m.adv, .int .i64 m.seq, .slice none 0 0, .int .u32 m.mask, .slice none 0 0, .int .i64 m.cost] 29)) 29 [.int .i64 0, .int .i64 0, .int .u32 0, .int .u32 0, .int .i64 0, .slice none 0 0, .int .u32 0, .slice none 0 0, .int .i64 0]
    rw [hW0]; simpa using this)
  have hK : Hid (Keeps (fun _ => False) w W0) := Lib.hid (by rw [hW0]; exact ((Keeps.refl _ _).alloc _).alloc _)
  have hW0' := Lib.hid hW0
  clear hcs hW0
  unfold bareV
  go_enter Try.func29, Try.ntmps29
  go_upto_region 1 with fail
  rw [← hW0'.out]
  refine wp_region_noPanic ?_
  refine wp_region_held_drew (S := (fun W => Keeps (fun k => k = w.heap.size) W0 W ∧ BlkAt W w.heap.size 29 cs)) (by kernel_rfl) (⟨(Keeps.refl _ _).drew, hB.out⟩) (fun hHeld => ?_)
  refine tk 0 rfl ?_
  refine tkL 1 rfl (yieldsIf_load_cell (by rfl) 26 (.tmp 3) rfl w.heap.size 5 rfl _ (fun _ s => s.2.cell 5 (.slice none 0 0) (by rw [hcs'.out]; rfl)) (fun w s => load_links w _ _ _ s)) ?_
  refine tk 3 rfl ?_
  refine tkL 4 rfl (yieldsIf_load_cell (by rfl) 27 (.tmp 6) rfl w.heap.size 7 rfl _ (fun _ s => s.2.cell 7 (.slice none 0 0) (by rw [hcs'.out]; rfl)) (fun w s => load_u32s w _ _ _ s)) ?_
  refine stepL 2 rfl (by kernel_rfl) (fun K hK => ?_)
  go_simp
  (refine (slClLinks_nil _).mono ?_; rintro e w' ⟨rfl, rfl⟩)
  go_wp2_with fail
  refine hK.out _ _ (hHeld) (fun hHeld => ?_)
  clear hK K
  try simp only [Act.put, sA, sZ, sS]
  refine tk 6 rfl ?_
  refine stepL 5 rfl (by kernel_rfl) (fun K hK => ?_)
  go_simp
  (refine (slClU32_nil _).mono ?_; rintro e w' ⟨rfl, rfl⟩)
  go_wp2_with fail
  refine hK.out _ _ (hHeld) (fun hHeld => ?_)
  clear hK K
  try simp only [Act.put, sA, sZ, sS]
  have hc5 : W0.drew.cell? ⟨w.heap.size, 5, none⟩ = some (.slice none 0 0) := hHeld.2.cell 5 (.slice none 0 0) (by rw [hcs'.out]; rfl)
  have hf5 : W0.drew.frozen? ⟨w.heap.size, 5, none⟩ = false := hHeld.2.frozen 5
  have hB5 : BlkAt (W0.drew.setCell ⟨w.heap.size, 5, none⟩ (.slice none 0 0)) w.heap.size 29 cs := by
    have := hHeld.2.set 5 (.slice none 0 0)
    rw [hcs'.out] at this; rw [hcs'.out]; exact this
  refine stepL 7 rfl (by kernel_rfl) (fun K hK => ?_)
  go_simp
  refine hK.out _ _ (⟨hHeld.1.setCell (.inl rfl) _, hB5⟩) (fun hHeld => ?_)
  clear hK K
  try simp only [Act.put, sA, sZ, sS]
  refine tk 8 rfl ?_
  have hc7 := hHeld.2.cell 7 (.slice none 0 0) (by rw [hcs'.out]; rfl)
  have hf7 := hHeld.2.frozen 7
  have hB7 : BlkAt ((W0.drew.setCell ⟨w.heap.size, 5, none⟩ (.slice none 0 0)).setCell ⟨w.heap.size, 7, none⟩ (.slice none 0 0)) w.heap.size 29 cs := by
    have := hHeld.2.set 7 (.slice none 0 0)
    rw [hcs'.out] at this; rw [hcs'.out]; exact this
  refine stepL 9 rfl (by kernel_rfl) (fun K hK => ?_)
  go_simp
  refine hK.out _ _ (⟨hHeld.1.setCell (.inl rfl) _, hB7⟩) (fun hHeld => ?_)
  clear hK K
  try simp only [Act.put, sA, sZ, sS]
  refine wpAnyH_done (by kernel_rfl) (NoPanic.normal ?_) _
  have hBe := Lib.hid hHeld.2
  have hKe := Lib.hid hHeld.1
  clear hHeld hc5 hf5 hc7 hf7 hB5 hB7
  obtain ⟨W1, hW1⟩ : ∃ W1, W1 = ((W0.setCell ⟨w.heap.size, 5, none⟩ (.slice none 0 0)).setCell ⟨w.heap.size, 7, none⟩ (.slice none 0 0)).drew := ⟨_, rfl⟩
  rw [← hW1] at hBe hKe ⊢
  clear hW1
  have hR1 := Lib.hid (hR.out.keep hKe.out (by omega))
  go_wp2_with (first | ((with_reducible refine at_slot 11 ?_); refine wpList_load_mid rfl 29 (.tmp 1) rfl w.heap.size 0 rfl [.int .i64 m.age, .int .i64 m.type, .int .u32 m.id, .int .u32 m.adv, .int .i64 m.seq, .slice none 0 0, .int .u32 m.mask, .slice none 0 0, .int .i64 m.cost] _ (BlkAt.rng hBe.out hcs'.out) Try.underlying29 rfl lsaInfo ?_) | ((with_reducible refine at_store 2 ?_); refine wpList_store_blk rfl 29 (.tmp 2) (.tmp 11) rfl (w.heap.size + 1) #[.int .i64 m.age, .int .i64 m.type, .int .u32 m.id, .int .u32 m.adv, .int .i64 m.seq, .slice none 0 0, .int .u32 m.mask, .slice none 0 0, .int .i64 m.cost] rfl rfl (BlkAt.there hR1.out 0 9 (Nat.le_refl 9)) lsaInfo (lsa_one _ _ _ _ _ _ _ _ _ (slice_one _ _ _) (slice_one _ _ _)) ?_; intro w9 hr9 hs9))
  have c0 := rangeAt_cell hr9.out 0 (.int .i64 m.age) rfl
  have c1 := rangeAt_cell hr9.out 1 (.int .i64 m.type) rfl
  have c2 := rangeAt_cell hr9.out 2 (.int .u32 m.id) rfl
  have c3 := rangeAt_cell hr9.out 3 (.int .u32 m.adv) rfl
  have c4 := rangeAt_cell hr9.out 4 (.int .i64 m.seq) rfl
  have c5 := rangeAt_cell hr9.out 5 (.slice none 0 0) rfl
  have c6 := rangeAt_cell hr9.out 6 (.int .u32 m.mask) rfl
  have c7 := rangeAt_cell hr9.out 7 (.slice none 0 0) rfl
  have c8 := rangeAt_cell hr9.out 8 (.int .i64 m.cost) rfl
  refine bodyPost_ret (v := bareV m) (by simp [results, Try.results29, go_sem, c0, c1, c2, c3, c4, c5, c6, c7, c8, bareV]) rfl ⟨rfl, ?_⟩
  exact (hK.out.trans' hKe.out (fun i e => .inr (by rw [e]; exact Nat.le_refl _))).trans' hs9.out (fun i e => .inr (by rw [e]; omega))
theorem Bare.eta {m : LsaD} (h : Bare m) : m = ⟨m.age, m.type, m.id, m.adv, m.seq, [], m.mask, [], m.cost⟩ := by
  obtain ⟨h1, h2, -, -, -, -⟩ := h
  cases m; simp only at h1 h2; subst h1; subst h2; rfl
/-- the header of an Lsa's bytes -/
def hdD (m : LsaD) : HeadD := headOf (putB m)
theorem putB_len24 (m : LsaD) (h : Bare m) : 24 ≤ (putB m).length ∧ (putB m).length ≤ 504 := by
  have h1 := tellB_len (l := m) (by rw [h.links]; simp) (by rw [h.routers]; simp)
  rw [putB_len]; omega
set_option maxRecDepth 100000 in
set_option maxHeartbeats 1000000 in
theorem ldHeadOf_bare (m : LsaD) (hb : Bare m) (H : HeadD) (hH : Hid (hdD m = H)) (w : World) : Calls Try.prog 30 #[bareV m] w fun e w' => e = .returned (.tuple #[.agg #[.int .i64 H.age, .int .i64 H.type, .int .u32 H.id, .int .u32 H.adv, .int .i64 H.seq, .int .u16 H.sum, .int .i64 H.len], .int .i64 0]) ∧ Keeps (fun _ => False) w w' := by
  have hlen := putB_len24 m hb
  have hbm := Lib.hid hb.eta
  obtain ⟨W0, hW0⟩ : ∃ W0, W0 = (w.alloc (.cells #[.int .i64 m.age, .int .i64 m.type, .int .u32 m.id, .int .u32 m.adv, .int .i64 m.seq, .slice none 0 0, .int .u32 m.mask, .slice none 0 0, .int .i64 m.cost] 29)).alloc (.cells #[.int .i64 0, .int .i64 0, .int .u32 0, .int .u32 0, .int .i64 0, .int .u16 0, .int .i64 0] 82) := ⟨_, rfl⟩
  have hB : Hid (BlkAt W0 w.heap.size 29 [.int .i64 m.age, .int .i64 m.type, .int .u32 m.id, .int .u32 m.adv, .int .i64 m.seq, .slice none 0 0, .int .u32 m.mask, .slice none 0 0, .int .i64 m.cost]) := Lib.hid (by rw [hW0]; exact (BlkAt.new w 29 (bareL m)).alloc _)
  have hR : Hid (BlkAt W0 (w.heap.size + 1) 82 [.int .i64 0, .int .i64 0, .int .u32 0, .int .u32 0, .int .i64 0, .int .u16 0, .int .i64 0]) := Lib.hid (by
    have := BlkAt.new (w.alloc (.cells #[.int .i64 m.age, .int .i64 m.type, .int .u32 m.id, .int .u32 m.adv, .int .i64 m.seq, .slice none 0 0, .int .u32 m.mask, .slice none 0 0, .int .i64 m.cost] 29)) 82 [.int .i64 0, .int .i64 0, .int .u32 0, .int .u32 0, .int .i64 0, .int .u16 0, .int .i64 0]
    rw [hW0]; simpa using this)
  have hK : Hid (Keeps (fun _ => False) w W0) := Lib.hid (by rw [hW0]; exact ((Keeps.refl _ _).alloc _).alloc _)
  have hW0' := Lib.hid hW0
  clear hW0
  have hlink := Lib.hid (LinksAt.nil W0)
  have hnum : Hid (NumsAt W0 (.slice none 0 0) []) := Lib.hid ⟨none, 0, rfl, fun _ => rfl, Nat.le_refl _, fun h => by simp at h⟩
  have hcan : Hid (canB ⟨m.age, m.type, m.id, m.adv, m.seq, [], m.mask, [], m.cost⟩ = true) := Lib.hid (by rw [← hb.eta]; exact hb.can)
  unfold bareV
  go_enter Try.func30, Try.ntmps30
  go_upto_region 1 with fail
  rw [← hW0'.out]
  go_wp2_with ((with_reducible refine at_slot 7 ?_); refine wpList_load_mid rfl 29 (.tmp 1) rfl w.heap.size 0 rfl _ _ hB.out.range Try.underlying29 rfl lsaInfo ?_)
  refine (lsPut_yes m.age m.type m.seq m.cost m.id m.adv m.mask [] [] none none 0 0 _ hlink hnum (Lib.hid (by simp)) (Lib.hid (by intro x hx; simp at hx)) hb.id hb.adv hb.mask hcan).mono ?_
  rintro e w2 ⟨p, c, rfl, ho, k2⟩
  rw [← hbm.out] at ho ⊢
  have hH2 : Hid (headOf (putB m) = H) := Lib.hid hH.out
  obtain ⟨X, hX⟩ : ∃ X, putB m = X := ⟨_, rfl⟩
  rw [hX] at ho hlen hH2 ⊢
  obtain ⟨p', c', ep, -, hc, hr⟩ := ho.bytes
  obtain ⟨g, o, ep2, hrr⟩ := hr (by omega)
  injection ep with e1 e2 e3
  subst e1; subst e3; subst ep2
  have hr' := Lib.hid hrr
  clear hrr
  have hR2 := Lib.hid (hR.out.keep k2 id)
  have hK2 := Lib.hid (hK.out.trans k2)
  have hlen' := Lib.hid hlen
  clear e2 hr k2 ho hX hB hR hK hlink hnum hcan hbm hlen
  go_wp2_with fail
  refine (lsHead_yes g o c X (by have := hlen'.out; omega) (by have := hlen'.out; omega) hc _ hr').mono ?_
  rintro e w3 ⟨rfl, k3⟩
  rw [hH2.out]
  have hR3 := Lib.hid (hR2.out.keep k3 id)
  have hK3 := Lib.hid (hK2.out.trans k3)
  clear k3 hR2 hK2 hH2 hr'
  unfold headV
  go_wp2_with ((with_reducible refine at_store 2 ?_); refine wpList_store_blk rfl 82 (.tmp 2) (.tmp 17) rfl (w.heap.size + 1) #[.int .i64 H.age, .int .i64 H.type, .int .u32 H.id, .int .u32 H.adv, .int .i64 H.seq, .int .u16 H.sum, .int .i64 H.len] rfl rfl (BlkAt.there hR3.out 0 7 (Nat.le_refl 7)) headInfo (head_one _ _ _ _ _ _ _) ?_; intro w9 hr9 hs9)
  have c0 := rangeAt_cell hr9.out 0 (.int .i64 H.age) rfl
  have c1 := rangeAt_cell hr9.out 1 (.int .i64 H.type) rfl
  have c2 := rangeAt_cell hr9.out 2 (.int .u32 H.id) rfl
  have c3 := rangeAt_cell hr9.out 3 (.int .u32 H.adv) rfl
  have c4 := rangeAt_cell hr9.out 4 (.int .i64 H.seq) rfl
  have c5 := rangeAt_cell hr9.out 5 (.int .u16 H.sum) rfl
  have c6 := rangeAt_cell hr9.out 6 (.int .i64 H.len) rfl
  refine bodyPost_ret (v := .tuple #[.agg #[.int .i64 H.age, .int .i64 H.type, .int .u32 H.id, .int .u32 H.adv, .int .i64 H.seq, .int .u16 H.sum, .int .i64 H.len], .int .i64 0]) (by simp [results, Try.results30, go_sem, c0, c1, c2, c3, c4, c5, c6]) rfl ⟨rfl, ?_⟩
  exact hK3.out.trans' hs9.out (fun i e => .inr (by rw [e]; omega))
end Go.Proofs.Ytdaongflpllfhaa
/- lsdb: New, Count, isNewer, Put of bare Lsas, walked. -/
namespace Go.Proofs.Ytdaongflpllfhaa
open Go.RowKit

def bareR (v : Value) (m : LsaD) : Prop := v = bareV m
/-- a Db of these, in memory -/
structure DbAt (w : World) (b r : Nat) (L : List LsaD) : Prop where
  bl : BlkAt w b 86 [.map (some r)]
  mp : ∃ es clock, w.heap[r]? = some (.map es clock) ∧ EntriesAt bareR es.toList L
theorem DbAt.keep {F : Nat → Prop} {w w' : World} {b r : Nat} {L : List LsaD} (h : DbAt w b r L) (k : Keeps F w w') (hb : ¬ F b) (hr : ¬ F r) : DbAt w' b r L := by
  obtain ⟨h1, es, clock, h2, h3⟩ := h
  exact ⟨h1.keep k hb, es, clock, by rw [k.block r (lt_of_block h2) hr]; exact h2, h3⟩
theorem DbAt.ne {w : World} {b r : Nat} {L : List LsaD} (h : DbAt w b r L) : b ≠ r := by
  rintro rfl
  obtain ⟨h1, es, clock, h2, -⟩ := h
  have h1 : w.heap[b]? = _ := h1
  rw [h2] at h1; cases h1
theorem DbAt.lt {w : World} {b r : Nat} {L : List LsaD} (h : DbAt w b r L) : b < w.heap.size ∧ r < w.heap.size := by
  obtain ⟨h1, es, clock, h2, -⟩ := h
  exact ⟨lt_of_block h1, lt_of_block h2⟩
theorem ldNew_any (w : World) : Calls Try.prog 16 #[] w fun e w' => (∃ b r, e = .returned (.pointer (some ⟨b, 0, none⟩)) ∧ DbAt w' b r [] ∧ w.heap.size ≤ b ∧ w.heap.size ≤ r) ∧ Keeps (fun _ => False) w w' := by
  have hmm := @run_makeMap Try.prog
  go_enter Try.func16, Try.ntmps16
  go_wp2_with fail
  go_ret
  refine ⟨⟨w.heap.size + 1, w.heap.size, rfl, ⟨?_, #[], 0, ?_, trivial⟩, by omega, Nat.le_refl _⟩, ((Keeps.refl _ _).alloc _).alloc _⟩
  · have := BlkAt.new (w.alloc (.map #[] 0)) 86 [.map (some w.heap.size)]
    simpa using this
  · rw [Below.heap_alloc _ _ _ (by simp)]
    exact heap_alloc_last w _
theorem run_len_mapd {w : World} {ty : TypeId} {r : Nat} {es : Array MapEntry} {clock : Nat} (hb : w.heap[r]? = some (.map es clock)) :
    (Builtin.len_ #[84] ty #[.map (some r)]).run Try.prog w = .ok (.int .i64 es.size) w := by
  have hg : (getObj r).run Try.prog w = .ok (.map es clock) w := by simp [getObj, Sem.run, hb]
  simp [Builtin.len_, run_underlying Try.underlying84, hg, goInt]
theorem ldCount_any (b r : Nat) (L : List LsaD) (w : World) (h : Hid (DbAt w b r L)) : Calls Try.prog 14 #[.pointer (some ⟨b, 0, none⟩)] w fun e w' => e = .returned (.int .i64 (L.length : Nat)) ∧ w = w' := by
  obtain ⟨h1, es, clock, h2, h3⟩ := h.out
  have hc := h1.cell 0 (.map (some r)) rfl
  have hl := fun ty => run_len_mapd (ty := ty) h2
  have hlen := h3.len
  rw [Array.length_toList] at hlen
  rw [hlen] at hl
  clear h1 h2 h3 hlen
  go_enter Try.func14, Try.ntmps14
  go_wp2_with fail
  go_ret
  exact ⟨rfl, rfl⟩
set_option maxRecDepth 100000 in
set_option maxHeartbeats 1000000 in
theorem ldIsNewer_bare (A A' I V C I' V' C' : Nat) (T S Ln T' S' Ln' : Int) (m : LsaD) (hb : Bare m) (hm : Hid (hdD m = ⟨(A' : Int), T', I', V', S', C', Ln'⟩)) (hA : A ≤ 3600) (hA' : A' ≤ 3600) (z : Bool) (w : World) (hz : Hid (decide (cmpH A A' S S' C C' = 1) = z)) :
    Calls Try.prog 31 #[.agg #[.int .i64 (A : Nat), .int .i64 T, .int .u32 I, .int .u32 V, .int .i64 S, .int .u16 C, .int .i64 Ln], bareV m] w fun e w' => e = .returned (.bool z) ∧ Keeps (fun _ => False) w w' := by
  obtain ⟨W0, hW0⟩ : ∃ W0, W0 = (w.alloc (.cells #[.int .i64 (A : Nat), .int .i64 T, .int .u32 I, .int .u32 V, .int .i64 S, .int .u16 C, .int .i64 Ln] 82)).alloc (.cells #[.int .i64 m.age, .int .i64 m.type, .int .u32 m.id, .int .u32 m.adv, .int .i64 m.seq, .slice none 0 0, .int .u32 m.mask, .slice none 0 0, .int .i64 m.cost] 29) := ⟨_, rfl⟩
  have hH : Hid (BlkAt W0 w.heap.size 82 [.int .i64 (A : Nat), .int .i64 T, .int .u32 I, .int .u32 V, .int .i64 S, .int .u16 C, .int .i64 Ln]) := Lib.hid (by rw [hW0]; exact (BlkAt.new w 82 [.int .i64 (A : Nat), .int .i64 T, .int .u32 I, .int .u32 V, .int .i64 S, .int .u16 C, .int .i64 Ln]).alloc _)
  have hB : Hid (BlkAt W0 (w.heap.size + 1) 29 [.int .i64 m.age, .int .i64 m.type, .int .u32 m.id, .int .u32 m.adv, .int .i64 m.seq, .slice none 0 0, .int .u32 m.mask, .slice none 0 0, .int .i64 m.cost]) := Lib.hid (by
    have := BlkAt.new (w.alloc (.cells #[.int .i64 (A : Nat), .int .i64 T, .int .u32 I, .int .u32 V, .int .i64 S, .int .u16 C, .int .i64 Ln] 82)) 29 [.int .i64 m.age, .int .i64 m.type, .int .u32 m.id, .int .u32 m.adv, .int .i64 m.seq, .slice none 0 0, .int .u32 m.mask, .slice none 0 0, .int .i64 m.cost]
    rw [hW0]; simpa using this)
  have hK : Hid (Keeps (fun _ => False) w W0) := Lib.hid (by rw [hW0]; exact ((Keeps.refl _ _).alloc _).alloc _)
  have hW0' := Lib.hid hW0
  clear hW0
  unfold bareV
  go_enter Try.func31, Try.ntmps31
  go_upto_region 1 with fail
  rw [← hW0'.out]
  go_wp2_with ((with_reducible refine at_slot 8 ?_); refine wpList_load_mid rfl 29 (.tmp 3) rfl (w.heap.size + 1) 0 rfl _ _ hB.out.range Try.underlying29 rfl lsaInfo ?_)
  refine (ldHeadOf_bare m hb ⟨(A' : Int), T', I', V', S', C', Ln'⟩ hm _).mono ?_
  rintro e w2 ⟨rfl, k2⟩
  have hH2 := Lib.hid ((hH.out.keep k2 id).alloc (.cells #[.int .i64 (A' : Nat), .int .i64 T', .int .u32 I', .int .u32 V', .int .i64 S', .int .u16 C', .int .i64 Ln'] 82))
  have hN2 : Hid (BlkAt (w2.alloc (.cells #[.int .i64 (A' : Nat), .int .i64 T', .int .u32 I', .int .u32 V', .int .i64 S', .int .u16 C', .int .i64 Ln'] 82)) w2.heap.size 82 [.int .i64 (A' : Nat), .int .i64 T', .int .u32 I', .int .u32 V', .int .i64 S', .int .u16 C', .int .i64 Ln']) := Lib.hid (BlkAt.new w2 82 [.int .i64 (A' : Nat), .int .i64 T', .int .u32 I', .int .u32 V', .int .i64 S', .int .u16 C', .int .i64 Ln'])
  have hK2 := Lib.hid ((hK.out.trans k2).alloc (.cells #[.int .i64 (A' : Nat), .int .i64 T', .int .u32 I', .int .u32 V', .int .i64 S', .int .u16 C', .int .i64 Ln'] 82))
  clear k2 hH hB hK
  simp only
  go_wp2_with (first | ((with_reducible refine at_store 5 ?_); refine wpList_store_new rfl 82 (.tmp 5) (.tmp 10) rfl _ _ rfl rfl headInfo rfl (head_one _ _ _ _ _ _ _) ?_) | ((with_reducible refine at_slot 12 ?_); refine wpList_load_mid rfl 82 (.tmp 2) rfl w.heap.size 0 rfl _ _ hH2.out.range Try.underlying82 rfl headInfo ?_) | ((with_reducible refine at_slot 13 ?_); refine wpList_load_mid rfl 82 (.tmp 5) rfl w2.heap.size 0 rfl _ _ hN2.out.range Try.underlying82 rfl headInfo ?_))
  refine (lsCompare_any A A' C C' I I' V V' T T' S S' Ln Ln' (cmpH A A' S S' C C') hA hA' _ (Lib.hid rfl)).mono ?_
  rintro e w3 ⟨rfl, k3⟩
  have hK3 := Lib.hid (hK2.out.trans k3)
  clear k3 hK2
  go_wp2_with fail
  go_ret
  exact ⟨by rw [← hz.out]; rfl, hK3.out⟩
end Go.Proofs.Ytdaongflpllfhaa
