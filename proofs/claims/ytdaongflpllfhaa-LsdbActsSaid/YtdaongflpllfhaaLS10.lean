/- A map by keys of Lsas, on the kit's own maps: look-ups, stores, deletes, ranging. -/
import Derived.Test.YtdaongflpllfhaaLS09
import Derived.Maps.RangeWalk
import Derived.DeepKeys4
import Derived.RangeFuncGives
import Derived.Maps.AppendAt
import Derived.Sort.MapsRangeIn
import Derived.Shelf.AbstractIn
import Derived.RangeFuncSeq
import Derived.WalkKit
import Derived.OwnWalkIn
import Derived.TacticsInMore
import Derived.RegionIn
import Derived.LoopNIn
import Derived.LoopIn
import Derived.Test.YtdaongflpllfhaaProg
import Derived.Test.YtdaongflpllfhaaLS01
import Derived.Test.YtdaongflpllfhaaLS08
set_option linter.unusedVariables false
set_option linter.unusedSimpArgs false
set_option linter.unusedVariables false
set_option linter.unusedSimpArgs false
namespace Go.Proofs.Ytdaongflpllfhaa
open Go.RowKit

theorem laidOutK : laidOutB Try.prog = true := by kernel_rfl
theorem keyedK : Maps.Keyed Try.prog 25 := Maps.Keyed.of_law (deep_law_laid laidOutK (m := 20) (by decide) (of_decide_eq_true (by kernel_rfl)) (by kernel_rfl) (by kernel_rfl))
def kOk (t : Int) (i a : Nat) : Prop := (-9223372036854775808 ≤ t ∧ t ≤ 9223372036854775807) ∧ i < 4294967296 ∧ a < 4294967296
theorem wf_tK (t : Int) (h : -9223372036854775808 ≤ t ∧ t ≤ 9223372036854775807) : (Lit.int .i64 t).wf = true := by simp [Lit.wf, IntKind.min, IntKind.max, IntKind.signed, IntKind.bits]; omega
theorem wf_uK (x : Nat) (h : x < 4294967296) : (Lit.int .u32 (x : Int)).wf = true := by simp [Lit.wf, IntKind.min, IntKind.max, IntKind.signed, IntKind.bits]; omega
theorem key_kind : Try.prog.keyType 25 = true := by kernel_rfl
theorem key_cells : Try.prog.cellsOf 25 = 3 := by kernel_rfl
theorem cInt_k : Try.prog.cellsOf 3 = 1 := by kernel_rfl
theorem cU32_k : Try.prog.cellsOf 23 = 1 := by kernel_rfl
theorem lits_int (t : Int) (h : (Lit.int .i64 t).wf = true) (d : Nat) : Try.prog.keyLits (d + 1) 3 [.int .i64 t] = some [.int .i64 t] := by
  unfold Program.keyLits
  rw [Try.underlying3]
  simp [h]
theorem lits_u32 (x : Int) (h : (Lit.int .u32 x).wf = true) (d : Nat) : Try.prog.keyLits (d + 1) 23 [.int .u32 x] = some [.int .u32 x] := by
  unfold Program.keyLits
  rw [Try.underlying23]
  simp [h]
theorem types_size : ∃ n, Try.prog.types.size = n + 1 := ⟨Try.prog.types.size - 1, by have h : 0 < Try.prog.types.size := of_decide_eq_true (by kernel_rfl); omega⟩
set_option maxRecDepth 100000 in
theorem key_of (t : Int) (i a : Nat) (h : kOk t i a) : keyOf Try.prog 25 (keyA t i a) = some (.string (keyBytes [.int .i64 t, .int .u32 i, .int .u32 a])) := by
  obtain ⟨h1, h2, h3⟩ := h
  have w1 := wf_tK t h1
  have w2 := wf_uK i h2
  have w3 := wf_uK a h3
  unfold keyOf keyA
  rw [Try.underlying25]
  simp only [key_kind, Bool.true_and]
  have hf : Value.formed Try.prog 25 (.agg #[.int .i64 t, .int .u32 i, .int .u32 a]) = true := by
    unfold Value.formed
    rw [Try.underlying25, key_cells]
    rfl
  rw [hf, if_pos rfl]
  obtain ⟨n, hn⟩ := types_size
  rw [hn]
  have hk : Try.prog.keyLits (n + 1 + 1) 25 [.int .i64 t, .int .u32 i, .int .u32 a] = some [.int .i64 t, .int .u32 i, .int .u32 a] := by
    unfold Program.keyLits
    rw [Try.underlying25]
    simp [key_cells, cInt_k, cU32_k, lits_int t w1, lits_u32 _ w2, lits_u32 _ w3]
  show Option.map _ (Try.prog.keyLits (n + 1 + 1) 25 [.int .i64 t, .int .u32 i, .int .u32 a]) = _
  rw [hk]; rfl
def keyL (t : Int) (i a : Nat) : Lit := .string (keyBytes [.int .i64 t, .int .u32 i, .int .u32 a])
theorem keyL_inj {t t' : Int} {i a i' a' : Nat} (h : kOk t i a) (h' : kOk t' i' a') (e : keyL t i a = keyL t' i' a') : t = t' ∧ i = i' ∧ a = a' := by
  have h1 := key_of t i a h
  have h2 := key_of t' i' a' h'
  unfold keyL at e
  rw [← e] at h2
  have h3 := keyedK.inj h1 h2
  unfold keyA at h3
  injection h3 with h3
  simp at h3
  omega
theorem lits_kind_inv {q : IntKind} {k : TypeId} (hk : Try.prog.underlying k = some (.int q)) {c : Value} {d : Nat} {l : List Lit} (h : Try.prog.keyLits d k [c] = some l) : ∃ t : Int, c = .int q t ∧ (Lit.int q t).wf = true ∧ l = [.int q t] := by
  cases d with
  | zero => unfold Program.keyLits at h; cases h
  | succ d =>
    unfold Program.keyLits at h
    rw [hk] at h
    cases c with
    | int q' n =>
      simp only at h
      split at h
      · rename_i h1
        obtain ⟨rfl, h2⟩ := h1
        injection h with h
        exact ⟨n, rfl, h2, h.symm⟩
      · cases h
    | _ => simp at h
set_option maxRecDepth 100000 in
theorem key_inv {key : Value} {kl : Lit} (h : keyOf Try.prog 25 key = some kl) : ∃ (t : Int) (i a : Nat), kOk t i a ∧ key = keyA t i a ∧ kl = keyL t i a := by
  have h0 := h
  unfold keyOf at h
  rw [Try.underlying25] at h
  simp only [key_kind, Bool.true_and] at h
  split at h
  · rename_i hf
    cases key with
    | agg cs =>
      unfold Value.formed at hf
      rw [Try.underlying25, key_cells] at hf
      have hsz : cs.size = 3 := by simpa using hf
      obtain ⟨l⟩ := cs
      have hl : l.length = 3 := by simpa using hsz
      match l, hl with
      | [c0, c1, c2], _ =>
        obtain ⟨n, hn⟩ := types_size
        rw [hn] at h
        obtain ⟨ls, h1, h2⟩ := Option.map_eq_some_iff.1 h
        have h3 : Try.prog.keyLits (n + 1 + 1) 25 [c0, c1, c2] = some ls := h1
        unfold Program.keyLits at h3
        rw [Try.underlying25] at h3
        simp [key_cells, cInt_k, cU32_k] at h3
        obtain ⟨l0, e0, h3⟩ := Option.bind_eq_some_iff.1 h3
        obtain ⟨l12, e12, h3⟩ := Option.map_eq_some_iff.1 h3
        obtain ⟨r1, e1, e12⟩ := Option.bind_eq_some_iff.1 e12
        obtain ⟨l1, e3, e4⟩ := Option.bind_eq_some_iff.1 e1
        obtain ⟨r2, e5, e6⟩ := Option.bind_eq_some_iff.1 e4
        obtain ⟨l2, e7, e8⟩ := Option.bind_eq_some_iff.1 e5
        obtain ⟨t, rfl, w1, rfl⟩ := lits_kind_inv Try.underlying3 e0
        obtain ⟨i, rfl, w2, rfl⟩ := lits_kind_inv Try.underlying23 e3
        obtain ⟨a, rfl, w3, rfl⟩ := lits_kind_inv Try.underlying23 e7
        have q1 : -9223372036854775808 ≤ t ∧ t ≤ 9223372036854775807 := by simp [Lit.wf, IntKind.min, IntKind.max, IntKind.signed, IntKind.bits] at w1; omega
        have q2 : 0 ≤ i ∧ i < 4294967296 := by simp [Lit.wf, IntKind.min, IntKind.max, IntKind.signed, IntKind.bits] at w2; omega
        have q3 : 0 ≤ a ∧ a < 4294967296 := by simp [Lit.wf, IntKind.min, IntKind.max, IntKind.signed, IntKind.bits] at w3; omega
        obtain ⟨i, rfl⟩ : ∃ n : Nat, i = (n : Int) := ⟨i.toNat, (Int.toNat_of_nonneg q2.1).symm⟩
        obtain ⟨a, rfl⟩ : ∃ n : Nat, a = (n : Int) := ⟨a.toNat, (Int.toNat_of_nonneg q3.1).symm⟩
        have hk : kOk t i a := ⟨q1, by omega, by omega⟩
        refine ⟨t, i, a, hk, rfl, ?_⟩
        have h4 := key_of t i a hk
        have h5 : keyOf Try.prog 25 (keyA t i a) = some kl := h0
        rw [h4] at h5
        injection h5 with h5
        exact h5.symm
    | _ => (unfold Value.formed at hf; rw [Try.underlying25] at hf; cases hf)
  · cases h
/-- what lies in such a map: a value for a key -/
abbrev KMap := Int → Nat → Nat → Option Value
def otherVK : Value → Value
  | .bool b => .bool (!b)
  | _ => .bool true
theorem otherVK_ne (v : Value) : otherVK v ≠ v := by cases v <;> simp [otherVK]
def KR : Value → Option (DataW Value × List MemPlace) := fun v => some (.held v, [])
def KIs (D : DataW Value) (K : KMap) : Prop := ∀ t i a, kOk t i a → ∀ zd, D.atKey (keyL t i a) zd = match K t i a with | some v => .held v | none => zd
theorem KIs.has {D : DataW Value} {K : KMap} (h : KIs D K) {t : Int} {i a : Nat} (ho : kOk t i a) : Maps.has D (keyL t i a) = (K t i a).isSome := by
  cases hk : K t i a with
  | none => exact Maps.has_false_of_atKey (fun z => by rw [h t i a ho z, hk])
  | some v => exact Maps.has_true_of_atKey (y := .held v) (fun z => by rw [h t i a ho z, hk])
theorem keep_of_grownK {w w' : World} {b : Nat} (h : w.grownBy w' (some b)) : Keeps (fun i => i = b) w w' := ⟨h.os, h.tape, h.output, h.size, fun k hk hn => h.block k hk (fun e => hn (by injection e))⟩
theorem keep_of_grownK0 {w w' : World} (h : w.grownBy w' none) : Keeps (fun _ => False) w w' := ⟨h.os, h.tape, h.output, h.size, fun k hk _ => h.block k hk (by simp)⟩
theorem keep_of_turnedK {w w' : World} {b : Nat} (h : w.mapTurned w' b) : Keeps (fun i => i = b) w w' := by
  obtain ⟨es, clock, es', clock', hb, rfl⟩ := h
  exact ⟨rfl, rfl, rfl, by simp [ChangeMaps.setBlock], fun i hi hn => ChangeMaps.heap_setBlock_other hb _ hn⟩
/-- a map in memory: n entries, of which K tells -/
def KAt (w : World) (r N : Nat) (K : KMap) (n : Nat) : Prop := ∃ D, w.ownsMap Try.prog 25 KR r N D ∧ KIs D K ∧ Maps.size D = n
theorem KAt.keep {F : Nat → Prop} {w w' : World} {r N n : Nat} {K : KMap} (h : KAt w r N K n) (k : Keeps F w w') (hF : ¬ F r) : KAt w' r N K n := by
  obtain ⟨D, h, h2⟩ := h
  have hlt := h.lt
  obtain ⟨es, clock, hb, r2⟩ := h
  exact ⟨D, ⟨es, clock, by rw [k.block r hlt hF]; exact hb, r2⟩, h2⟩
theorem KAt.mono {w : World} {r N N' n : Nat} {K : KMap} (h : KAt w r N K n) (hN : N ≤ N') : KAt w r N' K n := by
  obtain ⟨D, h1, h2⟩ := h
  exact ⟨D, h1.mono hN, h2⟩
theorem KAt.lt {w : World} {r N n : Nat} {K : KMap} (h : KAt w r N K n) : r < w.heap.size := by obtain ⟨D, h1, -⟩ := h; exact h1.lt
theorem KAt.le {w : World} {r N n : Nat} {K : KMap} (h : KAt w r N K n) : n ≤ N := by obtain ⟨D, h1, -, rfl⟩ := h; exact h1.size_le
theorem KAt.new (w : World) : KAt (w.alloc (.map #[] 0)) w.heap.size 0 (fun _ _ _ => none) 0 := ⟨_, World.ownsMap_made w _ _ _, fun t i a _ zd => rfl, rfl⟩
theorem zeroK (w : World) : (zeroValue 29).run Try.prog w = .ok zeroLsa w := by
  simp [go_sem, zeroLsa]
/-- l, ok := m[k] -/
theorem KAt.look {w : World} {r N n : Nat} {K : KMap} (h : KAt w r N K n) {t : Int} {i a : Nat} (ho : kOk t i a) : (Instr.lookup 84 (.map (some r)) (keyA t i a) true).run Try.prog w = .ok (.tuple #[(K t i a).getD zeroLsa, .bool (K t i a).isSome]) w := by
  obtain ⟨D, h1, h2, -⟩ := h
  obtain ⟨v, ps, e1, e2⟩ := h1.look_ok keyedK Try.underlying84 (z := zeroLsa) (zeroK w) (zd := .held zeroLsa) (zp := []) rfl (key_of t i a ho)
  rw [e1, show (.string (keyBytes [.int .i64 t, .int .u32 i, .int .u32 a]) : Lit) = keyL t i a from rfl, h2.has ho]
  have e3 := (Prod.mk.inj (Option.some.inj e2)).1
  rw [show (.string (keyBytes [.int .i64 t, .int .u32 i, .int .u32 a]) : Lit) = keyL t i a from rfl, h2 t i a ho] at e3
  cases hk : K t i a with
  | none => rw [hk] at e3; rw [DataW.held.inj e3]; rfl
  | some k => rw [hk] at e3; rw [DataW.held.inj e3]; rfl
/-- m[k] -/
theorem KAt.look1 {w : World} {r N n : Nat} {K : KMap} (h : KAt w r N K n) {t : Int} {i a : Nat} (ho : kOk t i a) : (Instr.lookup 84 (.map (some r)) (keyA t i a) false).run Try.prog w = .ok ((K t i a).getD zeroLsa) w := by
  obtain ⟨D, h1, h2, -⟩ := h
  obtain ⟨v, ps, e1, e2⟩ := h1.lookup keyedK Try.underlying84 (z := zeroLsa) (zeroK w) (zd := .held zeroLsa) (zp := []) rfl (key_of t i a ho)
  rw [e1]
  have e3 := (Prod.mk.inj (Option.some.inj e2)).1
  rw [show (.string (keyBytes [.int .i64 t, .int .u32 i, .int .u32 a]) : Lit) = keyL t i a from rfl, h2 t i a ho] at e3
  cases hk : K t i a with
  | none => rw [hk] at e3; rw [DataW.held.inj e3]; rfl
  | some k => rw [hk] at e3; rw [DataW.held.inj e3]; rfl
def updK (K : KMap) (t : Int) (i a : Nat) (v : Option Value) : KMap := fun t' i' a' => if t' = t ∧ i' = i ∧ a' = a then v else K t' i' a'
theorem KAt.put {w : World} {r N n : Nat} {K : KMap} (h : KAt w r N K n) (hN : N < 1000000) {t : Int} {i a : Nat} (ho : kOk t i a) (v : Value) :
    ∃ w', (Instr.mapUpdate 84 (.map (some r)) (keyA t i a) v).run Try.prog w = .ok () w' ∧ KAt w' r (N + 1) (updK K t i a (some v)) (if (K t i a).isSome then n else n + 1) ∧ Keeps (fun i => i = r) w w' ∧ w'.heap.size = w.heap.size := by
  obtain ⟨D, h1, h2, h3⟩ := h
  have ht := h1.tidy keyedK
  obtain ⟨w', e1, e2, e3⟩ := h1.store keyedK Try.underlying84 (by unfold maxLen; omega) (key_of t i a ho) (val := v) (d := .held v) (ps := []) rfl
  refine ⟨w', e1, ⟨_, e2, fun t' i' a' ho' zd => ?_, ?_⟩, keep_of_turnedK e3, ?_⟩
  · unfold updK
    by_cases hz : t' = t ∧ i' = i ∧ a' = a
    · obtain ⟨rfl, rfl, rfl⟩ := hz
      rw [if_pos ⟨rfl, rfl, rfl⟩]
      exact Maps.atKey_put_same h1.isMap (show WideAt.IsKeyLit (.string _) from trivial) _ _
    · rw [if_neg hz, ← h2 t' i' a' ho' zd]
      exact Maps.atKey_put_other (fun e => hz (keyL_inj ho' ho e)) _ _
  · rw [Maps.size_put ht, show (.string (keyBytes [.int .i64 t, .int .u32 i, .int .u32 a]) : Lit) = keyL t i a from rfl, h2.has ho, h3]
  · obtain ⟨es, clock, es', clock', hb, rfl⟩ := e3
    simp [ChangeMaps.setBlock]
theorem KAt.del {w : World} {r N n : Nat} {K : KMap} (h : KAt w r N K n) {t : Int} {i a : Nat} (ho : kOk t i a) (ty : TypeId) :
    ∃ w', (Builtin.delete_ #[84, 25] ty #[.map (some r), keyA t i a]).run Try.prog w = .ok (.tuple #[]) w' ∧ KAt w' r N (updK K t i a none) (if (K t i a).isSome then n - 1 else n) ∧ Keeps (fun i => i = r) w w' ∧ w'.heap.size = w.heap.size := by
  obtain ⟨D, h1, h2, h3⟩ := h
  have ht := h1.tidy keyedK
  obtain ⟨w', e1, e2, e3⟩ := h1.drop keyedK Try.underlying84 (key_of t i a ho) ty
  refine ⟨w', e1, ⟨_, e2, fun t' i' a' ho' zd => ?_, ?_⟩, keep_of_turnedK e3, ?_⟩
  · unfold updK
    by_cases hz : t' = t ∧ i' = i ∧ a' = a
    · obtain ⟨rfl, rfl, rfl⟩ := hz
      rw [if_pos ⟨rfl, rfl, rfl⟩]
      exact Maps.atKey_del_same _
    · rw [if_neg hz, ← h2 t' i' a' ho' zd]
      exact Maps.atKey_del_other (fun e => hz (keyL_inj ho' ho e)) _
  · have h4 := Maps.size_del ht (k := keyL t i a)
    rw [h2.has ho, h3] at h4
    show Maps.size (D.del (keyL t i a)) = _
    split <;> simp_all <;> omega
  · obtain ⟨es, clock, es', clock', hb, rfl⟩ := e3
    simp [ChangeMaps.setBlock]
theorem KAt.len {w : World} {r N n : Nat} {K : KMap} (h : KAt w r N K n) (ty : TypeId) : (Builtin.len_ #[84] ty #[.map (some r)]).run Try.prog w = .ok (.int .i64 n) w := by
  obtain ⟨D, h1, -, rfl⟩ := h
  exact h1.len Try.underlying84 ty
/-- a loop over a map under way -/
def KRng (w : World) (b r N : Nat) (K : KMap) (L : Int → Nat → Nat → Bool) (n cnt : Nat) : Prop := ∃ D left, w.ranges Try.prog 25 KR b r N D left cnt ∧ KIs D K ∧ Maps.size D = n ∧ ∀ t i a, kOk t i a → left (keyL t i a) = L t i a
theorem KRng.keep {F : Nat → Prop} {w w' : World} {b r N n cnt : Nat} {K : KMap} {L : Int → Nat → Nat → Bool} (h : KRng w b r N K L n cnt) (k : Keeps F w w') (hb : ¬ F b) (hr : ¬ F r) : KRng w' b r N K L n cnt := by
  obtain ⟨D, left, h, h2, h3⟩ := h
  have h1 := h.owns.lt
  have h4 := h.lt
  obtain ⟨es, clock, since, seen, c0, e1, f1, f2, f3, e2, rest⟩ := h
  exact ⟨D, left, ⟨es, clock, since, seen, c0, (k.block b h1 hb).trans e1, f1, f2, f3, (k.block r h4 hr).trans e2, rest⟩, h2, h3⟩
theorem KRng.at {w : World} {b r N n cnt : Nat} {K : KMap} {L : Int → Nat → Nat → Bool} (h : KRng w b r N K L n cnt) : KAt w b N K n := by
  obtain ⟨D, left, h1, h2, h3, h4⟩ := h
  exact ⟨D, h1.owns, h2, h3⟩
theorem KRng.left_eq {w : World} {b r N n cnt : Nat} {K : KMap} {L : Int → Nat → Nat → Bool} (h : KRng w b r N K L n cnt) : w.rangeLeft b r = cnt := by obtain ⟨D, left, h1, -⟩ := h; exact h1.left_eq
theorem KAt.range {w : World} {b N n : Nat} {K : KMap} (h : KAt w b N K n) : ∃ w', (Instr.range 84 (.map (some b))).run Try.prog w = .ok (.pointer (some ⟨w.heap.size, 0, none⟩)) w' ∧ KRng w' b w.heap.size N K (fun t i a => (K t i a).isSome) n n ∧ Keeps (fun _ => False) w w' ∧ w'.heap.size = w.heap.size + 1 := by
  obtain ⟨D, h1, h2, h3⟩ := h
  obtain ⟨w', e1, e2, e3, e4⟩ := h1.range keyedK Try.underlying84
  exact ⟨w', e1, ⟨D, _, by rw [← h3]; exact e2, h2, h3, fun t i a ho => h2.has ho⟩, keep_of_grownK0 e3, e4⟩
theorem KRng.next {w : World} {b r N n cnt : Nat} {K : KMap} {L : Int → Nat → Nat → Bool} (h : KRng w b r N K L n cnt) (ty : TypeId) :
    (cnt = 0 ∧ (∀ t i a, kOk t i a → L t i a = false) ∧ (Instr.next (.pointer (some ⟨r, 0, none⟩)) false ty).run Try.prog w = .ok (.tuple #[.bool false]) w) ∨
    ∃ (t : Int) (i a : Nat) (v : Value) (w' : World) (cnt' : Nat), kOk t i a ∧ L t i a = true ∧ K t i a = some v ∧ (Instr.next (.pointer (some ⟨r, 0, none⟩)) false ty).run Try.prog w = .ok (.tuple #[.bool true, keyA t i a, v]) w' ∧
      KRng w' b r N K (fun t' i' a' => L t' i' a' && !decide (t' = t ∧ i' = i ∧ a' = a)) n cnt' ∧ cnt' < cnt ∧ Keeps (fun i => i = r) w w' ∧ w'.heap.size = w.heap.size ∧ (Instr.entry (.pointer (some ⟨r, 0, none⟩))).run Try.prog w' = .ok (.tuple #[keyA t i a, v]) w' := by
  obtain ⟨D, left, h1, h2, h0, h3⟩ := h
  rcases h1.next keyedK ty with ⟨e1, e2, e3⟩ | ⟨key, v, kl, y, w', cnt', e1, e2, e3, e4, e5, e6, e7, e8, e9, e10⟩
  · exact .inl ⟨e1, fun t i a ho => by rw [← h3 t i a ho]; exact e2 _, e3⟩
  · right
    obtain ⟨t, i, a, ho, rfl, rfl⟩ := key_inv e1
    have hy : y.1 = .held v := by have := Option.some.inj e3; rw [← this]
    refine ⟨t, i, a, v, w', cnt', ho, by rw [← h3 t i a ho]; exact e2, ?_, e5, ⟨D, _, e6, h2, h0, fun t' i' a' ho' => ?_⟩, e7, keep_of_grownK e8, e9, e10⟩
    · have h4 := e4 (.held (otherVK v))
      rw [h2 t i a ho, hy] at h4
      cases hk : K t i a with
      | none =>
        rw [hk] at h4
        have h5 := DataW.held.inj h4
        exact absurd h5 (otherVK_ne v)
      | some k =>
        rw [hk] at h4
        rw [DataW.held.inj h4]
    · show (left (keyL t' i' a') && !(keyL t' i' a').sameKey (keyL t i a)) = _
      have hk : (keyL t' i' a').sameKey (keyL t i a) = decide (t' = t ∧ i' = i ∧ a' = a) := by
        by_cases hz : t' = t ∧ i' = i ∧ a' = a
        · obtain ⟨rfl, rfl, rfl⟩ := hz
          rw [decide_eq_true ⟨rfl, rfl, rfl⟩]; exact WideAt.sameKey_self trivial
        · rw [decide_eq_false hz, Bool.eq_false_iff]
          intro e
          exact hz (keyL_inj ho' ho (WideAt.sameKey_eq e))
      rw [h3 t' i' a' ho', hk]
end Go.Proofs.Ytdaongflpllfhaa
/- maps.Keys of a map by keys of Lsas, and its iterator. -/
set_option linter.unusedVariables false
set_option linter.unusedSimpArgs false
namespace Go.Proofs.Ytdaongflpllfhaa
open Go.RowKit Go.Maps Go.Shelf

theorem keyInfoK : (Try.prog.info? 25).map (·.size) = some 3 := by kernel_rfl
theorem wpListIn_load_midK {F : Fence} {n : Nat} {P : Program} {ops : Array Oper} {rest : List Oper} {op : Oper} {a : Act} {w : World} {Q : Exit → Act → World → Prop} (hgd : op.guard = none) (ty : TypeId) (x : Operand) (ho : op.op = .load ty x)
    (b o : Nat) (hx : a.eval x = .pointer (some ⟨b, o, none⟩)) (cs : List Value) (d : TypeDesc) (hc : w.rangeAt b o cs)
    (hu : P.underlying ty = some d) (hd : d.isRow = true) (hi : (P.info? ty).map (·.size) = some cs.length)
    (h : wpListIn F n P ops Q rest (a.put op.dst (.agg cs.toArray)) w) : wpListIn F n P ops Q (op :: rest) a w := by
  refine wpListIn_plain hgd fun K' hK' => ?_
  unfold Oper.wpIn
  refine ⟨by simp [Oper.about, ho], ?_⟩
  rw [Oper.semAt_plain F _ _ (by rw [ho]; intro c hc'; cases hc')]
  unfold execOp
  simp only [ho, hx, Instr.loadAt, Instr.sureAddr, Sem.run_bind, Sem.run_pure, Result.andThen_ok, run_loadVar_mid w b o ty cs d hc hu hd hi]
  exact hK' _ _ h
theorem wpListIn_store_newK {F : Fence} {n : Nat} {P : Program} {ops : Array Oper} {rest : List Oper} {op : Oper} {a : Act} {w : World} {Q : Exit → Act → World → Prop} (hgd : op.guard = none) (ty : TypeId) (x y : Operand) (ho : op.op = .store ty x y)
    (c c' : Array Value) (hx : a.eval x = .pointer (some ⟨w.heap.size, 0, none⟩)) (hy : a.eval y = .agg c')
    (hi : (P.info? ty).map (·.size) = some c'.size) (hs : c.size = c'.size) (h1 : c'.all (·.oneCell') = true)
    (h : wpListIn F n P ops Q rest (a.put op.dst undef) (w.alloc (.cells c' ty))) : wpListIn F n P ops Q (op :: rest) a (w.alloc (.cells c ty)) := by
  refine wpListIn_plain hgd fun K' hK' => ?_
  unfold Oper.wpIn
  refine ⟨by simp [Oper.about, ho], ?_⟩
  rw [Oper.semAt_plain F _ _ (by rw [ho]; intro c hc'; cases hc')]
  unfold execOp
  simp only [ho, hx, hy, Sem.run_bind, Sem.run_pure, Result.andThen_ok, run_storeAt_new w ty c c' hi hs h1]
  exact hK' _ _ h
abbrev K3 := Int × Nat × Nat
def encK (x : K3) : Value := keyA x.1 x.2.1 x.2.2
theorem encK_inj {x y : K3} (h : encK x = encK y) : x = y := by
  obtain ⟨t, i, a⟩ := x
  obtain ⟨t', i', a'⟩ := y
  unfold encK keyA at h
  injection h with h
  simp at h
  obtain ⟨rfl, h2, h3⟩ := h
  have : i = i' := by omega
  have : a = a' := by omega
  subst i' a'
  rfl
/-- what has come of a map's keys: L tells what is left -/
structure CollK (K : KMap) (L : Int → Nat → Nat → Bool) (ss : List K3) : Prop where
  nd : ss.Nodup
  mem : ∀ x ∈ ss, kOk x.1 x.2.1 x.2.2 ∧ (K x.1 x.2.1 x.2.2).isSome = true
  all : ∀ t i a, kOk t i a → (K t i a).isSome = true → L t i a = true ∨ (t, i, a) ∈ ss
  left : ∀ x ∈ ss, L x.1 x.2.1 x.2.2 = false
  has : ∀ t i a, kOk t i a → L t i a = true → (K t i a).isSome = true
/-- just the keys of a map, in some order -/
def KeysOfM (K : KMap) (ss : List K3) : Prop := ss.Nodup ∧ (∀ x ∈ ss, kOk x.1 x.2.1 x.2.2) ∧ ∀ t i a, kOk t i a → ((t, i, a) ∈ ss ↔ (K t i a).isSome = true)
theorem CollK.start (K : KMap) : CollK K (fun t i a => (K t i a).isSome) [] := ⟨by simp, by simp, fun t i a _ h => .inl h, by simp, fun t i a _ h => h⟩
theorem CollK.step {K : KMap} {L : Int → Nat → Nat → Bool} {ss : List K3} (h : CollK K L ss) {t : Int} {i a : Nat} (ho : kOk t i a) (hl : L t i a = true) : CollK K (fun t' i' a' => L t' i' a' && !decide (t' = t ∧ i' = i ∧ a' = a)) (ss ++ [(t, i, a)]) := by
  refine ⟨?_, fun x hx => ?_, fun t' i' a' ho' hk => ?_, fun x hx => ?_, fun t' i' a' ho' hl' => h.has t' i' a' ho' (by simp only [Bool.and_eq_true] at hl'; exact hl'.1)⟩
  · rw [List.nodup_append]
    refine ⟨h.nd, by simp, fun x hx y hy e => ?_⟩
    rw [List.mem_singleton] at hy
    subst hy
    subst e
    have := h.left _ hx
    rw [hl] at this; cases this
  · rcases List.mem_append.1 hx with hx | hx
    · exact h.mem x hx
    · rw [List.mem_singleton] at hx
      subst hx
      exact ⟨ho, h.has t i a ho hl⟩
  · by_cases hz : t' = t ∧ i' = i ∧ a' = a
    · obtain ⟨rfl, rfl, rfl⟩ := hz
      exact .inr (by simp)
    · rcases h.all t' i' a' ho' hk with h1 | h1
      · exact .inl (by rw [h1, decide_eq_false hz]; rfl)
      · exact .inr (List.mem_append_left _ h1)
  · rcases List.mem_append.1 hx with hx | hx
    · rw [h.left x hx]; rfl
    · rw [List.mem_singleton] at hx
      subst hx
      simp
theorem CollK.done {K : KMap} {L : Int → Nat → Nat → Bool} {ss : List K3} (h : CollK K L ss) (hl : ∀ t i a, kOk t i a → L t i a = false) : KeysOfM K ss :=
  ⟨h.nd, fun x hx => (h.mem x hx).1, fun t i a ho => ⟨fun hx => (h.mem _ hx).2, fun hk => by
    rcases h.all t i a ho hk with h1 | h1
    · rw [hl t i a ho] at h1; cases h1
    · exact h1⟩⟩
theorem key_same {t t' : Int} {i a i' a' : Nat} (ho' : kOk t' i' a') (ho : kOk t i a) : (keyL t' i' a').sameKey (keyL t i a) = decide (t' = t ∧ i' = i ∧ a' = a) := by
  by_cases hz : t' = t ∧ i' = i ∧ a' = a
  · obtain ⟨rfl, rfl, rfl⟩ := hz
    rw [decide_eq_true ⟨rfl, rfl, rfl⟩]; exact WideAt.sameKey_self trivial
  · rw [decide_eq_false hz, Bool.eq_false_iff]
    intro e
    exact hz (keyL_inj ho' ho (WideAt.sameKey_eq e))
theorem key_oneK (t : Int) (i a : Nat) : (#[.int .i64 t, .int .u32 i, .int .u32 a] : Array Value).all (·.oneCell') = true := by simp; exact ⟨rfl, rfl, rfl⟩
set_option maxRecDepth 100000 in
set_option maxHeartbeats 2000000 in
/-- the iterator's own function: the keys come, each once, in some order -/
theorem keys1K_in (F : Fence) (n : Nat) (h10 : F.fn 93) (hro : F.round = none) (hn : 1 ≤ n) (l Bm b N n0 : Nat) (K : KMap) (J : List K3 → World → Prop)
    (hY : ∀ pre x W, J pre W → pre.length < n0 → YieldAt F (n - 1) Try.prog l #[encK x] W fun e W' => e = .returned (.bool true) ∧ J (pre ++ [x]) W' ∧ KeepsWalks W W')
    (W : World) (hJ : AbidesFrom W.heap.size J) (hm : W.cell? ⟨Bm, 0, none⟩ = some (.map (some b))) (hK : KAt W b N K n0) (h0 : J [] W) :
    CallsIn F n Try.prog 93 #[.func (.yield l) #[] #[], .pointer (some ⟨Bm, 0, none⟩)] W fun e W' => (∃ v, e = .returned v) ∧ ∃ ss : List K3, KeysOfM K ss ∧ J ss W' := by
  obtain ⟨D, hown, hD, hsz⟩ := hK
  refine callsIn_of_wp Try.func93 rfl h10 ?_ hro
  simp only [Try.ntmps93, List.size_toArray, List.length_cons, List.length_nil, Nat.reduceAdd, Nat.reduceSub, Array.replicate_succ, Array.replicate_zero, List.push_toArray, List.append_toArray, List.nil_append, List.cons_append]
  gi_wp2_with (first
    | (gi_at_range; refine wpListIn_range_own _ rfl _ 84 rfl 25 29 keyedK Try.underlying84 _ b N _ rfl hown ?_; intro w0 hrg0 hg0 hs0)
    | gi_in)
  go_frame
  gi_loopw [3] (fun _ wr => ∃ (left : Lit → Bool) (L : Int → Nat → Nat → Bool) (cnt : Nat) (ss : List K3), wr.ranges Try.prog 25 KR b W.heap.size N D left cnt ∧ (∀ t i a, kOk t i a → left (keyL t i a) = L t i a) ∧ ss.length + cnt ≤ n0 ∧ CollK K L ss ∧ J ss wr)
    (fun _ wr => wr.rangeLeft b W.heap.size)
  case atStart =>
    exact ⟨_, _, _, [], hrg0, fun t i a ho => hD.has ho, by simp [hsz], CollK.start K, hJ [] W w0 none h0 hg0 (fun r e => by cases e)⟩
  case round =>
    obtain ⟨left, L, cnt, ss, hrg, hlL, hcs, hC, hJs⟩ := hrel
    gi_wp2_with (first
      | (gi_at_next; refine wpListIn_next_ranges _ rfl _ rfl 25 keyedK KR encK id (fun key kl hk => by obtain ⟨t, i, a, _, hx, _⟩ := key_inv hk; exact ⟨(t, i, a), hx⟩) (fun v _ _ => ⟨v, rfl⟩) b W.heap.size N _ _ _ rfl hrg ?_ ?_)
      | gi_in)
    · -- nothing is left
      intro hc0 hl0
      gi_wp2
      go_end0
      exact ⟨⟨_, rfl⟩, ss, hC.done (fun t i a ho => by rw [← hlL t i a ho]; exact hl0 _), hJs⟩
    · -- a key has come
      intro t0 i0 a0 c kl yd yp w2 cnt2 hkey hlk hv hat hrg2 hlt hg2 hs2 hen
      obtain ⟨t, i, a, ho, e1, e2⟩ := key_inv hkey
      obtain ⟨rfl, rfl, rfl⟩ : t0 = t ∧ i0 = i ∧ a0 = a := by have := encK_inj (x := (t0, i0, a0)) (y := (t, i, a)) e1; simpa using this
      subst e2
      have hJ2 : J ss w2 := hJ ss wr w2 (some W.heap.size) hJs hg2 (fun r e => by cases e; exact ⟨Nat.le_refl _, hrg.iter_walk⟩)
      have hJ3 : J ss (w2.alloc (.cells #[.int .i64 t0, .int .u32 i0, .int .u32 a0] 25)) := hJ ss w2 _ none hJ2 (World.grownBy_alloc w2 _ none) (fun r e => by cases e)
      obtain ⟨fn, tmps, assign, body, hy, hR⟩ := hY ss (t0, i0, a0) _ hJ3 (by omega)
      have hrg4 : (w2.alloc (.cells #[.int .i64 t0, .int .u32 i0, .int .u32 a0] 25)).ranges Try.prog 25 KR b W.heap.size N D (fun z => left z && !z.sameKey (keyL t0 i0 a0)) cnt2 := hrg2.of_walks (KeepsWalks.alloc _ _)
      have hrn : (w2.alloc (.cells #[.int .i64 t0, .int .u32 i0, .int .u32 a0] 25)).rangeAt w2.heap.size 0 [.int .i64 t0, .int .u32 i0, .int .u32 a0] := (BlkAt.new w2 25 [.int .i64 t0, .int .u32 i0, .int .u32 a0]).range
      clear hs2
      unfold encK keyA at hen hy
      simp only at hen hy
      gi_wp2_with (first
        | (refine wpListIn_store_newK rfl 25 (.tmp 3) (.tmp 9) rfl _ #[.int .i64 t0, .int .u32 i0, .int .u32 a0] rfl rfl keyInfoK rfl (key_oneK _ _ _) ?_)
        | (refine wpListIn_load_midK rfl 25 (.tmp 3) rfl w2.heap.size 0 rfl [.int .i64 t0, .int .u32 i0, .int .u32 a0] _ hrn Try.underlying25 rfl keyInfoK ?_)
        | gi_in)
      refine hR.mono ?_
      rintro e W3 ⟨rfl, hJ4, hk3⟩
      gi_wp2
      have hrg3 := hrg4.of_walks hk3
      go_roundw
      case rel => exact ⟨_, _, cnt2, ss ++ [(t0, i0, a0)], hrg3, fun t i a ho2 => by rw [hlL t i a ho2, key_same ho2 ho], by simp; omega, hC.step ho (by rw [← hlL t0 i0 a0 ho]; exact hlk), hJ4⟩
      case measure => rw [hrg3.left_eq, hrg.left_eq]; exact hlt
end Go.Proofs.Ytdaongflpllfhaa
/- A key of an Lsa, plain. -/
namespace Go.Proofs.Ytdaongflpllfhaa
structure KeyD where
  type : Int
  id : Nat
  adv : Nat
end Go.Proofs.Ytdaongflpllfhaa
/- Rows of structs in memory, of whatever kind; rows of the call's own (the first part of PA, for seats without packets). -/
namespace Go.Proofs.Ytdaongflpllfhaa
open Go.RowKit

/-- a slice of structs of sz cells reads as these -/
def RowsAt {α : Type} (sz : Nat) (cv : α → List Value) (w : World) (v : Value) (xs : List α) : Prop :=
  ∃ p c, v = .slice p xs.length c ∧ (p = none → c = 0) ∧ xs.length ≤ c ∧ (0 < xs.length → ∃ g o, p = some ⟨g, o, none⟩ ∧ ∀ i x, xs[i]? = some x → w.rangeAt g (o + i * sz) (cv x))
section
variable {α : Type} {sz : Nat} {cv : α → List Value}
theorem RowsAt.keepF {F : Nat → Prop} {w w' : World} {v : Value} {xs : List α} (h : RowsAt sz cv w v xs) (k : Keeps F w w') (hF : 0 < xs.length → ∀ i, v.ownBlock = some i → ¬ F i) : RowsAt sz cv w' v xs := by
  obtain ⟨p, c, rfl, hp, hc, h⟩ := h
  refine ⟨p, c, rfl, hp, hc, fun h0 => ?_⟩
  obtain ⟨g, o, rfl, hr⟩ := h h0
  exact ⟨g, o, rfl, fun i x hx => k.rangeAt (hr i x hx) (hF h0 g rfl)⟩
theorem RowsAt.keep {w w' : World} {v : Value} {xs : List α} (h : RowsAt sz cv w v xs) (k : Keeps (fun _ => False) w w') : RowsAt sz cv w' v xs := h.keepF k (fun _ _ _ f => f)
theorem RowsAt.nil (w : World) : RowsAt sz cv w (.slice none 0 0) ([] : List α) := ⟨none, 0, rfl, fun _ => rfl, Nat.le_refl _, fun h => by simp at h⟩
theorem RowsAt.slice {w : World} {v : Value} {xs : List α} (h : RowsAt sz cv w v xs) : ∃ p c, v = .slice p xs.length c := by
  obtain ⟨p, c, rfl, _⟩ := h; exact ⟨p, c, rfl⟩
theorem RowsAt.open {w : World} {p : Option Addr} {n c : Nat} {xs : List α} (h : RowsAt sz cv w (.slice p n c) xs) (h0 : 0 < xs.length) : ∃ g o, p = some ⟨g, o, none⟩ ∧ ∀ i x, xs[i]? = some x → w.rangeAt g (o + i * sz) (cv x) := by
  obtain ⟨p', c', e, -, -, hr⟩ := h
  injection e with e1 e2 e3
  subst e1
  exact hr h0
theorem RowsAt.len {w : World} {p : Option Addr} {n c : Nat} {xs : List α} (h : RowsAt sz cv w (.slice p n c) xs) : n = xs.length := by
  obtain ⟨p', c', e, _⟩ := h; injection e
theorem RowsAt.lt {w : World} {v : Value} {xs : List α} (h : RowsAt sz cv w v xs) (h0 : 0 < xs.length) (hcv : ∀ x, 0 < (cv x).length) : ∀ i, v.ownBlock = some i → i < w.heap.size := fun i e => by
  obtain ⟨p, c, rfl, -, -, hr⟩ := h
  obtain ⟨g, o, rfl, hra⟩ := hr h0
  simp only [Value.ownBlock, Option.some.injEq] at e
  subst e
  have := hra 0 xs[0] (List.getElem?_eq_getElem h0) 0 _ (List.getElem?_eq_getElem (hcv _))
  have := World.block_lt_of_cell? w _ this
  exact this

def rowCells (cv : α → List Value) (xs : List α) : List Value := xs.flatMap cv
theorem rowCells_len (hcv : ∀ x, (cv x).length = sz) (xs : List α) : (rowCells cv xs).length = xs.length * sz := by
  induction xs with
  | nil => simp [rowCells]
  | cons n ns ih => unfold rowCells at *; rw [List.flatMap_cons, List.length_append, ih, List.length_cons, hcv, Nat.add_mul]; omega
theorem rowCells_snoc (xs : List α) (x : α) : rowCells cv (xs ++ [x]) = rowCells cv xs ++ cv x := by unfold rowCells; simp
theorem rowCells_get (hcv : ∀ x, (cv x).length = sz) (xs : List α) : ∀ (i : Nat) (x : α), xs[i]? = some x → ∀ j, j < sz → (rowCells cv xs)[i * sz + j]? = (cv x)[j]? := by
  induction xs with
  | nil => intro i l h; simp at h
  | cons n ns ih =>
    intro i x h j hj
    have e : rowCells cv (n :: ns) = cv n ++ rowCells cv ns := by unfold rowCells; rw [List.flatMap_cons]
    rw [e, List.getElem?_append, hcv]
    cases i with
    | zero => simp at h; subst h; rw [if_pos (by omega)]; simp
    | succ i =>
      rw [if_neg (by rw [Nat.add_mul]; omega), ← ih i x (by simpa using h) j hj]; congr 1; rw [Nat.add_mul]; omega
/-- structs of the call's own -/
def OwnR (t : TypeId) (sz : Nat) (cv : α → List Value) (w0 w : World) (v : Value) (xs : List α) : Prop :=
  w.ownsRow 0 t sz v xs.length (rowCells cv xs) ∧ (∀ k, v.ownBlock = some k → w0.heap.size ≤ k) ∧ w0.heap.size ≤ w.heap.size
theorem OwnR.nil {t : TypeId} (w0 w : World) (h : w0.heap.size ≤ w.heap.size) : OwnR t sz cv w0 w (.slice none 0 0) ([] : List α) := ⟨⟨by simp [rowCells], .inl ⟨rfl, by simp [rowCells]⟩⟩, by simp [Value.ownBlock], h⟩
theorem OwnR.slice {t : TypeId} {w0 w : World} {v : Value} {xs : List α} (h : OwnR t sz cv w0 w v xs) : ∃ p c, v = .slice p xs.length c := ownsRow_slice h.1
theorem OwnR.keep {t : TypeId} {F : Nat → Prop} {w0 w w' : World} {v : Value} {xs : List α} (h : OwnR t sz cv w0 w v xs) (k : Keeps F w w') (hF : ∀ i, v.ownBlock = some i → ¬ F i) : OwnR t sz cv w0 w' v xs :=
  ⟨k.ownsRow h.1 hF, h.2.1, Nat.le_trans h.2.2 k.size⟩
theorem OwnR.older {t : TypeId} {w0 w1 w : World} {v : Value} {xs : List α} (h : OwnR t sz cv w1 w v xs) (hs : w0.heap.size ≤ w1.heap.size) : OwnR t sz cv w0 w v xs := ⟨h.1, fun k e => Nat.le_trans hs (h.2.1 k e), Nat.le_trans hs h.2.2⟩
theorem OwnR.at {t : TypeId} {w0 w : World} {v : Value} {xs : List α} (hcv : ∀ x, (cv x).length = sz) (h : OwnR t sz cv w0 w v xs) : RowsAt sz cv w v xs := by
  obtain ⟨p, c, rfl⟩ := h.slice
  rcases h.1.2 with ⟨e, h2⟩ | ⟨g, cap, cur, he, _, _, hle, _⟩
  · injection e with e1 e2 e3; subst e1; subst e3
    exact ⟨none, 0, rfl, fun _ => rfl, by omega, fun h0 => by omega⟩
  · injection he with e1 e2 e3
    subst e1; subst e3
    refine ⟨_, _, rfl, fun h => (by cases h), hle, fun h0 => ⟨g, 0, rfl, fun i l hl j u hu => ?_⟩⟩
    have hj : j < sz := by have := (List.getElem?_eq_some_iff.1 hu).1; rw [hcv] at this; exact this
    have := h.1.cells (g := g) rfl (i * sz + j) u (by rw [rowCells_get hcv xs i l hl j hj]; exact hu)
    rw [Addr.add_mid] at this
    rw [Nat.zero_add]; rw [Nat.zero_add] at this; exact this
/-- a struct behind structs of the call's own: one operation -/
theorem wp_append_r {P : Program} {w : World} {o : Oper} {a : Act} {K : Act → World → Prop} {Q : Exit → Act → World → Prop} (s x : Operand) (t e : TypeId)
    (ho : o.op = .call { callee := .builtin .append, args := #[s, x], argTypes := #[t, t] })
    (i : TypeInfo) (z : Value) (by_ : Nat) (ht : P.underlying t = some (.slice e)) (hi : P.info? e = some i) (hz : i.zero = some z) (hsize : i.size = sz) (hby : i.bytes = by_) (hzs : z.cells.size = sz) (hsz0 : 0 < sz) (hby1 : by_ ≤ 100000)
    (hcv : ∀ x, (cv x).length = sz) (w0 : World) (v : Value) (n : Nat) (xs : List α) (hn : xs.length = n) (hs : a.eval s = v) (hown : OwnR e sz cv w0 w v xs) (ad : Addr) (hx : a.eval x = .slice (some ad) 1 1) (l : α) (hl : ∀ j u, (cv l)[j]? = some u → w.cell? (ad.add j) = some u) (h1 : ∀ u ∈ cv l, u.oneCell' = true) (hsz : n ≤ 1000000000)
    (h : ∀ p c w', OwnR e sz cv w0 w' (.slice p (n + 1) c) (xs ++ [l]) → Grown w v p (n + 1) c w' → K (a.put o.dst (.slice p (n + 1) c)) w') : Oper.wp P o a w K Q := by
  subst hn
  have hb : (xs.length + 1) * by_ ≤ 1000000001 * 100000 := Nat.mul_le_mul (by omega) hby1
  obtain ⟨v', w', hr, h2, h3, h4⟩ := run_append_sep (P := P) w t o.type e i z sz by_ ht hi hz hsize hby hzs hsz0 v xs.length (rowCells cv xs) hown.1 ad 1 1 (cv l) (by rw [hcv]; omega) hl h1 (by unfold maxLen; omega) (by omega)
  obtain ⟨p, c, rfl⟩ := ownsRow_slice h2
  unfold Oper.wp execOp
  simp only [ho, resolve, invoke, builtin, Sem.run_bind, Sem.run_pure, Result.andThen_ok, List.map_toArray, List.map_cons, List.map_nil, hs, hx, hr]
  refine h p c w' ⟨by rw [rowCells_snoc]; simpa using h2, fun k e => ?_, Nat.le_trans hown.2.2 h3.size⟩ ⟨(Keeps.refl _ _).grown h3 (fun k e => .inl e), h4⟩
  rcases h4 k e with e | e
  · exact hown.2.1 k e
  · exact Nat.le_trans hown.2.2 e
theorem wpList_append_r {P : Program} {w : World} {ops : Array Oper} {rest : List Oper} {o : Oper} {a : Act} {Q : Exit → Act → World → Prop} (hgd : o.guard = none) (s x : Operand) (t e : TypeId)
    (ho : o.op = .call { callee := .builtin .append, args := #[s, x], argTypes := #[t, t] })
    (i : TypeInfo) (z : Value) (by_ : Nat) (ht : P.underlying t = some (.slice e)) (hi : P.info? e = some i) (hz : i.zero = some z) (hsize : i.size = sz) (hby : i.bytes = by_) (hzs : z.cells.size = sz) (hsz0 : 0 < sz) (hby1 : by_ ≤ 100000)
    (hcv : ∀ x, (cv x).length = sz) (w0 : World) (v : Value) (n : Nat) (xs : List α) (hn : xs.length = n) (hs : a.eval s = v) (hown : OwnR e sz cv w0 w v xs) (ad : Addr) (hx : a.eval x = .slice (some ad) 1 1) (l : α) (hl : ∀ j u, (cv l)[j]? = some u → w.cell? (ad.add j) = some u) (h1 : ∀ u ∈ cv l, u.oneCell' = true) (hsz : n ≤ 1000000000)
    (h : ∀ p c w', Hid (OwnR e sz cv w0 w' (.slice p (n + 1) c) (xs ++ [l])) → Hid (Grown w v p (n + 1) c w') → wpList P ops Q rest (a.put o.dst (.slice p (n + 1) c)) w') : wpList P ops Q (o :: rest) a w :=
  wpList_plain hgd fun _ hK => wp_append_r s x t e ho i z by_ ht hi hz hsize hby hzs hsz0 hby1 hcv w0 v n xs hn hs hown ad hx l hl h1 hsz (fun p c w' h1 h2 => hK _ _ (h p c w' (Lib.hid h1) (Lib.hid h2)))
end
theorem OwnR.keeps {α : Type} {t sz : Nat} {cv : α → List Value} {w0 W W' : World} {v : Value} {xs : List α} (h : OwnR t sz cv w0 W v xs) (k : Keeps (fun _ => False) w0 W) {p : Option Addr} {n c : Nat} (g : Grown W v p n c W') : Keeps (fun _ => False) w0 W' :=
  k.trans' g.k (fun i e => .inr (h.2.1 i e))

section
variable {α : Type} {sz : Nat} {cv : α → List Value}
/-- what a slice of rows is, cut -/
theorem RowsAt.take {w : World} {p : Option Addr} {n c : Nat} {xs : List α} (h : RowsAt sz cv w (.slice p n c) xs) (k : Nat) (hk : k ≤ xs.length) : RowsAt sz cv w (.slice p k c) (xs.take k) := by
  obtain ⟨p', c', e, hp, hc, hr⟩ := h
  injection e with e1 e2 e3
  subst e1; subst e3
  refine ⟨p, c, by rw [List.length_take, Nat.min_eq_left hk], hp, by rw [List.length_take]; omega, fun h0 => ?_⟩
  rw [List.length_take] at h0
  obtain ⟨g, o, rfl, hra⟩ := hr (by omega)
  refine ⟨g, o, rfl, fun i x hx => hra i x ?_⟩
  rw [List.getElem?_take] at hx
  split at hx
  · exact hx
  · cases hx
theorem RowsAt.drop {w : World} {g o n c : Nat} {xs : List α} (h : RowsAt sz cv w (.slice (some ⟨g, o, none⟩) n c) xs) (k : Nat) (hk : k ≤ xs.length) (c' : Nat) (hc' : xs.length - k ≤ c') : RowsAt sz cv w (.slice (some ⟨g, o + k * sz, none⟩) (xs.length - k) c') (xs.drop k) := by
  obtain ⟨p', c2, e, hp, hc, hr⟩ := h
  injection e with e1 e2 e3
  subst e1
  refine ⟨_, c', by rw [List.length_drop], fun h => (by cases h), by rw [List.length_drop]; exact hc', fun h0 => ⟨g, o + k * sz, rfl, fun i x hx => ?_⟩⟩
  rw [List.length_drop] at h0
  obtain ⟨g2, o2, e, hra⟩ := hr (by omega)
  injection e with e; injection e with e1 e2; subst e1; subst e2
  have := hra (k + i) x (by simpa [List.getElem?_drop] using hx)
  rw [Nat.add_mul, ← Nat.add_assoc] at this
  exact this
/-- a slice of rows from row k on, as the walk spells it -/
theorem RowsAt.from {w : World} {p : Option Addr} {n c : Nat} {xs : List α} (h : RowsAt sz cv w (.slice p n c) xs) (k : Nat) (hk : k ≤ xs.length) : RowsAt sz cv w (.slice (if c = k then p else Option.map (fun x => x.add (k * sz)) p) (xs.length - k) (c - k)) (xs.drop k) := by
  obtain ⟨p', c', e, hp, hc, hr⟩ := h
  injection e with e1 e2 e3
  subst e1; subst e3
  refine ⟨_, c - k, by rw [List.length_drop], fun h0 => ?_, by rw [List.length_drop]; omega, fun h0 => ?_⟩
  · split at h0
    · omega
    · cases p with
      | none => have := hp rfl; omega
      | some a => cases h0
  · rw [List.length_drop] at h0
    obtain ⟨g, o, rfl, hra⟩ := hr (by omega)
    refine ⟨g, o + k * sz, ?_, fun i x hx => ?_⟩
    · rw [if_neg (by omega), Option.map_some, Addr.add_mid]
    · have := hra (k + i) x (by simpa [List.getElem?_drop] using hx)
      rw [Nat.add_mul, ← Nat.add_assoc] at this
      exact this
theorem rowCells_app (xs ys : List α) : rowCells cv (xs ++ ys) = rowCells cv xs ++ rowCells cv ys := by unfold rowCells; simp
theorem rowCells_at {w : World} {v : Value} (hcv : ∀ x, (cv x).length = sz) (h0 : 0 < sz) {g o : Nat} (xs : List α) (hr : ∀ i x, xs[i]? = some x → w.rangeAt g (o + i * sz) (cv x)) : ∀ j u, (rowCells cv xs)[j]? = some u → w.cell? ⟨g, o + j, none⟩ = some u := by
  intro j u hu
  have hj : j < xs.length * sz := by rw [← rowCells_len hcv]; exact (List.getElem?_eq_some_iff.1 hu).1
  have hq : j / sz < xs.length := (Nat.div_lt_iff_lt_mul h0).2 hj
  have e : j = j / sz * sz + j % sz := by rw [Nat.mul_comm]; exact (Nat.div_add_mod j sz).symm
  have hm : j % sz < sz := Nat.mod_lt _ h0
  obtain ⟨x, hx⟩ : ∃ x, xs[j / sz]? = some x := ⟨_, List.getElem?_eq_getElem hq⟩
  rw [e, rowCells_get hcv xs _ x hx _ hm] at hu
  have := hr _ x hx (j % sz) u hu
  rw [Nat.add_assoc, ← e] at this
  exact this
/-- rows of whatever source behind rows of the call's own -/
theorem wp_append_rows {P : Program} {w : World} {o : Oper} {a : Act} {K : Act → World → Prop} {Q : Exit → Act → World → Prop} (s x : Operand) (t e : TypeId)
    (ho : o.op = .call { callee := .builtin .append, args := #[s, x], argTypes := #[t, t] })
    (i : TypeInfo) (z : Value) (by_ : Nat) (ht : P.underlying t = some (.slice e)) (hi : P.info? e = some i) (hz : i.zero = some z) (hsize : i.size = sz) (hby : i.bytes = by_) (hzs : z.cells.size = sz) (hsz0 : 0 < sz) (hby1 : by_ ≤ 100000)
    (hcv : ∀ x, (cv x).length = sz) (h1 : ∀ (x : α), ∀ u ∈ cv x, u.oneCell' = true) (w0 : World) (v : Value) (xs : List α) (hs : a.eval s = v) (hown : OwnR e sz cv w0 w v xs) (sv : Value) (hx : a.eval x = sv) (ys : List α) (hl : RowsAt sz cv w sv ys) (hsz : xs.length + ys.length ≤ 1000000000)
    (h : ∀ p c w', OwnR e sz cv w0 w' (.slice p (xs.length + ys.length) c) (xs ++ ys) → Grown w v p (xs.length + ys.length) c w' → K (a.put o.dst (.slice p (xs.length + ys.length) c)) w') : Oper.wp P o a w K Q := by
  obtain ⟨sp, sc, rfl, hp, -, hlr⟩ := hl
  have hb : (xs.length + ys.length) * by_ ≤ 1000000000 * 100000 := Nat.mul_le_mul hsz hby1
  have fin : ∀ {ad : Addr} {c2 : Nat}, a.eval x = .slice (some ad) ys.length c2 → (∀ j u, (rowCells cv ys)[j]? = some u → w.cell? (ad.add j) = some u) → Oper.wp P o a w K Q := by
    intro ad c2 hx hcl
    obtain ⟨v', w', hr, h2, h3, h4⟩ := run_append_sep (P := P) w t o.type e i z sz by_ ht hi hz hsize hby hzs hsz0 v xs.length (rowCells cv xs) hown.1 ad ys.length c2 (rowCells cv ys) (by rw [rowCells_len hcv]) hcl (fun u hu => by
      unfold rowCells at hu
      obtain ⟨y, _, hy⟩ := List.mem_flatMap.1 hu
      exact h1 y u hy) (by unfold maxLen; omega) (by omega)
    obtain ⟨p, c, rfl⟩ := ownsRow_slice h2
    unfold Oper.wp execOp
    simp only [ho, resolve, invoke, builtin, Sem.run_bind, Sem.run_pure, Result.andThen_ok, List.map_toArray, List.map_cons, List.map_nil, hs, hx, hr]
    refine h p c w' ⟨by rw [rowCells_app, List.length_append]; exact h2, fun k e => ?_, Nat.le_trans hown.2.2 h3.size⟩ ⟨(Keeps.refl _ _).grown h3 (fun k e => .inl e), h4⟩
    rcases h4 k e with e | e
    · exact hown.2.1 k e
    · exact Nat.le_trans hown.2.2 e
  cases sp with
  | none =>
    have h0 : ys.length = 0 := by
      rcases Nat.eq_zero_or_pos ys.length with h | h
      · exact h
      · obtain ⟨b, o, e, _⟩ := hlr h; cases e
    have hc := hp rfl
    subst hc
    have hl0 : ys = [] := List.length_eq_zero_iff.1 h0
    subst hl0
    obtain ⟨p, c, rfl⟩ := hown.slice
    have hrun := run_append_owned_none (P := P) (w := w) 0 t o.type e i sz ht hi (.slice p xs.length c) xs.length (rowCells cv xs) hown.1
    have hh := h p c w (by simpa using hown) ⟨Keeps.refl _ _, fun k e => .inl e⟩
    unfold Oper.wp
    simp [execOp, ho, resolve, invoke, builtin, hs, hx, hrun, Result.andThen]
    exact hh
  | some ad =>
    refine fin hx (fun j u hu => ?_)
    have h0 : 0 < ys.length := by
      have := (List.getElem?_eq_some_iff.1 hu).1
      rw [rowCells_len hcv] at this
      exact Nat.pos_of_ne_zero fun e => by rw [e] at this; omega
    obtain ⟨g, o2, e, hr⟩ := hlr h0
    injection e with e; subst e
    rw [Addr.add_mid]
    exact rowCells_at (v := .bool true) hcv hsz0 ys hr j u hu
end
end Go.Proofs.Ytdaongflpllfhaa
/- Rows of structs in memory, of whatever kind; rows of the call's own. -/
namespace Go.Proofs.Ytdaongflpllfhaa
open Go.RowKit

/-! a packet, plain -/
structure PackD where
  type : Int
  router : Nat
  area : Nat
  auth : List UInt8
  mask : Nat
  interval : Int
  dead : Int
  priority : Int
  dr : Nat
  bdr : Nat
  nbs : List Nat
  flags : Int
  seq : Nat
  heads : List HeadD
  keys : List KeyD
  lsas : List LsaD
def headVals (h : HeadD) : List Value := [.int .i64 h.age, .int .i64 h.type, .int .u32 h.id, .int .u32 h.adv, .int .i64 h.seq, .int .u16 h.sum, .int .i64 h.len]
def keyVals (k : KeyD) : List Value := [.int .i64 k.type, .int .u32 k.id, .int .u32 k.adv]
theorem headVals_len (h : HeadD) : (headVals h).length = 7 := rfl
theorem keyVals_len (k : KeyD) : (keyVals k).length = 3 := rfl
theorem headVals_one (h : HeadD) : ∀ u ∈ headVals h, u.oneCell' = true := by
  intro u hu; simp [headVals] at hu; rcases hu with rfl | rfl | rfl | rfl | rfl | rfl | rfl <;> rfl
theorem keyVals_one (h : KeyD) : ∀ u ∈ keyVals h, u.oneCell' = true := by
  intro u hu; simp [keyVals] at hu; rcases hu with rfl | rfl | rfl <;> rfl
/-- an Lsa in memory: what it tells, and where its lists lie -/
structure LsaM where
  d : LsaD
  p5 : Option Addr
  c5 : Nat
  p7 : Option Addr
  c7 : Nat
def lsaRow (m : LsaM) : List Value := [.int .i64 m.d.age, .int .i64 m.d.type, .int .u32 m.d.id, .int .u32 m.d.adv, .int .i64 m.d.seq, .slice m.p5 m.d.links.length m.c5, .int .u32 m.d.mask, .slice m.p7 m.d.routers.length m.c7, .int .i64 m.d.cost]
theorem lsaRow_len (m : LsaM) : (lsaRow m).length = 9 := rfl
theorem lsaRow_one (h : LsaM) : ∀ u ∈ lsaRow h, u.oneCell' = true := by
  intro u hu; simp [lsaRow] at hu; rcases hu with rfl | rfl | rfl | rfl | rfl | rfl | rfl | rfl | rfl <;> rfl
def LsaIn (w : World) (m : LsaM) : Prop := LinksAt w (.slice m.p5 m.d.links.length m.c5) m.d.links ∧ NumsAt w (.slice m.p7 m.d.routers.length m.c7) m.d.routers
theorem LsaIn.keep {w w' : World} {m : LsaM} (h : LsaIn w m) (k : Keeps (fun _ => False) w w') : LsaIn w' m := ⟨h.1.keep k, h.2.keep k⟩
/-- Lsas in memory -/
def LsasAt (w : World) (v : Value) (ls : List LsaD) : Prop := ∃ ms : List LsaM, ms.map (·.d) = ls ∧ RowsAt 9 lsaRow w v ms ∧ ∀ m ∈ ms, LsaIn w m
theorem LsasAt.keep {w w' : World} {v : Value} {x : List LsaD} (h : LsasAt w v x) (k : Keeps (fun _ => False) w w') : LsasAt w' v x := by
  obtain ⟨ms, h1, h2, h3⟩ := h
  exact ⟨ms, h1, h2.keep k, fun m hm => (h3 m hm).keep k⟩
theorem LsasAt.nil (w : World) : LsasAt w (.slice none 0 0) [] := ⟨[], rfl, RowsAt.nil w, by simp⟩
theorem LsasAt.slice {w : World} {v : Value} {x : List LsaD} (h : LsasAt w v x) : ∃ p c, v = .slice p x.length c := by
  obtain ⟨ms, rfl, h2, _⟩ := h
  obtain ⟨p, c, e⟩ := h2.slice
  exact ⟨p, c, by rw [e, List.length_map]⟩
def HeadsAt (w : World) (v : Value) (hs : List HeadD) : Prop := RowsAt 7 headVals w v hs
def KeysAt (w : World) (v : Value) (ks : List KeyD) : Prop := RowsAt 3 keyVals w v ks
/-- a packet's cells -/
def packCells (p : PackD) (vn vh vk vl : Value) : List Value :=
  [.int .i64 p.type, .int .u32 p.router, .int .u32 p.area, .string ⟨p.auth.toArray⟩, .int .u32 p.mask, .int .i64 p.interval, .int .i64 p.dead, .int .i64 p.priority, .int .u32 p.dr, .int .u32 p.bdr, vn, .int .i64 p.flags, .int .u32 p.seq, vh, vk, vl]
structure PackIn (w : World) (p : PackD) (vn vh vk vl : Value) : Prop where
  n : NumsAt w vn p.nbs
  h : HeadsAt w vh p.heads
  k : KeysAt w vk p.keys
  l : LsasAt w vl p.lsas
theorem PackIn.keep {w w' : World} {p : PackD} {vn vh vk vl : Value} (h : PackIn w p vn vh vk vl) (k : Keeps (fun _ => False) w w') : PackIn w' p vn vh vk vl := ⟨h.n.keep k, RowsAt.keep h.h k, RowsAt.keep h.k k, h.l.keep k⟩
end Go.Proofs.Ytdaongflpllfhaa
