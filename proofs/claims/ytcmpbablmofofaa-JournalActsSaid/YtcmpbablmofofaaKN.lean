/- What came in: two numbers as an array, rows of truths, rows of acts. -/
import Derived.Test.YtcmpbablmofofaaI
import Derived.ProofKit
import Derived.OpenShut
import Derived.Deep.Grids
import Derived.Deep.Slices
namespace Go.Proofs.Ytcmpbablmofofaa
open Go.ChangeShapes Go.WideShapes Go.ChangeAt Go.RowKit Go.Deep
set_option linter.unusedVariables false

theorem cInt : Try.prog.cellsOf 3 = 1 := by kernel_rfl
/-- an address that holds a cell has no spot -/
theorem addr_plain {w : World} {a : Addr} {v : Value} (h : w.cell? (a.add 0) = some v) : ∃ b o, a = ⟨b, o, none⟩ := by
  obtain ⟨b, o, s⟩ := a
  have : s = none := by simpa [Addr.add] using World.cell?_spot h
  exact ⟨b, o, by rw [this]⟩

theorem bools_of {W : World} {a : Addr} {len cap : Nat} {B : Nat → Bool} (hl : len ≤ cap) (hm : cap ≤ maxLen) (hc : ∀ i, i < cap → W.cell? (a.add i) = some (.bool (B i))) : BoolsAt W (.slice (some a) len cap) ((List.range len).map B) := by
  have hlen : ((List.range len).map B).length = len := by simp
  refine ⟨some a, cap, by rw [hlen], by rw [hlen]; unfold maxLen at hm; omega, fun h0 => ?_⟩
  rw [hlen] at h0
  obtain ⟨b, o, rfl⟩ := addr_plain (hc 0 (by omega))
  refine ⟨b, o, rfl, fun j u hu => ?_⟩
  have hj : j < len := by have := (List.getElem?_eq_some_iff.1 hu).1; simpa using this
  have := hc j (by omega)
  rw [Addr.add_mid] at this
  rw [this]
  simp [hj] at hu
  rw [← hu]

theorem list_choose {α : Type} {n : Nat} {p : Nat → α → Prop} (h : ∀ i, i < n → ∃ x, p i x) : ∃ l : List α, l.length = n ∧ ∀ i (hi : i < l.length), p i l[i] := by
  induction n with
  | zero => exact ⟨[], rfl, fun i hi => absurd hi (Nat.not_lt_zero i)⟩
  | succ n ih =>
    obtain ⟨l, hl, hp⟩ := ih (fun i hi => h i (by omega))
    obtain ⟨x, hx⟩ := h n (by omega)
    refine ⟨l ++ [x], by simp [hl], fun i hi => ?_⟩
    by_cases e : i < l.length
    · rw [List.getElem_append_left e]; exact hp i e
    · have : i = n := by simp at hi; omega
      subst this
      rw [List.getElem_append_right (by omega)]
      simpa [hl] using hx

def i64 (x : Int) : Prop := -9223372036854775808 ≤ x ∧ x ≤ 9223372036854775807
structure JAct where
  what : Int
  size : Int
  b : UInt8
  mask : Int
  kept : List Bool
  kv : Value
def JAct.cells (a : JAct) : List Value := [.int .i64 a.what, .int .i64 a.size, .int .u8 a.b.toNat, .int .i64 a.mask, a.kv]
structure JActOk (w : World) (a : JAct) : Prop where
  what : i64 a.what
  size : i64 a.size
  mask : i64 a.mask
  kept : BoolsAt w a.kv a.kept
  kb : 0 < a.kept.length → ∀ k, a.kv.ownBlock = some k → k < w.heap.size
/-- a slice of acts reads as these -/
def JActsAt (w : World) (v : Value) (l : List JAct) : Prop :=
  ∃ p c, v = .slice p l.length c ∧ l.length ≤ 9223372036854775807 ∧ (∀ a ∈ l, JActOk w a) ∧ (0 < l.length → ∃ g o, p = some ⟨g, o, none⟩ ∧ ∀ j (hj : j < l.length), w.rangeAt g (o + j * 5) (l[j].cells))
theorem cArr2 : Try.prog.cellsOf 78 = 2 := by kernel_rfl
section
variable {H : Type} {enc : TypeId × Value → H} {W : World}
set_option maxRecDepth 100000 in
theorem arr2_came {base : Nat} {v : Value} {d : DataW H} {ps : List MemPlace} (hval : Value.okWide Try.prog W .any base 78 v) (h : DataW.Trod enc Try.prog W 0 (fun _ => true) true 78 v d ps) :
    ∃ a b : Int, v = .agg #[.int .i64 a, .int .i64 b] ∧ (-9223372036854775808 ≤ a ∧ a ≤ 9223372036854775807) ∧ (-9223372036854775808 ≤ b ∧ b ≤ 9223372036854775807) := by
  obtain ⟨cs, rfl, hsz, _⟩ : ∃ cs, v = .agg cs ∧ cs.size = Try.prog.cellsOf 78 ∧ Row.okWide Try.prog W .any base 78 cs := by
    have h2 := hval
    simp only [Value.okWide, Try.underlying78] at h2
    exact h2
  rw [cArr2] at hsz
  obtain ⟨l⟩ := cs
  match l, hsz with
  | [x0, x1], _ =>
    obtain ⟨fuel, hfu⟩ := h
    obtain ⟨xs, n, -, -, -, hlen, hf⟩ := DataW.trod_array Try.underlying78 hfu
    have f0 : DataW.trod enc Try.prog W 0 (fun _ => true) true n 3 ((([x0, x1] : List Value).drop (0 * Try.prog.cellsOf 3)).take (Try.prog.cellsOf 3)) = xs[0]? := hf 0 (by omega)
    have f1 : DataW.trod enc Try.prog W 0 (fun _ => true) true n 3 ((([x0, x1] : List Value).drop (1 * Try.prog.cellsOf 3)).take (Try.prog.cellsOf 3)) = xs[1]? := hf 1 (by omega)
    rw [cInt] at f0 f1
    rw [List.getElem?_eq_getElem (by omega)] at f0 f1
    obtain ⟨a, ea, -, wa⟩ := DataW.trod_int Try.underlying3 f0
    obtain ⟨b, eb, -, wb⟩ := DataW.trod_int Try.underlying3 f1
    simp at ea eb
    subst ea; subst eb
    simp [Lit.wf, IntKind.min, IntKind.max, IntKind.signed, IntKind.bits] at wa wb
    exact ⟨a, b, rfl, by omega, by omega⟩
end
section
variable {H : Type} {enc : TypeId × Value → H} {W : World}
theorem bools_open {fuel : Nat} {v : Value} {y : DataW H × List MemPlace} (hf : DataW.trod enc Try.prog W 0 (fun _ => true) true fuel 39 [v] = some y) :
    ∃ z, BoolsAt W v z ∧ (0 < z.length → ∀ k, v.ownBlock = some k → k < W.heap.size) := by
  rcases open_bools Try.underlying39 Try.underlying4 (by kernel_rfl) hf with ⟨hcs, _⟩ | ⟨x, l, c, B, hcs, _, hl, hm, _, hcell⟩
  · simp at hcs
    subst hcs
    exact ⟨[], ⟨none, 0, rfl, by simp, by simp⟩, by simp [Value.ownBlock]⟩
  · simp at hcs
    subst hcs
    refine ⟨_, bools_of hl hm hcell, fun h0 k hk => ?_⟩
    simp at h0
    have hlt := World.block_lt_of_cell? W _ (hcell 0 (by omega))
    simp only [Value.ownBlock, Option.some.injEq] at hk
    have e : (x.add 0).block = x.block := by cases x; unfold Addr.add; split <;> rfl
    omega

set_option maxRecDepth 100000 in
theorem i64_of {n : Int} (h : (Lit.int .i64 n).wf = true) : i64 n := by
  simp [Lit.wf, IntKind.min, IntKind.max, IntKind.signed, IntKind.bits] at h
  exact ⟨by omega, by omega⟩
set_option maxRecDepth 100000 in
theorem u8_of {n : Int} (h : (Lit.int .u8 n).wf = true) : ∃ B : UInt8, n = B.toNat := by
  simp [Lit.wf, IntKind.min, IntKind.max, IntKind.signed, IntKind.bits] at h
  exact ⟨UInt8.ofNat n.toNat, by simp; omega⟩

set_option maxRecDepth 100000 in
theorem jact_open {fuel : Nat} {cs : List Value} {y : DataW H × List MemPlace} (hf : DataW.trod enc Try.prog W 0 (fun _ => true) true fuel 66 cs = some y) : ∃ a : JAct, cs = a.cells ∧ JActOk W a := by
  obtain ⟨xs, n, _, _, hlen, hxl, hg⟩ := DataW.trod_struct Try.underlying66 hf
  have hc5 : Try.prog.cellsOf 66 = 5 := by kernel_rfl
  have c3 : Try.prog.cellsOf 3 = 1 := by kernel_rfl
  have c8 : Try.prog.cellsOf 5 = 1 := by kernel_rfl
  have c9 : Try.prog.cellsOf 39 = 1 := by kernel_rfl
  rw [hc5] at hlen
  match cs, hlen with
  | [v0, v1, v2, v3, v4], _ =>
    match xs, hxl with
    | [y0, y1, y2, y3, y4], _ =>
      have g0 := hg 0 _ rfl
      have g1 := hg 1 _ rfl
      have g2 := hg 2 _ rfl
      have g3 := hg 3 _ rfl
      have g4 := hg 4 _ rfl
      simp [c3, c8, c9] at g0 g1 g2 g3 g4
      obtain ⟨n0, e0, _, w0⟩ := DataW.trod_int Try.underlying3 g0
      obtain ⟨n1, e1, _, w1⟩ := DataW.trod_int Try.underlying3 g1
      obtain ⟨n2, e2, _, w2⟩ := DataW.trod_int Try.underlying5 g2
      obtain ⟨n3, e3, _, w3⟩ := DataW.trod_int Try.underlying3 g3
      obtain ⟨z, hz, hzb⟩ := bools_open g4
      obtain ⟨B, rfl⟩ := u8_of w2
      injection e0 with e0; injection e1 with e1; injection e2 with e2; injection e3 with e3
      subst e0; subst e1; subst e2; subst e3
      exact ⟨⟨n0, n1, B, n3, z, v4⟩, rfl, i64_of w0, i64_of w1, i64_of w3, hz, hzb⟩

set_option maxRecDepth 100000 in
theorem jacts_open {fuel : Nat} {v : Value} {y : DataW H × List MemPlace} (hf : DataW.trod enc Try.prog W 0 (fun _ => true) true fuel 56 [v] = some y) : ∃ l, JActsAt W v l := by
  rcases open_slice Try.underlying56 hf with ⟨hcs, _⟩ | ⟨a, len, cap, m, n, D, Pl, hcs, _, hl, hm, hmm, _, hi⟩
  · simp at hcs
    subst hcs
    exact ⟨[], none, 0, rfl, by simp, by simp, by simp⟩
  · simp at hcs
    subst hcs
    have hc5 : Try.prog.cellsOf 66 = 5 := by kernel_rfl
    rw [hc5] at hi
    have hlm : len ≤ m := by rw [hmm]; simp; omega
    have key : ∀ i, i < len → ∃ act : JAct, JActOk W act ∧ ∀ j, j < 5 → W.cell? ((a.add (i * 5)).add j) = act.cells[j]? := by
      intro i hil
      obtain ⟨cs', hc, ht⟩ := hi i (by omega)
      obtain ⟨act, rfl, hok⟩ := jact_open ht
      obtain ⟨_, _, hat⟩ := World.cells?_some hc
      exact ⟨act, hok, hat⟩
    obtain ⟨l, hll, hp⟩ := list_choose key
    refine ⟨l, some a, cap, by rw [hll], by unfold maxLen at hm; omega, fun act hact => ?_, fun h0 => ?_⟩
    · obtain ⟨j, hj, rfl⟩ := List.getElem_of_mem hact
      exact (hp j hj).1
    · have h00 := (hp 0 h0).2 0 (by omega)
      obtain ⟨b, o, rfl⟩ : ∃ b o, a = ⟨b, o, none⟩ := by
        have e : (a.add (0 * 5)).add 0 = a.add 0 := by simp [Addr.add]
        rw [e] at h00
        exact addr_plain (v := .int .i64 (l[0]).what) h00
      refine ⟨b, o, rfl, fun j hj i u hu => ?_⟩
      have hi5 : i < 5 := by have := (List.getElem?_eq_some_iff.1 hu).1; simpa [JAct.cells] using this
      have := (hp j hj).2 i hi5
      rw [Addr.add_mid, Addr.add_mid] at this
      rw [this]; exact hu
end

end Go.Proofs.Ytcmpbablmofofaa
