/- LAB -/
import Derived.Test.YtmggbljkehclpaaG14
import Derived.Deep.Grids
import Derived.Deep.Slices
import Derived.OpenShut
import Derived.ProofKit
import Derived.SizedLaws
set_option linter.unusedVariables false
set_option linter.unusedSimpArgs false
namespace Go.Proofs.Ytmggbljkehclpaa
open Go.ChangeShapes Go.WideShapes Go.ChangeAt Go.RowKit Go.Deep
theorem list7 {α : Type} {l : List α} (h : l.length = 7) : ∃ a b c d e f g, l = [a, b, c, d, e, f, g] := by
 match l, h with
 | [a, b, c, d, e, f, g], _ => exact ⟨a, b, c, d, e, f, g, rfl⟩
theorem list3 {α : Type} {l : List α} (h : l.length = 3) : ∃ a b c, l = [a, b, c] := by
 match l, h with
 | [a, b, c], _ => exact ⟨a, b, c, rfl⟩
theorem list4 {α : Type} {l : List α} (h : l.length = 4) : ∃ a b c d, l = [a, b, c, d] := by
 match l, h with
 | [a, b, c, d], _ => exact ⟨a, b, c, d, rfl⟩
theorem list9 {α : Type} {l : List α} (h : l.length = 9) : ∃ a b c d e f g i j, l = [a, b, c, d, e, f, g, i, j] := by
 match l, h with
 | [a, b, c, d, e, f, g, i, j], _ => exact ⟨a, b, c, d, e, f, g, i, j, rfl⟩
theorem cInt : Try.prog.cellsOf 3 = 1 := by kernel_rfl
theorem cU32 : Try.prog.cellsOf 22 = 1 := by kernel_rfl
theorem cKey : Try.prog.cellsOf 71 = 3 := by kernel_rfl
theorem cLink : Try.prog.cellsOf 107 = 4 := by kernel_rfl
theorem cLinks : Try.prog.cellsOf 78 = 1 := by kernel_rfl
theorem cNums : Try.prog.cellsOf 23 = 1 := by kernel_rfl
theorem cLsa : Try.prog.cellsOf 80 = 9 := by kernel_rfl
theorem bLink : Try.prog.bytesOf 107 = 24 := by kernel_rfl
theorem bU32 : Try.prog.bytesOf 22 = 4 := by kernel_rfl
theorem j0n {α : Type} (n : Nat) (P : Nat → α → Prop) (h : ∀ i, i < n → ∃ a, P i a) : ∃ l : List α, l.length = n ∧ ∀ i a, l[i]? = some a → P i a := by
 induction n with
 | zero => exact ⟨[], rfl, fun i a e => by simp at e⟩
 | succ n ih =>
  obtain ⟨l, hl, hP⟩ := ih (fun i hi => h i (by omega))
  obtain ⟨a, ha⟩ := h n (by omega)
  refine ⟨l ++ [a], by simp [hl], fun i b e => ?_⟩
  by_cases hi : i < l.length
  ·rw [List.getElem?_append_left hi] at e; exact hP i b e
  ·rw [List.getElem?_append_right (by omega)] at e
   have : i = n := by have := (List.getElem?_eq_some_iff.1 e).1; simp at this; omega
   subst this
   rw [hl, Nat.sub_self] at e
   injection e with e; subst e; exact ha
section
variable {H : Type} {enc : TypeId × Value → H} {W : World}
theorem f01 {n : Int} (h : (Lit.int .u32 n).wf = true) : ∃ m : Nat, n = (m : Int) ∧ m < 4294967296 := by
 simp [Lit.wf, IntKind.min, IntKind.max, IntKind.signed, IntKind.bits] at h
 exact ⟨n.toNat, by omega, by omega⟩
theorem j0z {n : Int} (h : (Lit.int .i64 n).wf = true) : -9223372036854775808 ≤ n ∧ n ≤ 9223372036854775807 := by
 simpa [Lit.wf, IntKind.min, IntKind.max, IntKind.signed, IntKind.bits] using h
theorem q0a {fuel : Nat} {cs : List Value} {x : DataW H × List MemPlace} (hl : cs.length = 4) (h : DataW.trod enc Try.prog W 0 (fun _ => true) true fuel 107 cs = some x) : ∃ l : b09, l.ok ∧ cs = b0l l := by
 obtain ⟨c0, c1, c2, c3, rfl⟩ := list4 hl
 obtain ⟨xs, n, -, -, -, hlen, hf⟩ := DataW.trod_struct Try.underlying107 h
 obtain ⟨y0, y1, y2, y3, rfl⟩ := list4 hlen
 have f0 : DataW.trod enc Try.prog W 0 (fun _ => true) true n 22 ((([c0, c1, c2, c3] : List Value).drop 0).take (Try.prog.cellsOf 22)) = some y0 := hf 0 _ rfl
 rw [cU32] at f0
 have f1 : DataW.trod enc Try.prog W 0 (fun _ => true) true n 22 ((([c0, c1, c2, c3] : List Value).drop 1).take (Try.prog.cellsOf 22)) = some y1 := hf 1 _ rfl
 rw [cU32] at f1
 have f2 : DataW.trod enc Try.prog W 0 (fun _ => true) true n 3 ((([c0, c1, c2, c3] : List Value).drop 2).take (Try.prog.cellsOf 3)) = some y2 := hf 2 _ rfl
 rw [cInt] at f2
 have f3 : DataW.trod enc Try.prog W 0 (fun _ => true) true n 3 ((([c0, c1, c2, c3] : List Value).drop 3).take (Try.prog.cellsOf 3)) = some y3 := hf 3 _ rfl
 rw [cInt] at f3
 obtain ⟨n0, e0, -, w0⟩ := DataW.trod_int Try.underlying22 f0
 obtain ⟨n1, e1, -, w1⟩ := DataW.trod_int Try.underlying22 f1
 obtain ⟨n2, e2, -, w2⟩ := DataW.trod_int Try.underlying3 f2
 obtain ⟨n3, e3, -, w3⟩ := DataW.trod_int Try.underlying3 f3
 injection e0 with e0 _; injection e1 with e1 _; injection e2 with e2 _; injection e3 with e3 _
 subst e0; subst e1; subst e2; subst e3
 obtain ⟨m0, rfl, b0⟩ := f01 w0
 obtain ⟨m1, rfl, b1⟩ := f01 w1
 exact ⟨⟨m0, m1, n2, n3⟩, ⟨b0, b1, j0z w2, j0z w3⟩, rfl⟩
theorem p01 {fuel : Nat} {x0 : Value} {x : DataW H × List MemPlace} (h : DataW.trod enc Try.prog W 0 (fun _ => true) true fuel 78 [x0] = some x) (hs : ∀ n ∈ x.1.weights Try.prog 78, n ≤ reachBytes) :
 ∃ (ls : List b09) (p : Option Addr) (c : Nat), x0 = .slice p ls.length c ∧ b02 W (.slice p ls.length c) ls ∧ (∀ l ∈ ls, l.ok) ∧ ls.length * 24 ≤ 140737488351232 := by
 rcases Go.Deep.open_slice Try.underlying78 h with ⟨hcs, -⟩ | ⟨a, len, cap, m, n, D, Pl, hcs, -, hlc, hm, hmm, hx, hall⟩
 ·injection hcs with hcs _; subst hcs
  exact ⟨[], none, 0, rfl, b02.nil _, by simp, by simp⟩
 ·injection hcs with hcs _; subst hcs
  simp only [if_true] at hmm
  subst hmm
  subst hx
  have hw := hs ((len + (m - len)) * 24) (by simp [DataW.weights, Try.underlying78, bLink])
  have hcap : m * 24 ≤ 140737488351232 := by
   have e : len + (m - len) = m := by omega
   rw [e] at hw; exact hw
  have hex : ∀ i, i < len → ∃ l : b09, l.ok ∧ ∀ j, j < 4 → W.cell? ((a.add (i * 4)).add j) = (b0l l)[j]? := fun i hi => by
   obtain ⟨cs', h1, h2⟩ := hall i (by omega)
   rw [cLink] at h1
   obtain ⟨-, hl, hc⟩ := World.cells?_some h1
   obtain ⟨l, hok, rfl⟩ := q0a hl h2
   exact ⟨l, hok, hc⟩
  obtain ⟨ls, hlen, hls⟩ := j0n len _ hex
  refine ⟨ls, some a, m, by rw [hlen], ⟨some a, m, rfl, (fun e => nomatch e), by rw [hlen]; exact hlc, fun h0 => ?_⟩, ?_, by rw [hlen]; omega⟩
  ·obtain ⟨b, o, s⟩ := a
   have h00 := (hls 0 ls[0] (List.getElem?_eq_getElem h0)).2 0 (by omega)
   have hsn : s = none := by simpa [Addr.add] using World.cell?_spot (h00.trans (show (b0l ls[0])[0]? = some (.int .u32 ls[0].id) from rfl))
   subst hsn
   refine ⟨b, o, rfl, fun i l hl j u hu => ?_⟩
   have hj : j < 4 := by have := (List.getElem?_eq_some_iff.1 hu).1; simpa [b0l] using this
   have := (hls i l hl).2 j hj
   rw [hu, Addr.add_mid, Addr.add_mid] at this
   exact this
  ·intro l hl
   obtain ⟨i, hi, rfl⟩ := List.mem_iff_getElem.1 hl
   exact (hls i _ (List.getElem?_eq_getElem hi)).1
theorem l0y {fuel : Nat} {x0 : Value} {x : DataW H × List MemPlace} (h : DataW.trod enc Try.prog W 0 (fun _ => true) true fuel 23 [x0] = some x) (hs : ∀ n ∈ x.1.weights Try.prog 23, n ≤ reachBytes) :
 ∃ (ns : List Nat) (p : Option Addr) (c : Nat), x0 = .slice p ns.length c ∧ a0u W (.slice p ns.length c) ns ∧ h06 ns ∧ ns.length * 4 ≤ 140737488351232 := by
 rcases open_ints Try.underlying23 Try.underlying22 cU32 h with ⟨hcs, -⟩ | ⟨a, len, cap, zs, hcs, -, hlc, hm, hz, hx, hcell, hwf⟩
 ·injection hcs with hcs _; subst hcs
  exact ⟨[], none, 0, rfl, a0u.nil _, (by intro n hn; simp at hn), by simp⟩
 ·injection hcs with hcs _; subst hcs
  simp only [if_true] at hz
  subst hx
  have hw := hs ((len + (cap - len)) * 4) (by simp [DataW.weights, Try.underlying23, bU32, lits]; omega)
  have hcap : cap * 4 ≤ 140737488351232 := by
   have e : len + (cap - len) = cap := by omega
   rw [e] at hw; exact hw
  have hn : ((zs.take len).map Int.toNat).length = len := by simp; omega
  refine ⟨(zs.take len).map Int.toNat, some a, cap, by rw [hn], ⟨some a, cap, by rw [hn], (fun e => nomatch e), by rw [hn]; exact hlc, fun h0 => ?_⟩, ?_, by rw [hn]; omega⟩
  ·rw [hn] at h0
   obtain ⟨b, o, s⟩ := a
   have hsn : s = none := by simpa [Addr.add] using World.cell?_spot (hcell 0 (by omega))
   subst hsn
   refine ⟨b, o, rfl, fun j u hu => ?_⟩
   have hj : j < len := by have := (List.getElem?_eq_some_iff.1 hu).1; simp at this; omega
   have hc := hcell j (by omega)
   rw [Addr.add_mid] at hc
   rw [hc]
   have hjz : j < zs.length := by omega
   simp only [List.getElem?_map, List.getElem?_take, hj, if_true, List.getElem?_eq_getElem hjz, Option.map_some, Option.some.injEq] at hu
   rw [← hu]
   have e : zs.getD j 0 = zs[j] := by simp [List.getD, List.getElem?_eq_getElem hjz]
   rw [e]
   obtain ⟨m, hm2, -⟩ := f01 (hwf zs[j] (List.getElem_mem hjz))
   unfold nv
   rw [hm2]; simp
  ·intro n hn
   obtain ⟨z, hz2, rfl⟩ := List.mem_map.1 hn
   obtain ⟨m, hm2, hlt⟩ := f01 (hwf z (List.mem_of_mem_take hz2))
   rw [hm2]; simpa using hlt
end
end Go.Proofs.Ytmggbljkehclpaa
