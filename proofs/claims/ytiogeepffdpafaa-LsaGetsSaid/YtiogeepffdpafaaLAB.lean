/- An Lsa of the document that came in. -/
import Derived.Test.YtiogeepffdpafaaLAA
import Derived.ProofKit
import Derived.OpenShut
import Derived.SizedLaws
import Derived.Deep.Grids
import Derived.Deep.Slices
namespace Go.Proofs.Ytiogeepffdpafaa
open Go.ChangeShapes Go.WideShapes Go.ChangeAt Go.RowKit Go.Deep
theorem list7 {α : Type} {l : List α} (h : l.length = 7) : ∃ a b c d e f g, l = [a, b, c, d, e, f, g] := by
  match l, h with
  | [a, b, c, d, e, f, g], _ => exact ⟨a, b, c, d, e, f, g, rfl⟩
theorem list3 {α : Type} {l : List α} (h : l.length = 3) : ∃ a b c, l = [a, b, c] := by
  match l, h with
  | [a, b, c], _ => exact ⟨a, b, c, rfl⟩
theorem list4 {α : Type} {l : List α} (h : l.length = 4) : ∃ a b c d, l = [a, b, c, d] := by
  match l, h with
  | [a, b, c, d], _ => exact ⟨a, b, c, d, rfl⟩
theorem list9 {α : Type} {l : List α} (h : l.length = 9) : ∃ a b c d e f g i j, l = [a, b, c, d, e, f, g, i, j] := by
  match l, h with
  | [a, b, c, d, e, f, g, i, j], _ => exact ⟨a, b, c, d, e, f, g, i, j, rfl⟩
theorem cInt : Try.prog.cellsOf 3 = 1 := by kernel_rfl
theorem cU32 : Try.prog.cellsOf 22 = 1 := by kernel_rfl
theorem cKey : Try.prog.cellsOf 24 = 3 := by kernel_rfl
theorem cLink : Try.prog.cellsOf 124 = 4 := by kernel_rfl
theorem cLinks : Try.prog.cellsOf 25 = 1 := by kernel_rfl
theorem cNums : Try.prog.cellsOf 26 = 1 := by kernel_rfl
theorem cLsa : Try.prog.cellsOf 28 = 9 := by kernel_rfl
theorem bLink : Try.prog.bytesOf 124 = 24 := by kernel_rfl
theorem bU32 : Try.prog.bytesOf 22 = 4 := by kernel_rfl
theorem choose_list {α : Type} (n : Nat) (P : Nat → α → Prop) (h : ∀ i, i < n → ∃ a, P i a) : ∃ l : List α, l.length = n ∧ ∀ i a, l[i]? = some a → P i a := by
  induction n with
  | zero => exact ⟨[], rfl, fun i a e => by simp at e⟩
  | succ n ih =>
    obtain ⟨l, hl, hP⟩ := ih (fun i hi => h i (by omega))
    obtain ⟨a, ha⟩ := h n (by omega)
    refine ⟨l ++ [a], by simp [hl], fun i b e => ?_⟩
    by_cases hi : i < l.length
    · rw [List.getElem?_append_left hi] at e; exact hP i b e
    · rw [List.getElem?_append_right (by omega)] at e
      have : i = n := by have := (List.getElem?_eq_some_iff.1 e).1; simp at this; omega
      subst this
      rw [hl, Nat.sub_self] at e
      injection e with e; subst e; exact ha
section
variable {H : Type} {enc : TypeId × Value → H} {W : World}
theorem wf_nat {n : Int} (h : (Lit.int .u32 n).wf = true) : ∃ m : Nat, n = (m : Int) ∧ m < 4294967296 := by
  simp [Lit.wf, IntKind.min, IntKind.max, IntKind.signed, IntKind.bits] at h
  exact ⟨n.toNat, by omega, by omega⟩
theorem wf_int {n : Int} (h : (Lit.int .i64 n).wf = true) : -9223372036854775808 ≤ n ∧ n ≤ 9223372036854775807 := by
  simpa [Lit.wf, IntKind.min, IntKind.max, IntKind.signed, IntKind.bits] using h
theorem link_came {fuel : Nat} {cs : List Value} {x : DataW H × List MemPlace} (hl : cs.length = 4) (h : DataW.trod enc Try.prog W 0 (fun _ => true) true fuel 124 cs = some x) : ∃ l : LinkD, l.ok ∧ cs = linkVals l := by
  obtain ⟨c0, c1, c2, c3, rfl⟩ := list4 hl
  obtain ⟨xs, n, -, -, -, hlen, hf⟩ := DataW.trod_struct Try.underlying124 h
  obtain ⟨y0, y1, y2, y3, rfl⟩ := list4 hlen
  have f0 : DataW.trod enc Try.prog W 0 (fun _ => true) true n 22 ((([c0, c1, c2, c3] : List Value).drop 0).take (Try.prog.cellsOf 22)) = some y0 := hf 0 _ rfl
  rw [cU32] at f0
  have f1 : DataW.trod enc Try.prog W 0 (fun _ => true) true n 22 ((([c0, c1, c2, c3] : List Value).drop 1).take (Try.prog.cellsOf 22)) = some y1 := hf 1 _ rfl
  rw [cU32] at f1
  have f2 : DataW.trod enc Try.prog W 0 (fun _ => true) true n 3 ((([c0, c1, c2, c3] : List Value).drop 2).take (Try.prog.cellsOf 3)) = some y2 := hf 2 _ rfl
  rw [cInt] at f2
  have f3 : DataW.trod enc Try.prog W 0 (fun _ => true) true n 3 ((([c0, c1, c2, c3] : List Value).drop 3).take (Try.prog.cellsOf 3)) = some y3 := hf 3 _ rfl
  rw [cInt] at f3
  obtain ⟨n0, e0, -, w0⟩ := DataW.trod_int Try.underlying22 f0
  obtain ⟨n1, e1, -, w1⟩ := DataW.trod_int Try.underlying22 f1
  obtain ⟨n2, e2, -, w2⟩ := DataW.trod_int Try.underlying3 f2
  obtain ⟨n3, e3, -, w3⟩ := DataW.trod_int Try.underlying3 f3
  injection e0 with e0 _; injection e1 with e1 _; injection e2 with e2 _; injection e3 with e3 _
  subst e0; subst e1; subst e2; subst e3
  obtain ⟨m0, rfl, b0⟩ := wf_nat w0
  obtain ⟨m1, rfl, b1⟩ := wf_nat w1
  exact ⟨⟨m0, m1, n2, n3⟩, ⟨b0, b1, wf_int w2, wf_int w3⟩, rfl⟩
theorem links_came {fuel : Nat} {x0 : Value} {x : DataW H × List MemPlace} (h : DataW.trod enc Try.prog W 0 (fun _ => true) true fuel 25 [x0] = some x) (hs : ∀ n ∈ x.1.weights Try.prog 25, n ≤ reachBytes) :
    ∃ (ls : List LinkD) (p : Option Addr) (c : Nat), x0 = .slice p ls.length c ∧ LinksAt W (.slice p ls.length c) ls ∧ (∀ l ∈ ls, l.ok) ∧ ls.length * 24 ≤ 140737488351232 := by
  rcases Go.Deep.open_slice Try.underlying25 h with ⟨hcs, -⟩ | ⟨a, len, cap, m, n, D, Pl, hcs, -, hlc, hm, hmm, hx, hall⟩
  · injection hcs with hcs _; subst hcs
    exact ⟨[], none, 0, rfl, LinksAt.nil _, by simp, by simp⟩
  · injection hcs with hcs _; subst hcs
    simp only [if_true] at hmm
    subst hmm
    subst hx
    have hw := hs ((len + (m - len)) * 24) (by simp [DataW.weights, Try.underlying25, bLink])
    have hcap : m * 24 ≤ 140737488351232 := by
      have e : len + (m - len) = m := by omega
      rw [e] at hw; exact hw
    have hex : ∀ i, i < len → ∃ l : LinkD, l.ok ∧ ∀ j, j < 4 → W.cell? ((a.add (i * 4)).add j) = (linkVals l)[j]? := fun i hi => by
      obtain ⟨cs', h1, h2⟩ := hall i (by omega)
      rw [cLink] at h1
      obtain ⟨-, hl, hc⟩ := World.cells?_some h1
      obtain ⟨l, hok, rfl⟩ := link_came hl h2
      exact ⟨l, hok, hc⟩
    obtain ⟨ls, hlen, hls⟩ := choose_list len _ hex
    refine ⟨ls, some a, m, by rw [hlen], ⟨some a, m, rfl, (fun e => nomatch e), by rw [hlen]; exact hlc, fun h0 => ?_⟩, ?_, by rw [hlen]; omega⟩
    · obtain ⟨b, o, s⟩ := a
      have h00 := (hls 0 ls[0] (List.getElem?_eq_getElem h0)).2 0 (by omega)
      have hsn : s = none := by simpa [Addr.add] using World.cell?_spot (h00.trans (show (linkVals ls[0])[0]? = some (.int .u32 ls[0].id) from rfl))
      subst hsn
      refine ⟨b, o, rfl, fun i l hl j u hu => ?_⟩
      have hj : j < 4 := by have := (List.getElem?_eq_some_iff.1 hu).1; simpa [linkVals] using this
      have := (hls i l hl).2 j hj
      rw [hu, Addr.add_mid, Addr.add_mid] at this
      exact this
    · intro l hl
      obtain ⟨i, hi, rfl⟩ := List.mem_iff_getElem.1 hl
      exact (hls i _ (List.getElem?_eq_getElem hi)).1
theorem nums_came {fuel : Nat} {x0 : Value} {x : DataW H × List MemPlace} (h : DataW.trod enc Try.prog W 0 (fun _ => true) true fuel 26 [x0] = some x) (hs : ∀ n ∈ x.1.weights Try.prog 26, n ≤ reachBytes) :
    ∃ (ns : List Nat) (p : Option Addr) (c : Nat), x0 = .slice p ns.length c ∧ NumsAt W (.slice p ns.length c) ns ∧ Small ns ∧ ns.length * 4 ≤ 140737488351232 := by
  rcases open_ints Try.underlying26 Try.underlying22 cU32 h with ⟨hcs, -⟩ | ⟨a, len, cap, zs, hcs, -, hlc, hm, hz, hx, hcell, hwf⟩
  · injection hcs with hcs _; subst hcs
    exact ⟨[], none, 0, rfl, NumsAt.nil _, (by intro n hn; simp at hn), by simp⟩
  · injection hcs with hcs _; subst hcs
    simp only [if_true] at hz
    subst hx
    have hw := hs ((len + (cap - len)) * 4) (by simp [DataW.weights, Try.underlying26, bU32, lits]; omega)
    have hcap : cap * 4 ≤ 140737488351232 := by
      have e : len + (cap - len) = cap := by omega
      rw [e] at hw; exact hw
    have hn : ((zs.take len).map Int.toNat).length = len := by simp; omega
    refine ⟨(zs.take len).map Int.toNat, some a, cap, by rw [hn], ⟨some a, cap, by rw [hn], (fun e => nomatch e), by rw [hn]; exact hlc, fun h0 => ?_⟩, ?_, by rw [hn]; omega⟩
    · rw [hn] at h0
      obtain ⟨b, o, s⟩ := a
      have hsn : s = none := by simpa [Addr.add] using World.cell?_spot (hcell 0 (by omega))
      subst hsn
      refine ⟨b, o, rfl, fun j u hu => ?_⟩
      have hj : j < len := by have := (List.getElem?_eq_some_iff.1 hu).1; simp at this; omega
      have hc := hcell j (by omega)
      rw [Addr.add_mid] at hc
      rw [hc]
      have hjz : j < zs.length := by omega
      simp only [List.getElem?_map, List.getElem?_take, hj, if_true, List.getElem?_eq_getElem hjz, Option.map_some, Option.some.injEq] at hu
      rw [← hu]
      have e : zs.getD j 0 = zs[j] := by simp [List.getD, List.getElem?_eq_getElem hjz]
      rw [e]
      obtain ⟨m, hm2, -⟩ := wf_nat (hwf zs[j] (List.getElem_mem hjz))
      unfold nv
      rw [hm2]; simp
    · intro n hn
      obtain ⟨z, hz2, rfl⟩ := List.mem_map.1 hn
      obtain ⟨m, hm2, hlt⟩ := wf_nat (hwf z (List.mem_of_mem_take hz2))
      rw [hm2]; simpa using hlt
set_option maxRecDepth 100000 in
theorem lsa_came {base : Nat} {v : Value} {d : DataW H} {ps : List MemPlace} (hval : Value.okWide Try.prog W .any base 28 v) (h : DataW.Trod enc Try.prog W 0 (fun _ => true) true 28 v d ps) (hs : ∀ n ∈ d.weights Try.prog 28, n ≤ reachBytes) :
    ∃ (age type seq cost : Int) (id adv mask : Nat) (links : List LinkD) (routers : List Nat) (p5 p7 : Option Addr) (c5 c7 : Nat), v = .agg #[.int .i64 age, .int .i64 type, .int .u32 id, .int .u32 adv, .int .i64 seq, .slice p5 links.length c5, .int .u32 mask, .slice p7 routers.length c7, .int .i64 cost] ∧
      LinksAt W (.slice p5 links.length c5) links ∧ NumsAt W (.slice p7 routers.length c7) routers ∧ links.length * 24 ≤ 140737488351232 ∧ routers.length * 4 ≤ 140737488351232 ∧ LsaD.ok ⟨age, type, id, adv, seq, links, mask, routers, cost⟩ := by
  obtain ⟨cs, rfl, hsz⟩ := okWide_struct Try.underlying28 hval
  rw [cLsa] at hsz
  obtain ⟨x0, x1, x2, x3, x4, x5, x6, x7, x8, hcs⟩ := list9 (show cs.toList.length = 9 by simpa using hsz)
  obtain rfl : cs = #[x0, x1, x2, x3, x4, x5, x6, x7, x8] := by rw [← Array.toArray_toList (xs := cs), hcs]
  obtain ⟨fuel, hfu⟩ := h
  obtain ⟨xs, n, -, hx, -, hlen, hf⟩ := DataW.trod_struct Try.underlying28 hfu
  obtain ⟨y0, y1, y2, y3, y4, y5, y6, rfl⟩ := list7 hlen
  injection hx with hd _
  subst hd
  have f0 : DataW.trod enc Try.prog W 0 (fun _ => true) true n 3 ((([x0, x1, x2, x3, x4, x5, x6, x7, x8] : List Value).drop 0).take (Try.prog.cellsOf 3)) = some y0 := hf 0 _ rfl
  rw [cInt] at f0
  have f1 : DataW.trod enc Try.prog W 0 (fun _ => true) true n 24 ((([x0, x1, x2, x3, x4, x5, x6, x7, x8] : List Value).drop 1).take (Try.prog.cellsOf 24)) = some y1 := hf 1 _ rfl
  rw [cKey] at f1
  have f2 : DataW.trod enc Try.prog W 0 (fun _ => true) true n 3 ((([x0, x1, x2, x3, x4, x5, x6, x7, x8] : List Value).drop 4).take (Try.prog.cellsOf 3)) = some y2 := hf 2 _ rfl
  rw [cInt] at f2
  have f3 : DataW.trod enc Try.prog W 0 (fun _ => true) true n 25 ((([x0, x1, x2, x3, x4, x5, x6, x7, x8] : List Value).drop 5).take (Try.prog.cellsOf 25)) = some y3 := hf 3 _ rfl
  rw [cLinks] at f3
  have f4 : DataW.trod enc Try.prog W 0 (fun _ => true) true n 22 ((([x0, x1, x2, x3, x4, x5, x6, x7, x8] : List Value).drop 6).take (Try.prog.cellsOf 22)) = some y4 := hf 4 _ rfl
  rw [cU32] at f4
  have f5 : DataW.trod enc Try.prog W 0 (fun _ => true) true n 26 ((([x0, x1, x2, x3, x4, x5, x6, x7, x8] : List Value).drop 7).take (Try.prog.cellsOf 26)) = some y5 := hf 5 _ rfl
  rw [cNums] at f5
  have f6 : DataW.trod enc Try.prog W 0 (fun _ => true) true n 3 ((([x0, x1, x2, x3, x4, x5, x6, x7, x8] : List Value).drop 8).take (Try.prog.cellsOf 3)) = some y6 := hf 6 _ rfl
  rw [cInt] at f6
  obtain ⟨n0, e0, -, w0⟩ := DataW.trod_int Try.underlying3 f0
  obtain ⟨n2x, e2, -, w2⟩ := DataW.trod_int Try.underlying3 f2
  obtain ⟨n4, e4, -, w4⟩ := DataW.trod_int Try.underlying22 f4
  obtain ⟨n6, e6, -, w6⟩ := DataW.trod_int Try.underlying3 f6
  obtain ⟨zs, n2, -, -, -, hlen2, hk⟩ := DataW.trod_struct Try.underlying24 f1
  obtain ⟨z0, z1, z2, rfl⟩ := list3 hlen2
  have k0 : DataW.trod enc Try.prog W 0 (fun _ => true) true n2 3 ((([x1, x2, x3] : List Value).drop 0).take (Try.prog.cellsOf 3)) = some z0 := hk 0 _ rfl
  rw [cInt] at k0
  have k1 : DataW.trod enc Try.prog W 0 (fun _ => true) true n2 22 ((([x1, x2, x3] : List Value).drop 1).take (Try.prog.cellsOf 22)) = some z1 := hk 1 _ rfl
  rw [cU32] at k1
  have k2 : DataW.trod enc Try.prog W 0 (fun _ => true) true n2 22 ((([x1, x2, x3] : List Value).drop 2).take (Try.prog.cellsOf 22)) = some z2 := hk 2 _ rfl
  rw [cU32] at k2
  obtain ⟨m0, g0, -, u0⟩ := DataW.trod_int Try.underlying3 k0
  obtain ⟨m1, g1, -, u1⟩ := DataW.trod_int Try.underlying22 k1
  obtain ⟨m2, g2, -, u2⟩ := DataW.trod_int Try.underlying22 k2
  injection e0 with e0 _; injection e2 with e2 _; injection e4 with e4 _; injection e6 with e6 _
  injection g0 with g0 _; injection g1 with g1 _; injection g2 with g2 _
  subst e0; subst e2; subst e4; subst e6; subst g0; subst g1; subst g2
  obtain ⟨i1, rfl, b1⟩ := wf_nat u1
  obtain ⟨i2, rfl, b2⟩ := wf_nat u2
  obtain ⟨i4, rfl, b4⟩ := wf_nat w4
  obtain ⟨links, p5, c5, rfl, hL, hlok, hll⟩ := links_came f3 (fun q hq => hs q (by
    simp only [DataW.weights, Try.underlying28]
    refine DataW.weights_mem_each (j := 3) (t := 25) (d := y3.1) rfl rfl q hq))
  obtain ⟨routers, p7, c7, rfl, hN, hrok, hrl⟩ := nums_came f5 (fun q hq => hs q (by
    simp only [DataW.weights, Try.underlying28]
    refine DataW.weights_mem_each (j := 5) (t := 26) (d := y5.1) rfl rfl q hq))
  exact ⟨n0, m0, n2x, n6, i1, i2, i4, links, routers, p5, p7, c5, c7, rfl, hL, hN, hll, hrl, ⟨wf_int w0, wf_int u0, b1, b2, wf_int w2, hlok, b4, hrok, wf_int w6⟩⟩
end
end Go.Proofs.Ytiogeepffdpafaa
