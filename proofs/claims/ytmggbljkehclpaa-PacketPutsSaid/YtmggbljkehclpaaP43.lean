/- QI -/
import Derived.Test.YtmggbljkehclpaaP13
import Derived.Test.YtmggbljkehclpaaP42
set_option linter.unusedVariables false
set_option linter.unusedSimpArgs false
namespace Go.Proofs.Ytmggbljkehclpaa
open Go.ChangeShapes Go.WideShapes Go.ChangeAt Go.RowKit Go.Deep
theorem list10 {α : Type} {l : List α} (h : l.length = 10) : ∃ a b c d e f g i j k, l = [a, b, c, d, e, f, g, i, j, k] := by
 match l, h with
 | [a, b, c, d, e, f, g, i, j, k], _ => exact ⟨a, b, c, d, e, f, g, i, j, k, rfl⟩
theorem list5 {α : Type} {l : List α} (h : l.length = 5) : ∃ a b c d e, l = [a, b, c, d, e] := by
 match l, h with
 | [a, b, c, d, e], _ => exact ⟨a, b, c, d, e, rfl⟩
theorem list16 {α : Type} {l : List α} (h : l.length = 16) : ∃ a b c d e f g i j k m n o p q r, l = [a, b, c, d, e, f, g, i, j, k, m, n, o, p, q, r] := by
 match l, h with
 | [a, b, c, d, e, f, g, i, j, k, m, n, o, p, q, r], _ => exact ⟨a, b, c, d, e, f, g, i, j, k, m, n, o, p, q, r, rfl⟩
theorem cU16 : Try.prog.cellsOf 61 = 1 := by kernel_rfl
theorem cStr : Try.prog.cellsOf 9 = 1 := by kernel_rfl
theorem cHead : Try.prog.cellsOf 73 = 7 := by kernel_rfl
theorem cHeads : Try.prog.cellsOf 26 = 1 := by kernel_rfl
theorem cKeys : Try.prog.cellsOf 27 = 1 := by kernel_rfl
theorem cLsas : Try.prog.cellsOf 28 = 1 := by kernel_rfl
theorem cGreet : Try.prog.cellsOf 25 = 7 := by kernel_rfl
theorem cPack : Try.prog.cellsOf 30 = 16 := by kernel_rfl
theorem bHead : Try.prog.bytesOf 73 = 48 := by kernel_rfl
theorem bKey : Try.prog.bytesOf 71 = 16 := by kernel_rfl
theorem bLsa : Try.prog.bytesOf 80 = 96 := by kernel_rfl
section
variable {H : Type} {enc : TypeId × Value → H} {W : World}
theorem k0l {P : Program} {e : TypeId} {ds : List (DataW H)} {d : DataW H} (hd : d ∈ ds) {n : Nat} (hn : n ∈ d.weights P e) : n ∈ DataW.weightsAll P e ds := by
 induction ds with
 | nil => cases hd
 | cons a l ih =>
  simp only [DataW.weightsAll, List.mem_append]
  rcases List.mem_cons.1 hd with rfl | h
  ·exact .inl hn
  ·exact .inr (ih h)
theorem wf_u16 {n : Int} (h : (Lit.int .u16 n).wf = true) : ∃ m : Nat, n = (m : Int) ∧ m < 65536 := by
 simp [Lit.wf, IntKind.min, IntKind.max, IntKind.signed, IntKind.bits] at h
 exact ⟨n.toNat, by omega, by omega⟩
theorem j0w {α : Type} {sz by' : Nat} {cv : α → List Value} {t e : TypeId} (ht : Try.prog.underlying t = some (.slice e)) (hcz : Try.prog.cellsOf e = sz) (hby : Try.prog.bytesOf e = by') (hsz : 0 < sz) (hlen : ∀ a, (cv a).length = sz) (good : α → Prop)
 (hget : ∀ (fuel : Nat) (cs : List Value) (x : DataW H × List MemPlace), cs.length = sz → DataW.trod enc Try.prog W 0 (fun _ => true) true fuel e cs = some x → (∀ n ∈ x.1.weights Try.prog e, n ≤ reachBytes) → ∃ a, good a ∧ cs = cv a)
 {fuel : Nat} {x0 : Value} {x : DataW H × List MemPlace} (h : DataW.trod enc Try.prog W 0 (fun _ => true) true fuel t [x0] = some x) (hs : ∀ n ∈ x.1.weights Try.prog t, n ≤ reachBytes) :
 ∃ (ls : List α) (p : Option Addr) (c : Nat), x0 = .slice p ls.length c ∧ a0s sz cv W (.slice p ls.length c) ls ∧ (∀ l ∈ ls, good l) ∧ ls.length * by' ≤ 140737488351232 ∧ ls.length ≤ 9223372036854775807 := by
 rcases Go.Deep.open_slice ht h with ⟨hcs, -⟩ | ⟨a, len, cap, m, n, D, Pl, hcs, -, hlc, hm, hmm, hx, hall⟩
 ·injection hcs with hcs _; subst hcs
  exact ⟨[], none, 0, rfl, a0s.nil _, by simp, by simp, by simp⟩
 ·injection hcs with hcs _; subst hcs
  simp only [if_true] at hmm
  subst hmm
  subst hx
  have hw := hs ((len + (m - len)) * by') (by simp [DataW.weights, ht, hby])
  have hcap : m * by' ≤ 140737488351232 := by
   have e : len + (m - len) = m := by omega
   rw [e] at hw; exact hw
  have hex : ∀ i, i < len → ∃ l : α, good l ∧ ∀ j, j < sz → W.cell? ((a.add (i * sz)).add j) = (cv l)[j]? := fun i hi => by
   obtain ⟨cs', h1, h2⟩ := hall i (by omega)
   rw [hcz] at h1
   obtain ⟨-, hl, hc⟩ := World.cells?_some h1
   obtain ⟨l, hok, rfl⟩ := hget _ _ _ hl h2 (fun q hq => hs q (by
    simp only [DataW.weights, ht, List.mem_cons, List.mem_append]
    exact .inr (.inl (k0l (List.mem_map.2 ⟨i, List.mem_range.2 hi, rfl⟩) hq))))
   exact ⟨l, hok, hc⟩
  obtain ⟨ls, hlen2, hls⟩ := k0i len _ hex
  refine ⟨ls, some a, m, by rw [hlen2], ⟨some a, m, rfl, (fun e => nomatch e), by rw [hlen2]; exact hlc, fun h0 => ?_⟩, ?_, by rw [hlen2]; exact Nat.le_trans (Nat.mul_le_mul_right _ hlc) hcap, by rw [hlen2]; unfold maxLen at hm; omega⟩
  ·obtain ⟨b, o, s⟩ := a
   have h00 := (hls 0 ls[0] (List.getElem?_eq_getElem h0)).2 0 hsz
   have hcv0 : 0 < (cv ls[0]).length := by rw [hlen]; exact hsz
   have hsn : s = none := by simpa [Addr.add] using World.cell?_spot (h00.trans (List.getElem?_eq_getElem hcv0))
   subst hsn
   refine ⟨b, o, rfl, fun i l hl j u hu => ?_⟩
   have hj : j < sz := by have := (List.getElem?_eq_some_iff.1 hu).1; rw [hlen] at this; exact this
   have := (hls i l hl).2 j hj
   rw [hu, Addr.add_mid, Addr.add_mid] at this
   exact this
  ·intro l hl
   obtain ⟨i, hi, rfl⟩ := List.mem_iff_getElem.1 hl
   exact (hls i _ (List.getElem?_eq_getElem hi)).1
theorem l0y {fuel : Nat} {cs : List Value} {x : DataW H × List MemPlace} (hl : cs.length = 3) (h : DataW.trod enc Try.prog W 0 (fun _ => true) true fuel 71 cs = some x) : ∃ k : KeyD, k.ok ∧ cs = b0m k := by
 obtain ⟨c0, c1, c2, rfl⟩ := list3 hl
 obtain ⟨xs, n, -, -, -, hlen, hf⟩ := DataW.trod_struct Try.underlying71 h
 obtain ⟨y0, y1, y2, rfl⟩ := list3 hlen
 have f0 : DataW.trod enc Try.prog W 0 (fun _ => true) true n 3 ((([c0, c1, c2] : List Value).drop 0).take (Try.prog.cellsOf 3)) = some y0 := hf 0 _ rfl
 rw [cInt] at f0
 have f1 : DataW.trod enc Try.prog W 0 (fun _ => true) true n 22 ((([c0, c1, c2] : List Value).drop 1).take (Try.prog.cellsOf 22)) = some y1 := hf 1 _ rfl
 rw [cU32] at f1
 have f2 : DataW.trod enc Try.prog W 0 (fun _ => true) true n 22 ((([c0, c1, c2] : List Value).drop 2).take (Try.prog.cellsOf 22)) = some y2 := hf 2 _ rfl
 rw [cU32] at f2
 obtain ⟨n0, e0, -, -⟩ := DataW.trod_int Try.underlying3 f0
 obtain ⟨n1, e1, -, w1⟩ := DataW.trod_int Try.underlying22 f1
 obtain ⟨n2, e2, -, w2⟩ := DataW.trod_int Try.underlying22 f2
 injection e0 with e0 _; injection e1 with e1 _; injection e2 with e2 _
 subst e0; subst e1; subst e2
 obtain ⟨m1, rfl, b1⟩ := f0l w1
 obtain ⟨m2, rfl, b2⟩ := f0l w2
 exact ⟨⟨n0, m1, m2⟩, ⟨b1, b2⟩, rfl⟩
theorem r0l {fuel : Nat} {cs : List Value} {x : DataW H × List MemPlace} (hl : cs.length = 7) (h : DataW.trod enc Try.prog W 0 (fun _ => true) true fuel 73 cs = some x) : ∃ k : c0p, k.ok ∧ cs = b0d k := by
 obtain ⟨c0, c1, c2, c3, c4, c5, c6, rfl⟩ := list7 hl
 obtain ⟨xs, n, -, -, -, hlen, hf⟩ := DataW.trod_struct Try.underlying73 h
 obtain ⟨y0, y1, y2, y3, y4, rfl⟩ := list5 hlen
 have f0 : DataW.trod enc Try.prog W 0 (fun _ => true) true n 3 ((([c0, c1, c2, c3, c4, c5, c6] : List Value).drop 0).take (Try.prog.cellsOf 3)) = some y0 := hf 0 _ rfl
 rw [cInt] at f0
 have f1 : DataW.trod enc Try.prog W 0 (fun _ => true) true n 71 ((([c0, c1, c2, c3, c4, c5, c6] : List Value).drop 1).take (Try.prog.cellsOf 71)) = some y1 := hf 1 _ rfl
 rw [cKey] at f1
 have f2 : DataW.trod enc Try.prog W 0 (fun _ => true) true n 3 ((([c0, c1, c2, c3, c4, c5, c6] : List Value).drop 4).take (Try.prog.cellsOf 3)) = some y2 := hf 2 _ rfl
 rw [cInt] at f2
 have f3 : DataW.trod enc Try.prog W 0 (fun _ => true) true n 61 ((([c0, c1, c2, c3, c4, c5, c6] : List Value).drop 5).take (Try.prog.cellsOf 61)) = some y3 := hf 3 _ rfl
 rw [cU16] at f3
 have f4 : DataW.trod enc Try.prog W 0 (fun _ => true) true n 3 ((([c0, c1, c2, c3, c4, c5, c6] : List Value).drop 6).take (Try.prog.cellsOf 3)) = some y4 := hf 4 _ rfl
 rw [cInt] at f4
 obtain ⟨n0, e0, -, -⟩ := DataW.trod_int Try.underlying3 f0
 obtain ⟨k, hk, ek⟩ := l0y rfl f1
 obtain ⟨n2, e2, -, -⟩ := DataW.trod_int Try.underlying3 f2
 obtain ⟨n3, e3, -, w3⟩ := DataW.trod_int Try.underlying61 f3
 obtain ⟨n4, e4, -, -⟩ := DataW.trod_int Try.underlying3 f4
 injection e0 with e0 _; injection e2 with e2 _; injection e3 with e3 _; injection e4 with e4 _
 have ek' : [c1, c2, c3] = b0m k := ek
 unfold b0m at ek'
 injection ek' with k1 ek'; injection ek' with k2 ek'; injection ek' with k3 _
 subst e0; subst e2; subst e3; subst e4; subst k1; subst k2; subst k3
 obtain ⟨m3, rfl, b3⟩ := wf_u16 w3
 exact ⟨⟨n0, k.type, k.id, k.adv, n2, m3, n4⟩, ⟨hk.1, hk.2, b3⟩, rfl⟩
structure LsaC (W : World) (m : LsaM) : Prop where
 at' : f0j W m
 ok : m.d.ok
 ok' : n0m m.d
 ll : m.d.links.length * 24 ≤ 140737488351232
 rl : m.d.routers.length * 4 ≤ 140737488351232
theorem r09 {fuel : Nat} {cs : List Value} {x : DataW H × List MemPlace} (hl : cs.length = 9) (h : DataW.trod enc Try.prog W 0 (fun _ => true) true fuel 80 cs = some x) (hs : ∀ n ∈ x.1.weights Try.prog 80, n ≤ reachBytes) : ∃ m : LsaM, LsaC W m ∧ cs = d0t m := by
 obtain ⟨c0, c1, c2, c3, c4, c5, c6, c7, c8, rfl⟩ := list9 hl
 obtain ⟨xs, n, -, hx, -, hlen, hf⟩ := DataW.trod_struct Try.underlying80 h
 obtain ⟨y0, y1, y2, y3, y4, y5, y6, rfl⟩ := list7 hlen
 subst hx
 have f0 : DataW.trod enc Try.prog W 0 (fun _ => true) true n 3 ((([c0, c1, c2, c3, c4, c5, c6, c7, c8] : List Value).drop 0).take (Try.prog.cellsOf 3)) = some y0 := hf 0 _ rfl
 rw [cInt] at f0
 have f1 : DataW.trod enc Try.prog W 0 (fun _ => true) true n 71 ((([c0, c1, c2, c3, c4, c5, c6, c7, c8] : List Value).drop 1).take (Try.prog.cellsOf 71)) = some y1 := hf 1 _ rfl
 rw [cKey] at f1
 have f2 : DataW.trod enc Try.prog W 0 (fun _ => true) true n 3 ((([c0, c1, c2, c3, c4, c5, c6, c7, c8] : List Value).drop 4).take (Try.prog.cellsOf 3)) = some y2 := hf 2 _ rfl
 rw [cInt] at f2
 have f3 : DataW.trod enc Try.prog W 0 (fun _ => true) true n 78 ((([c0, c1, c2, c3, c4, c5, c6, c7, c8] : List Value).drop 5).take (Try.prog.cellsOf 78)) = some y3 := hf 3 _ rfl
 rw [cLinks] at f3
 have f4 : DataW.trod enc Try.prog W 0 (fun _ => true) true n 22 ((([c0, c1, c2, c3, c4, c5, c6, c7, c8] : List Value).drop 6).take (Try.prog.cellsOf 22)) = some y4 := hf 4 _ rfl
 rw [cU32] at f4
 have f5 : DataW.trod enc Try.prog W 0 (fun _ => true) true n 23 ((([c0, c1, c2, c3, c4, c5, c6, c7, c8] : List Value).drop 7).take (Try.prog.cellsOf 23)) = some y5 := hf 5 _ rfl
 rw [cNums] at f5
 have f6 : DataW.trod enc Try.prog W 0 (fun _ => true) true n 3 ((([c0, c1, c2, c3, c4, c5, c6, c7, c8] : List Value).drop 8).take (Try.prog.cellsOf 3)) = some y6 := hf 6 _ rfl
 rw [cInt] at f6
 obtain ⟨n0, e0, -, w0⟩ := DataW.trod_int Try.underlying3 f0
 obtain ⟨n2, e2, -, w2⟩ := DataW.trod_int Try.underlying3 f2
 obtain ⟨n4, e4, -, w4⟩ := DataW.trod_int Try.underlying22 f4
 obtain ⟨n6, e6, -, w6⟩ := DataW.trod_int Try.underlying3 f6
 have f1' := f1
 obtain ⟨zs, n2x, -, -, -, hlen2, hk⟩ := DataW.trod_struct Try.underlying71 f1
 obtain ⟨z0, z1, z2, rfl⟩ := list3 hlen2
 have k0 : DataW.trod enc Try.prog W 0 (fun _ => true) true n2x 3 ((([c1, c2, c3] : List Value).drop 0).take (Try.prog.cellsOf 3)) = some z0 := hk 0 _ rfl
 rw [cInt] at k0
 obtain ⟨m0, g0, -, u0⟩ := DataW.trod_int Try.underlying3 k0
 injection g0 with g0 _
 obtain ⟨k, hk2, ek⟩ := l0y rfl f1'
 have ek' : [c1, c2, c3] = b0m k := ek
 unfold b0m at ek'
 injection ek' with k1 ek'; injection ek' with k2 ek'; injection ek' with k3 _
 injection e0 with e0 _; injection e2 with e2 _; injection e4 with e4 _; injection e6 with e6 _
 obtain ⟨links, p5, q5, rfl, hL, hlok, hll⟩ := q07 f3 (fun q hq => hs q (by
  simp only [DataW.weights, Try.underlying80]
  exact DataW.weights_mem_each (j := 3) (t := 78) (d := y3.1) rfl rfl q hq))
 obtain ⟨routers, p7, q7, rfl, hN, hrok, hrl⟩ := n01 f5 (fun q hq => hs q (by
  simp only [DataW.weights, Try.underlying80]
  exact DataW.weights_mem_each (j := 5) (t := 23) (d := y5.1) rfl rfl q hq))
 rw [k1] at g0
 injection g0 with _ g0
 obtain ⟨m4, rfl, b4⟩ := f0l w4
 subst e0; subst e2; subst e4; subst e6; subst k1; subst k2; subst k3
 have hty : -9223372036854775808 ≤ k.type ∧ k.type ≤ 9223372036854775807 := by rw [g0]; exact k0t u0
 exact ⟨⟨⟨n0, k.type, k.id, k.adv, n2, links, m4, routers, n6⟩, p5, q5, p7, q7⟩, ⟨⟨hL, hN⟩, ⟨k0t w0, hty, hk2.1, hk2.2, k0t w2, hlok, b4, hrok, k0t w6⟩, ⟨hlok, hrok, hk2.1, hk2.2, b4, (by show links.length ≤ _; omega), (by show routers.length ≤ _; omega)⟩, hll, hrl⟩, rfl⟩
structure s05 (W : World) (p : a0m) (pn ph pk pl : Option Addr) (cn ch ck cl : Nat) : Prop where
 at' : d0f W p (.slice pn p.nbs.length cn) (.slice ph p.heads.length ch) (.slice pk p.keys.length ck) (.slice pl p.lsas.length cl)
 ok : p.ok
 al : p.auth.length ≤ 9223372036854775807
 nl : p.nbs.length * 4 ≤ 140737488351232
 hl : p.heads.length * 48 ≤ 140737488351232
 kl : p.keys.length * 16 ≤ 140737488351232
 ll : p.lsas.length * 96 ≤ 140737488351232
 ls : ∃ ms : List LsaM, ms.map (·.d) = p.lsas ∧ a0s 9 d0t W (.slice pl p.lsas.length cl) ms ∧ ∀ m ∈ ms, LsaC W m
set_option maxRecDepth 100000 in
theorem o04 {base : Nat} {v : Value} {d : DataW H} {ps : List MemPlace} (hval : Value.okWide Try.prog W .any base 30 v) (h : DataW.Trod enc Try.prog W 0 (fun _ => true) true 30 v d ps) (hs : ∀ n ∈ d.weights Try.prog 30, n ≤ reachBytes) :
 ∃ (p : a0m) (pn ph pk pl : Option Addr) (cn ch ck cl : Nat), v = .agg (a0w p (.slice pn p.nbs.length cn) (.slice ph p.heads.length ch) (.slice pk p.keys.length ck) (.slice pl p.lsas.length cl)).toArray ∧ s05 W p pn ph pk pl cn ch ck cl := by
 obtain ⟨cs, rfl, hsz⟩ := okWide_struct Try.underlying30 hval
 rw [cPack] at hsz
 obtain ⟨x0, x1, x2, x3, x4, x5, x6, x7, x8, x9, x10, x11, x12, x13, x14, x15, hcs⟩ := list16 (show cs.toList.length = 16 by simpa using hsz)
 obtain rfl : cs = #[x0, x1, x2, x3, x4, x5, x6, x7, x8, x9, x10, x11, x12, x13, x14, x15] := by rw [← Array.toArray_toList (xs := cs), hcs]
 obtain ⟨fuel, hfu⟩ := h
 obtain ⟨xs, n, -, hx, -, hlen, hf⟩ := DataW.trod_struct Try.underlying30 hfu
 obtain ⟨y0, y1, y2, y3, y4, y5, y6, y7, y8, y9, rfl⟩ := list10 hlen
 injection hx with hd _
 subst hd
 have f0 : DataW.trod enc Try.prog W 0 (fun _ => true) true n 3 ((([x0, x1, x2, x3, x4, x5, x6, x7, x8, x9, x10, x11, x12, x13, x14, x15] : List Value).drop 0).take (Try.prog.cellsOf 3)) = some y0 := hf 0 _ rfl
 rw [cInt] at f0
 have f1 : DataW.trod enc Try.prog W 0 (fun _ => true) true n 22 ((([x0, x1, x2, x3, x4, x5, x6, x7, x8, x9, x10, x11, x12, x13, x14, x15] : List Value).drop 1).take (Try.prog.cellsOf 22)) = some y1 := hf 1 _ rfl
 rw [cU32] at f1
 have f2 : DataW.trod enc Try.prog W 0 (fun _ => true) true n 22 ((([x0, x1, x2, x3, x4, x5, x6, x7, x8, x9, x10, x11, x12, x13, x14, x15] : List Value).drop 2).take (Try.prog.cellsOf 22)) = some y2 := hf 2 _ rfl
 rw [cU32] at f2
 have f3 : DataW.trod enc Try.prog W 0 (fun _ => true) true n 9 ((([x0, x1, x2, x3, x4, x5, x6, x7, x8, x9, x10, x11, x12, x13, x14, x15] : List Value).drop 3).take (Try.prog.cellsOf 9)) = some y3 := hf 3 _ rfl
 rw [cStr] at f3
 have f4 : DataW.trod enc Try.prog W 0 (fun _ => true) true n 25 ((([x0, x1, x2, x3, x4, x5, x6, x7, x8, x9, x10, x11, x12, x13, x14, x15] : List Value).drop 4).take (Try.prog.cellsOf 25)) = some y4 := hf 4 _ rfl
 rw [cGreet] at f4
 have f5 : DataW.trod enc Try.prog W 0 (fun _ => true) true n 3 ((([x0, x1, x2, x3, x4, x5, x6, x7, x8, x9, x10, x11, x12, x13, x14, x15] : List Value).drop 11).take (Try.prog.cellsOf 3)) = some y5 := hf 5 _ rfl
 rw [cInt] at f5
 have f6 : DataW.trod enc Try.prog W 0 (fun _ => true) true n 22 ((([x0, x1, x2, x3, x4, x5, x6, x7, x8, x9, x10, x11, x12, x13, x14, x15] : List Value).drop 12).take (Try.prog.cellsOf 22)) = some y6 := hf 6 _ rfl
 rw [cU32] at f6
 have f7 : DataW.trod enc Try.prog W 0 (fun _ => true) true n 26 ((([x0, x1, x2, x3, x4, x5, x6, x7, x8, x9, x10, x11, x12, x13, x14, x15] : List Value).drop 13).take (Try.prog.cellsOf 26)) = some y7 := hf 7 _ rfl
 rw [cHeads] at f7
 have f8 : DataW.trod enc Try.prog W 0 (fun _ => true) true n 27 ((([x0, x1, x2, x3, x4, x5, x6, x7, x8, x9, x10, x11, x12, x13, x14, x15] : List Value).drop 14).take (Try.prog.cellsOf 27)) = some y8 := hf 8 _ rfl
 rw [cKeys] at f8
 have f9 : DataW.trod enc Try.prog W 0 (fun _ => true) true n 28 ((([x0, x1, x2, x3, x4, x5, x6, x7, x8, x9, x10, x11, x12, x13, x14, x15] : List Value).drop 15).take (Try.prog.cellsOf 28)) = some y9 := hf 9 _ rfl
 rw [cLsas] at f9
 obtain ⟨n0, e0, -, -⟩ := DataW.trod_int Try.underlying3 f0
 obtain ⟨n1, e1, -, w1⟩ := DataW.trod_int Try.underlying22 f1
 obtain ⟨n2, e2, -, w2⟩ := DataW.trod_int Try.underlying22 f2
 obtain ⟨S, e3, -, wS⟩ := DataW.trod_string Try.underlying9 f3
 obtain ⟨n5, e5, -, -⟩ := DataW.trod_int Try.underlying3 f5
 obtain ⟨n6, e6, -, w6⟩ := DataW.trod_int Try.underlying22 f6
 obtain ⟨zs, ng, -, hgx, -, hlen2, hg⟩ := DataW.trod_struct Try.underlying25 f4
 obtain ⟨z0, z1, z2, z3, z4, z5, z6, rfl⟩ := list7 hlen2
 have g0 : DataW.trod enc Try.prog W 0 (fun _ => true) true ng 22 ((([x4, x5, x6, x7, x8, x9, x10] : List Value).drop 0).take (Try.prog.cellsOf 22)) = some z0 := hg 0 _ rfl
 rw [cU32] at g0
 have g1 : DataW.trod enc Try.prog W 0 (fun _ => true) true ng 3 ((([x4, x5, x6, x7, x8, x9, x10] : List Value).drop 1).take (Try.prog.cellsOf 3)) = some z1 := hg 1 _ rfl
 rw [cInt] at g1
 have g2 : DataW.trod enc Try.prog W 0 (fun _ => true) true ng 3 ((([x4, x5, x6, x7, x8, x9, x10] : List Value).drop 2).take (Try.prog.cellsOf 3)) = some z2 := hg 2 _ rfl
 rw [cInt] at g2
 have g3 : DataW.trod enc Try.prog W 0 (fun _ => true) true ng 3 ((([x4, x5, x6, x7, x8, x9, x10] : List Value).drop 3).take (Try.prog.cellsOf 3)) = some z3 := hg 3 _ rfl
 rw [cInt] at g3
 have g4 : DataW.trod enc Try.prog W 0 (fun _ => true) true ng 22 ((([x4, x5, x6, x7, x8, x9, x10] : List Value).drop 4).take (Try.prog.cellsOf 22)) = some z4 := hg 4 _ rfl
 rw [cU32] at g4
 have g5 : DataW.trod enc Try.prog W 0 (fun _ => true) true ng 22 ((([x4, x5, x6, x7, x8, x9, x10] : List Value).drop 5).take (Try.prog.cellsOf 22)) = some z5 := hg 5 _ rfl
 rw [cU32] at g5
 have g6 : DataW.trod enc Try.prog W 0 (fun _ => true) true ng 23 ((([x4, x5, x6, x7, x8, x9, x10] : List Value).drop 6).take (Try.prog.cellsOf 23)) = some z6 := hg 6 _ rfl
 rw [cNums] at g6
 obtain ⟨a0, d0, -, u0⟩ := DataW.trod_int Try.underlying22 g0
 obtain ⟨a1, d1, -, -⟩ := DataW.trod_int Try.underlying3 g1
 obtain ⟨a2, d2, -, -⟩ := DataW.trod_int Try.underlying3 g2
 obtain ⟨a3, d3, -, -⟩ := DataW.trod_int Try.underlying3 g3
 obtain ⟨a4, d4, -, u4⟩ := DataW.trod_int Try.underlying22 g4
 obtain ⟨a5, d5, -, u5⟩ := DataW.trod_int Try.underlying22 g5
 have hW : ∀ (j : Nat) (t : TypeId) (y : DataW H × List MemPlace), ([3, 22, 22, 9, 25, 3, 22, 26, 27, 28] : List TypeId)[j]? = some t → [y0, y1, y2, y3, y4, y5, y6, y7, y8, y9][j]? = some y → ∀ q ∈ y.1.weights Try.prog t, q ≤ reachBytes := fun j t y ht hy q hq => hs q (by
  simp only [DataW.weights, Try.underlying30]
  exact DataW.weights_mem_each (j := j) (t := t) (d := y.1) ht (by rw [List.getElem?_map, hy]; rfl) q hq)
 obtain ⟨nbs, pn, cn, en, hN, hNs, hNl⟩ := n01 g6 (fun q hq => hW 4 _ y4 rfl rfl q (by
  rw [hgx]
  simp only [DataW.weights, Try.underlying25]
  exact DataW.weights_mem_each (j := 6) (t := 23) (d := z6.1) rfl rfl q hq))
 obtain ⟨heads, ph, ch, eh, hH, hHo, hHl, hHb⟩ := j0w (sz := 7) (cv := b0d) Try.underlying26 cHead bHead (by decide) b0r (fun k => k.ok) (fun _ _ _ hl h _ => r0l hl h) f7 (hW 7 _ y7 rfl rfl)
 obtain ⟨keys, pk, ck, ek, hK, hKo, hKl, hKb⟩ := j0w (sz := 3) (cv := b0m) Try.underlying27 cKey bKey (by decide) c0f (fun k => k.ok) (fun _ _ _ hl h _ => l0y hl h) f8 (hW 8 _ y8 rfl rfl)
 obtain ⟨ms, pl, cl, el, hL, hLo, hLl, hLb⟩ := j0w (sz := 9) (cv := d0t) Try.underlying28 cLsa bLsa (by decide) c0r (fun m => LsaC W m) (fun _ _ _ hl h hw => r09 hl h hw) f9 (hW 9 _ y9 rfl rfl)
 injection e0 with e0 _; injection e1 with e1 _; injection e2 with e2 _; injection e3 with e3 _; injection e5 with e5 _; injection e6 with e6 _
 injection d0 with d0 _; injection d1 with d1 _; injection d2 with d2 _; injection d3 with d3 _; injection d4 with d4 _; injection d5 with d5 _
 obtain ⟨m1, rfl, b1⟩ := f0l w1
 obtain ⟨m2, rfl, b2⟩ := f0l w2
 obtain ⟨m6, rfl, b6⟩ := f0l w6
 obtain ⟨v0, rfl, s0⟩ := f0l u0
 obtain ⟨v4, rfl, s4⟩ := f0l u4
 obtain ⟨v5, rfl, s5⟩ := f0l u5
 subst e0; subst e1; subst e2; subst e3; subst e5; subst e6; subst d0; subst d1; subst d2; subst d3; subst d4; subst d5
 subst en; subst eh; subst ek; subst el
 have hlm : (ms.map (·.d)).length = ms.length := List.length_map _
 have hSl : S.data.toList.length = S.size := Array.length_toList
 unfold maxLen at wS
 refine ⟨⟨n0, m1, m2, S.data.toList, v0, a1, a2, a3, v4, v5, nbs, n5, m6, heads, keys, ms.map (·.d)⟩, pn, ph, pk, pl, cn, ch, ck, cl, ?_, ?_⟩
 ·simp only [a0w, hlm]
 ·refine ⟨⟨hN, hH, hK, ⟨ms, rfl, ?_, fun m hm => (hLo m hm).at'⟩⟩, ⟨b1, b2, s0, s4, s5, b6, hNs, hHo, hKo, ?_, (by show nbs.length ≤ _; omega), hHb, hKb, ?_⟩, ?_, hNl, hHl, hKl, ?_, ⟨ms, rfl, ?_, hLo⟩⟩
  ·simpa only [hlm] using hL
  ·intro l hl
   obtain ⟨m, hm, rfl⟩ := List.mem_map.1 hl
   exact (hLo m hm).ok'
  ·show (ms.map (·.d)).length ≤ _
   rw [hlm]; exact hLb
  ·show S.data.toList.length ≤ _
   rw [hSl]; exact wS
  ·show (ms.map (·.d)).length * 96 ≤ _
   rw [hlm]; exact hLl
  ·simpa only [hlm] using hL
end
end Go.Proofs.Ytmggbljkehclpaa
