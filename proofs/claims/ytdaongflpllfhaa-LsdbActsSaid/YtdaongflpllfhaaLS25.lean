/- A packet of the document that came in (gen_qi.py writes this). -/
import Derived.Test.YtdaongflpllfhaaLS23
import Derived.Test.YtdaongflpllfhaaLS24
import Derived.Test.YtdaongflpllfhaaLS22
import Derived.Test.YtdaongflpllfhaaLS17
set_option linter.unusedVariables false
set_option linter.unusedSimpArgs false
namespace Go.Proofs.Ytdaongflpllfhaa
open Go.ChangeShapes Go.WideShapes Go.ChangeAt Go.RowKit Go.Deep
theorem list10 {α : Type} {l : List α} (h : l.length = 10) : ∃ a b c d e f g i j k, l = [a, b, c, d, e, f, g, i, j, k] := by
  match l, h with
  | [a, b, c, d, e, f, g, i, j, k], _ => exact ⟨a, b, c, d, e, f, g, i, j, k, rfl⟩
theorem list5 {α : Type} {l : List α} (h : l.length = 5) : ∃ a b c d e, l = [a, b, c, d, e] := by
  match l, h with
  | [a, b, c, d, e], _ => exact ⟨a, b, c, d, e, rfl⟩
theorem list16 {α : Type} {l : List α} (h : l.length = 16) : ∃ a b c d e f g i j k m n o p q r, l = [a, b, c, d, e, f, g, i, j, k, m, n, o, p, q, r] := by
  match l, h with
  | [a, b, c, d, e, f, g, i, j, k, m, n, o, p, q, r], _ => exact ⟨a, b, c, d, e, f, g, i, j, k, m, n, o, p, q, r, rfl⟩
theorem cU16 : Try.prog.cellsOf 80 = 1 := by kernel_rfl
theorem cStr : Try.prog.cellsOf 9 = 1 := by kernel_rfl
theorem cHead : Try.prog.cellsOf 95 = 7 := by kernel_rfl
theorem cKeys : Try.prog.cellsOf 58 = 1 := by kernel_rfl
theorem cLsas : Try.prog.cellsOf 44 = 1 := by kernel_rfl
theorem bHead : Try.prog.bytesOf 95 = 48 := by kernel_rfl
theorem bKey : Try.prog.bytesOf 45 = 16 := by kernel_rfl
theorem bLsa : Try.prog.bytesOf 48 = 96 := by kernel_rfl
section
variable {H : Type} {enc : TypeId × Value → H} {W : World}
theorem weightsAll_mem {P : Program} {e : TypeId} {ds : List (DataW H)} {d : DataW H} (hd : d ∈ ds) {n : Nat} (hn : n ∈ d.weights P e) : n ∈ DataW.weightsAll P e ds := by
  induction ds with
  | nil => cases hd
  | cons a l ih =>
    simp only [DataW.weightsAll, List.mem_append]
    rcases List.mem_cons.1 hd with rfl | h
    · exact .inl hn
    · exact .inr (ih h)
theorem wf_u16 {n : Int} (h : (Lit.int .u16 n).wf = true) : ∃ m : Nat, n = (m : Int) ∧ m < 65536 := by
  simp [Lit.wf, IntKind.min, IntKind.max, IntKind.signed, IntKind.bits] at h
  exact ⟨n.toNat, by omega, by omega⟩
/-- a slice of structs that came in -/
theorem rows_came {α : Type} {sz by' : Nat} {cv : α → List Value} {t e : TypeId} (ht : Try.prog.underlying t = some (.slice e)) (hcz : Try.prog.cellsOf e = sz) (hby : Try.prog.bytesOf e = by') (hsz : 0 < sz) (hlen : ∀ a, (cv a).length = sz) (good : α → Prop)
    (hget : ∀ (fuel : Nat) (cs : List Value) (x : DataW H × List MemPlace), cs.length = sz → DataW.trod enc Try.prog W 0 (fun _ => true) true fuel e cs = some x → (∀ n ∈ x.1.weights Try.prog e, n ≤ reachBytes) → ∃ a, good a ∧ cs = cv a)
    {fuel : Nat} {x0 : Value} {x : DataW H × List MemPlace} (h : DataW.trod enc Try.prog W 0 (fun _ => true) true fuel t [x0] = some x) (hs : ∀ n ∈ x.1.weights Try.prog t, n ≤ reachBytes) :
    ∃ (ls : List α) (p : Option Addr) (c : Nat), x0 = .slice p ls.length c ∧ RowsAt sz cv W (.slice p ls.length c) ls ∧ (∀ l ∈ ls, good l) ∧ ls.length * by' ≤ 140737488351232 ∧ ls.length ≤ 9223372036854775807 := by
  rcases Go.Deep.open_slice ht h with ⟨hcs, -⟩ | ⟨a, len, cap, m, n, D, Pl, hcs, -, hlc, hm, hmm, hx, hall⟩
  · injection hcs with hcs _; subst hcs
    exact ⟨[], none, 0, rfl, RowsAt.nil _, by simp, by simp, by simp⟩
  · injection hcs with hcs _; subst hcs
    simp only [if_true] at hmm
    subst hmm
    subst hx
    have hw := hs ((len + (m - len)) * by') (by simp [DataW.weights, ht, hby])
    have hcap : m * by' ≤ 140737488351232 := by
      have e : len + (m - len) = m := by omega
      rw [e] at hw; exact hw
    have hex : ∀ i, i < len → ∃ l : α, good l ∧ ∀ j, j < sz → W.cell? ((a.add (i * sz)).add j) = (cv l)[j]? := fun i hi => by
      obtain ⟨cs', h1, h2⟩ := hall i (by omega)
      rw [hcz] at h1
      obtain ⟨-, hl, hc⟩ := World.cells?_some h1
      obtain ⟨l, hok, rfl⟩ := hget _ _ _ hl h2 (fun q hq => hs q (by
        simp only [DataW.weights, ht, List.mem_cons, List.mem_append]
        exact .inr (.inl (weightsAll_mem (List.mem_map.2 ⟨i, List.mem_range.2 hi, rfl⟩) hq))))
      exact ⟨l, hok, hc⟩
    obtain ⟨ls, hlen2, hls⟩ := choose_list len _ hex
    refine ⟨ls, some a, m, by rw [hlen2], ⟨some a, m, rfl, (fun e => nomatch e), by rw [hlen2]; exact hlc, fun h0 => ?_⟩, ?_, by rw [hlen2]; exact Nat.le_trans (Nat.mul_le_mul_right _ hlc) hcap, by rw [hlen2]; unfold maxLen at hm; omega⟩
    · obtain ⟨b, o, s⟩ := a
      have h00 := (hls 0 ls[0] (List.getElem?_eq_getElem h0)).2 0 hsz
      have hcv0 : 0 < (cv ls[0]).length := by rw [hlen]; exact hsz
      have hsn : s = none := by simpa [Addr.add] using World.cell?_spot (h00.trans (List.getElem?_eq_getElem hcv0))
      subst hsn
      refine ⟨b, o, rfl, fun i l hl j u hu => ?_⟩
      have hj : j < sz := by have := (List.getElem?_eq_some_iff.1 hu).1; rw [hlen] at this; exact this
      have := (hls i l hl).2 j hj
      rw [hu, Addr.add_mid, Addr.add_mid] at this
      exact this
    · intro l hl
      obtain ⟨i, hi, rfl⟩ := List.mem_iff_getElem.1 hl
      exact (hls i _ (List.getElem?_eq_getElem hi)).1
theorem key_came {fuel : Nat} {cs : List Value} {x : DataW H × List MemPlace} (hl : cs.length = 3) (h : DataW.trod enc Try.prog W 0 (fun _ => true) true fuel 45 cs = some x) : ∃ k : KeyD, k.ok ∧ cs = keyVals k := by
  obtain ⟨c0, c1, c2, rfl⟩ := list3 hl
  obtain ⟨xs, n, -, -, -, hlen, hf⟩ := DataW.trod_struct Try.underlying45 h
  obtain ⟨y0, y1, y2, rfl⟩ := list3 hlen
  have f0 : DataW.trod enc Try.prog W 0 (fun _ => true) true n 3 ((([c0, c1, c2] : List Value).drop 0).take (Try.prog.cellsOf 3)) = some y0 := hf 0 _ rfl
  rw [cInt] at f0
  have f1 : DataW.trod enc Try.prog W 0 (fun _ => true) true n 23 ((([c0, c1, c2] : List Value).drop 1).take (Try.prog.cellsOf 23)) = some y1 := hf 1 _ rfl
  rw [cU32] at f1
  have f2 : DataW.trod enc Try.prog W 0 (fun _ => true) true n 23 ((([c0, c1, c2] : List Value).drop 2).take (Try.prog.cellsOf 23)) = some y2 := hf 2 _ rfl
  rw [cU32] at f2
  obtain ⟨n0, e0, -, -⟩ := DataW.trod_int Try.underlying3 f0
  obtain ⟨n1, e1, -, w1⟩ := DataW.trod_int Try.underlying23 f1
  obtain ⟨n2, e2, -, w2⟩ := DataW.trod_int Try.underlying23 f2
  injection e0 with e0 _; injection e1 with e1 _; injection e2 with e2 _
  subst e0; subst e1; subst e2
  obtain ⟨m1, rfl, b1⟩ := wf_nat w1
  obtain ⟨m2, rfl, b2⟩ := wf_nat w2
  exact ⟨⟨n0, m1, m2⟩, ⟨b1, b2⟩, rfl⟩
theorem head_came {fuel : Nat} {cs : List Value} {x : DataW H × List MemPlace} (hl : cs.length = 7) (h : DataW.trod enc Try.prog W 0 (fun _ => true) true fuel 95 cs = some x) : ∃ k : HeadD, k.ok ∧ cs = headVals k := by
  obtain ⟨c0, c1, c2, c3, c4, c5, c6, rfl⟩ := list7 hl
  obtain ⟨xs, n, -, -, -, hlen, hf⟩ := DataW.trod_struct Try.underlying95 h
  obtain ⟨y0, y1, y2, y3, y4, rfl⟩ := list5 hlen
  have f0 : DataW.trod enc Try.prog W 0 (fun _ => true) true n 3 ((([c0, c1, c2, c3, c4, c5, c6] : List Value).drop 0).take (Try.prog.cellsOf 3)) = some y0 := hf 0 _ rfl
  rw [cInt] at f0
  have f1 : DataW.trod enc Try.prog W 0 (fun _ => true) true n 45 ((([c0, c1, c2, c3, c4, c5, c6] : List Value).drop 1).take (Try.prog.cellsOf 45)) = some y1 := hf 1 _ rfl
  rw [cKey] at f1
  have f2 : DataW.trod enc Try.prog W 0 (fun _ => true) true n 3 ((([c0, c1, c2, c3, c4, c5, c6] : List Value).drop 4).take (Try.prog.cellsOf 3)) = some y2 := hf 2 _ rfl
  rw [cInt] at f2
  have f3 : DataW.trod enc Try.prog W 0 (fun _ => true) true n 80 ((([c0, c1, c2, c3, c4, c5, c6] : List Value).drop 5).take (Try.prog.cellsOf 80)) = some y3 := hf 3 _ rfl
  rw [cU16] at f3
  have f4 : DataW.trod enc Try.prog W 0 (fun _ => true) true n 3 ((([c0, c1, c2, c3, c4, c5, c6] : List Value).drop 6).take (Try.prog.cellsOf 3)) = some y4 := hf 4 _ rfl
  rw [cInt] at f4
  obtain ⟨n0, e0, -, -⟩ := DataW.trod_int Try.underlying3 f0
  obtain ⟨k, hk, ek⟩ := key_came rfl f1
  obtain ⟨n2, e2, -, -⟩ := DataW.trod_int Try.underlying3 f2
  obtain ⟨n3, e3, -, w3⟩ := DataW.trod_int Try.underlying80 f3
  obtain ⟨n4, e4, -, -⟩ := DataW.trod_int Try.underlying3 f4
  injection e0 with e0 _; injection e2 with e2 _; injection e3 with e3 _; injection e4 with e4 _
  have ek' : [c1, c2, c3] = keyVals k := ek
  unfold keyVals at ek'
  injection ek' with k1 ek'; injection ek' with k2 ek'; injection ek' with k3 _
  subst e0; subst e2; subst e3; subst e4; subst k1; subst k2; subst k3
  obtain ⟨m3, rfl, b3⟩ := wf_u16 w3
  exact ⟨⟨n0, k.type, k.id, k.adv, n2, m3, n4⟩, ⟨hk.1, hk.2, b3⟩, rfl⟩
/-- what is known of an Lsa that came in -/
structure LsaC (W : World) (m : LsaM) : Prop where
  at' : LsaIn W m
  ok : m.d.ok
  ok' : LsaOk m.d
  ll : m.d.links.length * 24 ≤ 140737488351232
  rl : m.d.routers.length * 4 ≤ 140737488351232
theorem lsam_came {fuel : Nat} {cs : List Value} {x : DataW H × List MemPlace} (hl : cs.length = 9) (h : DataW.trod enc Try.prog W 0 (fun _ => true) true fuel 48 cs = some x) (hs : ∀ n ∈ x.1.weights Try.prog 48, n ≤ reachBytes) : ∃ m : LsaM, LsaC W m ∧ cs = lsaRow m := by
  obtain ⟨c0, c1, c2, c3, c4, c5, c6, c7, c8, rfl⟩ := list9 hl
  obtain ⟨xs, n, -, hx, -, hlen, hf⟩ := DataW.trod_struct Try.underlying48 h
  obtain ⟨y0, y1, y2, y3, y4, y5, y6, rfl⟩ := list7 hlen
  subst hx
  have f0 : DataW.trod enc Try.prog W 0 (fun _ => true) true n 3 ((([c0, c1, c2, c3, c4, c5, c6, c7, c8] : List Value).drop 0).take (Try.prog.cellsOf 3)) = some y0 := hf 0 _ rfl
  rw [cInt] at f0
  have f1 : DataW.trod enc Try.prog W 0 (fun _ => true) true n 45 ((([c0, c1, c2, c3, c4, c5, c6, c7, c8] : List Value).drop 1).take (Try.prog.cellsOf 45)) = some y1 := hf 1 _ rfl
  rw [cKey] at f1
  have f2 : DataW.trod enc Try.prog W 0 (fun _ => true) true n 3 ((([c0, c1, c2, c3, c4, c5, c6, c7, c8] : List Value).drop 4).take (Try.prog.cellsOf 3)) = some y2 := hf 2 _ rfl
  rw [cInt] at f2
  have f3 : DataW.trod enc Try.prog W 0 (fun _ => true) true n 46 ((([c0, c1, c2, c3, c4, c5, c6, c7, c8] : List Value).drop 5).take (Try.prog.cellsOf 46)) = some y3 := hf 3 _ rfl
  rw [cLinks] at f3
  have f4 : DataW.trod enc Try.prog W 0 (fun _ => true) true n 23 ((([c0, c1, c2, c3, c4, c5, c6, c7, c8] : List Value).drop 6).take (Try.prog.cellsOf 23)) = some y4 := hf 4 _ rfl
  rw [cU32] at f4
  have f5 : DataW.trod enc Try.prog W 0 (fun _ => true) true n 27 ((([c0, c1, c2, c3, c4, c5, c6, c7, c8] : List Value).drop 7).take (Try.prog.cellsOf 27)) = some y5 := hf 5 _ rfl
  rw [cNums] at f5
  have f6 : DataW.trod enc Try.prog W 0 (fun _ => true) true n 3 ((([c0, c1, c2, c3, c4, c5, c6, c7, c8] : List Value).drop 8).take (Try.prog.cellsOf 3)) = some y6 := hf 6 _ rfl
  rw [cInt] at f6
  obtain ⟨n0, e0, -, w0⟩ := DataW.trod_int Try.underlying3 f0
  obtain ⟨n2, e2, -, w2⟩ := DataW.trod_int Try.underlying3 f2
  obtain ⟨n4, e4, -, w4⟩ := DataW.trod_int Try.underlying23 f4
  obtain ⟨n6, e6, -, w6⟩ := DataW.trod_int Try.underlying3 f6
  have f1' := f1
  obtain ⟨zs, n2x, -, -, -, hlen2, hk⟩ := DataW.trod_struct Try.underlying45 f1
  obtain ⟨z0, z1, z2, rfl⟩ := list3 hlen2
  have k0 : DataW.trod enc Try.prog W 0 (fun _ => true) true n2x 3 ((([c1, c2, c3] : List Value).drop 0).take (Try.prog.cellsOf 3)) = some z0 := hk 0 _ rfl
  rw [cInt] at k0
  obtain ⟨m0, g0, -, u0⟩ := DataW.trod_int Try.underlying3 k0
  injection g0 with g0 _
  obtain ⟨k, hk2, ek⟩ := key_came rfl f1'
  have ek' : [c1, c2, c3] = keyVals k := ek
  unfold keyVals at ek'
  injection ek' with k1 ek'; injection ek' with k2 ek'; injection ek' with k3 _
  injection e0 with e0 _; injection e2 with e2 _; injection e4 with e4 _; injection e6 with e6 _
  obtain ⟨links, p5, q5, rfl, hL, hlok, hll⟩ := links_came f3 (fun q hq => hs q (by
    simp only [DataW.weights, Try.underlying48]
    exact DataW.weights_mem_each (j := 3) (t := 46) (d := y3.1) rfl rfl q hq))
  obtain ⟨routers, p7, q7, rfl, hN, hrok, hrl⟩ := nums_came f5 (fun q hq => hs q (by
    simp only [DataW.weights, Try.underlying48]
    exact DataW.weights_mem_each (j := 5) (t := 27) (d := y5.1) rfl rfl q hq))
  rw [k1] at g0
  injection g0 with _ g0
  obtain ⟨m4, rfl, b4⟩ := wf_nat w4
  subst e0; subst e2; subst e4; subst e6; subst k1; subst k2; subst k3
  have hty : -9223372036854775808 ≤ k.type ∧ k.type ≤ 9223372036854775807 := by rw [g0]; exact wf_int u0
  exact ⟨⟨⟨n0, k.type, k.id, k.adv, n2, links, m4, routers, n6⟩, p5, q5, p7, q7⟩, ⟨⟨hL, hN⟩, ⟨wf_int w0, hty, hk2.1, hk2.2, wf_int w2, hlok, b4, hrok, wf_int w6⟩, ⟨hlok, hrok, hk2.1, hk2.2, b4, (by show links.length ≤ _; omega), (by show routers.length ≤ _; omega)⟩, hll, hrl⟩, rfl⟩
/-- what is known of a packet that came in -/
structure PackC (W : World) (p : PackD) (pn ph pk pl : Option Addr) (cn ch ck cl : Nat) : Prop where
  at' : PackIn W p (.slice pn p.nbs.length cn) (.slice ph p.heads.length ch) (.slice pk p.keys.length ck) (.slice pl p.lsas.length cl)
  ok : p.ok
  al : p.auth.length ≤ 9223372036854775807
  nl : p.nbs.length * 4 ≤ 140737488351232
  hl : p.heads.length * 48 ≤ 140737488351232
  kl : p.keys.length * 16 ≤ 140737488351232
  ll : p.lsas.length * 96 ≤ 140737488351232
  ls : ∃ ms : List LsaM, ms.map (·.d) = p.lsas ∧ RowsAt 9 lsaRow W (.slice pl p.lsas.length cl) ms ∧ ∀ m ∈ ms, LsaC W m
end
end Go.Proofs.Ytdaongflpllfhaa
/- The words of LsdbActs' walk (gen_lmg.py writes this). -/
set_option linter.unusedVariables false
set_option linter.unusedSimpArgs false
namespace Go.Proofs.Ytdaongflpllfhaa
open Go.RowKit

structure ActM where
  what : Int
  m : LsaM
  wth : Int
  n : Int
def rowA (a : ActM) : List Value := .int .i64 a.what :: (lsaRow a.m ++ [.int .i64 a.wth, .int .i64 a.n])
theorem rowA_len (a : ActM) : (rowA a).length = 12 := rfl
def inI (z : Int) : Prop := -9223372036854775808 ≤ z ∧ z ≤ 9223372036854775807
structure ActC (W : World) (a : ActM) : Prop where
  l : LsaC W a.m
  what : inI a.what
  wth : inI a.wth
  n : inI a.n
theorem range_sub {w : World} {g o k : Nat} {cs sub : List Value} (h : w.rangeAt g o cs) (hc : ∀ j v, sub[j]? = some v → cs[k + j]? = some v) : w.rangeAt g (o + k) sub := fun j v hv => by
  have := h (k + j) v (hc j v hv)
  rw [← Nat.add_assoc] at this; exact this
theorem rowA_lsa (a : ActM) : ∀ j v, (lsaRow a.m)[j]? = some v → (rowA a)[1 + j]? = some v := fun j v h => by
  have hj : j < 9 := (List.getElem?_eq_some_iff.1 h).1
  rw [Nat.add_comm]
  show (lsaRow a.m ++ _)[j]? = _
  rw [List.getElem?_append_left (by rw [lsaRow_len]; exact hj)]; exact h
theorem rowA_lsa_at {w : World} {g o : Nat} {a : ActM} (h : w.rangeAt g o (rowA a)) : w.rangeAt g (o + 1) (lsaRow a.m) := range_sub h (rowA_lsa a)
/-- an Lsa that an act may put -/
structure XOk (m : LsaM) : Prop where
  fine : LsaFine m.d
  ll : m.d.links.length * 24 ≤ 140737488351232
  rl : m.d.routers.length * 4 ≤ 140737488351232
  ty : inI m.d.type
theorem XOk.k {m : LsaM} (h : XOk m) : kOk m.d.type m.d.id m.d.adv := ⟨h.ty, h.fine.id, h.fine.adv⟩
theorem LsaC.x {W : World} {m : LsaM} (h : LsaC W m) : XOk m := ⟨⟨h.ok'.links, h.ok'.small, h.ok'.id, h.ok'.adv, h.ok'.mask⟩, h.ll, h.rl, h.ok.type⟩
theorem GoodL.x {m : LsaM} (h : GoodL m.d) : XOk m := by
  have h1 := canB_lens h.can
  have h2 := h.ty
  exact ⟨h.fine, by omega, by omega, by unfold inI; omega⟩
/-- a Db, and a row that has the same -/
structure BothD (w : World) (b r N : Nat) (lv : Value) (ms : List LsaM) : Prop where
  db : DbL w b r N (ms.map (·.d))
  fine : FineL (ms.map (·.d))
  row : RowsAt 9 lsaRow w lv ms
  ls : ∀ m ∈ ms, LsaIn w m
theorem RowsAt.keepC {α : Type} {sz : Nat} {cv : α → List Value} {F : Nat → Prop} {w w' : World} {v : Value} {xs : List α} (hcv : ∀ x, 0 < (cv x).length) (h : RowsAt sz cv w v xs) (k : Keeps F w w') (hF : ∀ i cur t r, w.heap[i]? = some (.cells cur t r) → ¬ F i) : RowsAt sz cv w' v xs := by
  refine h.keepF k (fun h0 i e => ?_)
  obtain ⟨p, c, rfl, -, -, hr⟩ := h
  obtain ⟨g, o, rfl, hra⟩ := hr h0
  have e : some g = some i := e
  injection e with e
  subst e
  obtain ⟨cur, t, x, hc⟩ := cells_of_cell (hra 0 xs[0] (List.getElem?_eq_getElem h0) 0 _ (List.getElem?_eq_getElem (hcv _)))
  exact hF _ _ _ _ hc
theorem BothD.keepC {F : Nat → Prop} {w w' : World} {b r N : Nat} {lv : Value} {ms : List LsaM} (h : BothD w b r N lv ms) (k : Keeps F w w') (hF : ∀ i cur t x, w.heap[i]? = some (.cells cur t x) → ¬ F i) (hr : ¬ F r) : BothD w' b r N lv ms :=
  ⟨h.db.keepC k hF hr, h.fine, h.row.keepC (fun m => Nat.zero_lt_succ _) k hF, fun m hm => (h.ls m hm).keepC k hF⟩
theorem BothD.keep {w w' : World} {b r N : Nat} {lv : Value} {ms : List LsaM} (h : BothD w b r N lv ms) (k : Keeps (fun _ => False) w w') : BothD w' b r N lv ms := h.keepC k (fun _ _ _ _ _ f => f) (fun f => f)
theorem BothD.len {w : World} {b r N : Nat} {lv : Value} {ms : List LsaM} (h : BothD w b r N lv ms) : ms.length ≤ 20 := by have := h.fine.few; rw [List.length_map] at this; exact this
theorem BothD.same {w : World} {b r N : Nat} {lv : Value} {ms : List LsaM} (h : BothD w b r N lv ms) : Calls Try.prog 23 #[.pointer (some ⟨b, 0, none⟩), lv] w fun e w' => e = .returned (.bool true) ∧ Keeps (fun _ => False) w w' :=
  lwSame_any b r N ms lv (Lib.hid h.fine) w (Lib.hid h.db) (Lib.hid h.row) (Lib.hid h.ls)
theorem u64_natB (n : Int) : ∃ U : Nat, IntKind.u64.wrap n = (U : Int) := ⟨lo64 n, by rw [u64_wrap]; unfold lo64; omega⟩
theorem tmod3 (z : Int) : -2 ≤ z.tmod 3 ∧ z.tmod 3 ≤ 2 := by
  have h : ∀ n : Nat, ((n : Int)).tmod 3 = ((n % 3 : Nat) : Int) := fun n => rfl
  obtain ⟨n, rfl | rfl⟩ := Int.eq_nat_or_neg z
  · rw [h]; omega
  · rw [Int.neg_tmod, h]; omega
theorem drop_said {ms : List LsaM} (hr : Rises (ms.map (·.d))) (k : K3) : decide ((dropM k ms).length < ms.length) = (mapL (ms.map (·.d)) k.1 k.2.1 k.2.2).isSome := by
  have h1 : (dropM k ms).length = (dropR k (ms.map (·.d))).length := by rw [← dropM_map, List.length_map]
  have h2 := dropR_len hr k
  rw [h1, h2]
  cases hm : mapL (ms.map (·.d)) k.1 k.2.1 k.2.2 with
  | none => simp
  | some o =>
    have := List.length_pos_of_mem (mapL_some hm).1
    rw [List.length_map] at this
    simp; omega
theorem lsa_away {w : World} {m : LsaM} {b : Nat} (h : LsaIn w m) (hb : w.heap.size = b) : (0 < m.d.links.length → ∀ i, (Value.slice m.p5 m.d.links.length m.c5).ownBlock = some i → i ≠ b) ∧ (0 < m.d.routers.length → ∀ i, (Value.slice m.p7 m.d.routers.length m.c7).ownBlock = some i → i ≠ b) :=
  ⟨fun h0 i e f => by have := links_lt h.1 h0 i e; omega, fun h0 i e f => by have := nums_lt h.2 h0 i e; omega⟩
theorem lwNone_any (w : World) : Calls Try.prog 7 #[] w fun e w' => e = .returned (.pointer none) ∧ w = w' := by
  go_enter Try.func7, Try.ntmps7
  go_wp2_with fail
  go_ret
  exact ⟨rfl, rfl⟩
theorem ldPut_nil0 (w : World) : Calls Try.prog 9 #[.pointer none, .agg #[.int .i64 0, .int .i64 0, .int .u32 0, .int .u32 0, .int .i64 0, .slice none 0 0, .int .u32 0, .slice none 0 0, .int .i64 0]] w fun e w' => e = .returned (.tuple #[.bool false, .int .i64 1]) ∧ Keeps (fun _ => False) w w' :=
  ldPut_cannot none ⟨noneL, none, 0, none, 0⟩ (Lib.hid (by decide)) (by decide) (by decide) w (Lib.hid ⟨RowsAt.nil _, NumsAt.nil _⟩)
/-- the Lsa that the law puts into a copy -/
theorem ldPut_copy (b r N : Nat) (L : List LsaD) (hF : Hid (FineL L)) (i : Nat) (hi : i < 100) (hN : N < 1000000) (w : World) (h : Hid (DbL w b r N L)) : Calls Try.prog 9 #[.pointer (some ⟨b, 0, none⟩), .agg #[.int .i64 0, .int .i64 3, .int .u32 123456789, .int .u32 i, .int .i64 0, .slice none 0 0, .int .u32 0, .slice none 0 0, .int .i64 0]] w fun e w' => (∃ v, e = .returned v) ∧ Keeps (fun k => k = r) w w' := by
  refine (ldPut_g b r N L hF ⟨⟨0, 3, 123456789, i, 0, [], 0, [], 0⟩, none, 0, none, 0⟩ (Lib.hid ⟨by simp, by intro x hx; simp at hx, (by show (123456789 : Nat) < 4294967296; decide), (by show i < 4294967296; omega), (by show (0 : Nat) < 4294967296; decide)⟩) (by simp) (by simp) hN w (Lib.hid ⟨RowsAt.nil _, NumsAt.nil _⟩) h).mono ?_
  rintro e w' ⟨rfl, -, k⟩
  exact ⟨⟨_, rfl⟩, k⟩
end Go.Proofs.Ytdaongflpllfhaa
