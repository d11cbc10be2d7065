/- A text that is read: the reader; set, line, walked. -/
import Derived.Test.YtdannodhlaaoiaaGreatDoorWT12
import Derived.Test.YtdannodhlaaoiaaGreatDoorWT14
import Derived.Test.YtdannodhlaaoiaaGreatDoorWT17
set_option linter.unusedVariables false
set_option linter.unusedSimpArgs false
set_option linter.unusedVariables false
set_option linter.unusedSimpArgs false
namespace Go.Proofs.YtdannodhlaaoiaaGreatDoor
open Go.RowKit

theorem load_conf (w : World) (b o : Nat) (v : Value) (h : w.cell? ⟨b, o, none⟩ = some v) : (loadVar 24 ⟨b, o, none⟩).run Tryz.prog w = .ok v w := by
  simp [go_sem, h]
/-- the reader in memory: the words that are left, what has been set -/
structure RdS (gr : Nat) (w0 W : World) (p pc : Option Addr) (c cc : Nat) (ws : List (List UInt8)) (s : StP) : Prop where
  blk : BlkAt W gr 70 [.slice p ws.length c, .slice pc s.1.length cc, .bool s.2]
  words : StrsC w0 (.slice p ws.length c) ws
  rows : RowsAt 4 lineVals W (.slice pc s.1.length cc) s.1
  own : ∀ k, (Value.slice pc s.1.length cc).ownBlock = some k → k ≠ gr
  right : rightC s.1 = true
  small : ∀ x ∈ ws, x.length ≤ 1000000
  k : Keeps (fun _ => False) w0 W
  ge : w0.heap.size ≤ gr
def RdX (gr : Nat) (w0 W : World) (ws : List (List UInt8)) (s : StP) : Prop := ∃ p pc c cc, RdS gr w0 W p pc c cc ws s
theorem RdS.next {gr : Nat} {w0 W W' : World} {p pc : Option Addr} {c cc : Nat} {ws : List (List UInt8)} {s : StP} (h : RdS gr w0 W p pc c cc ws s) (k : Keeps (fun _ => False) W W') : RdS gr w0 W' p pc c cc ws s :=
  ⟨h.blk.keep k id, h.words, h.rows.keep k, h.own, h.right, h.small, h.k.trans k, h.ge⟩
/-- the flag is laid -/
theorem RdS.full {gr : Nat} {w0 W : World} {p pc : Option Addr} {c cc : Nat} {ws : List (List UInt8)} {s : StP} (h : RdS gr w0 W p pc c cc ws s) (z : Bool) : RdS gr w0 (W.setCell ⟨gr, 2, none⟩ (.bool z)) p pc c cc ws (s.1, z) :=
  have hk : Keeps (fun k => k = gr) W (W.setCell ⟨gr, 2, none⟩ (.bool z)) := (Keeps.refl (fun k => k = gr) W).setCell (p := ⟨gr, 2, none⟩) (.inl rfl) _
  ⟨h.blk.set 2 _, h.words, h.rows.keepF hk (fun _ k e f => h.own k e f), h.own, h.right, h.small, h.k.trans' hk (fun i e => .inr (by rw [e]; exact h.ge)), h.ge⟩
/-- another configuration is laid -/
theorem RdS.conf {gr : Nat} {w0 W : World} {p pc pd : Option Addr} {c cc cd : Nat} {ws : List (List UInt8)} {s : StP} {C : List LineD} (h : RdS gr w0 W p pc c cc ws s) (hr : RowsAt 4 lineVals W (.slice pd C.length cd) C)
    (ho : ∀ k, (Value.slice pd C.length cd).ownBlock = some k → k ≠ gr) (hC : rightC C = true) : RdS gr w0 (W.setCell ⟨gr, 1, none⟩ (.slice pd C.length cd)) p pd c cd ws (C, s.2) :=
  have hk : Keeps (fun k => k = gr) W (W.setCell ⟨gr, 1, none⟩ (.slice pd C.length cd)) := (Keeps.refl (fun k => k = gr) W).setCell (p := ⟨gr, 1, none⟩) (.inl rfl) _
  ⟨h.blk.set 1 _, h.words, hr.keepF hk (fun _ k e f => ho k e f), ho, hC, h.small, h.k.trans' hk (fun i e => .inr (by rw [e]; exact h.ge)), h.ge⟩
/-- words are read -/
theorem RdS.read {gr : Nat} {w0 W : World} {p pc q : Option Addr} {c cc d : Nat} {ws vs : List (List UInt8)} {s : StP} (h : RdS gr w0 W p pc c cc ws s) (hv : StrsC w0 (.slice q vs.length d) vs) (hs : ∀ x ∈ vs, x ∈ ws) :
    RdS gr w0 (W.setCell ⟨gr, 0, none⟩ (.slice q vs.length d)) q pc d cc vs s :=
  have hk : Keeps (fun k => k = gr) W (W.setCell ⟨gr, 0, none⟩ (.slice q vs.length d)) := (Keeps.refl (fun k => k = gr) W).setCell (p := ⟨gr, 0, none⟩) (.inl rfl) _
  ⟨h.blk.set 0 _, hv, h.rows.keepF hk (fun _ k e f => h.own k e f), h.own, h.right, fun x hx => h.small x (hs x hx), h.k.trans' hk (fun i e => .inr (by rw [e]; exact h.ge)), h.ge⟩
/-- a row of texts cut from k on, as the walk spells it -/
theorem strs_tail {w : World} {g o c : Nat} {ws : List (List UInt8)} (h : w.rangeAt g o (ws.map strv)) (hc : ws.length ≤ c) (k : Nat) (hk : k ≤ ws.length) :
    StrsC w (.slice (if c = k then some ⟨g, o, none⟩ else some ⟨g, o + k, none⟩) (ws.length - k) (c - k)) (ws.drop k) := by
  have hl : (ws.drop k).length = ws.length - k := List.length_drop
  refine ⟨_, _, by rw [hl], by rw [hl]; omega, fun h0 => ?_⟩
  rw [hl] at h0
  refine ⟨g, o + k, by rw [if_neg (by omega)], fun j u hu => ?_⟩
  have := h (k + j) u (by rw [← hu, List.getElem?_map, List.getElem?_map, List.getElem?_drop])
  rw [Nat.add_assoc]; exact this

/-- Set of a right line, told with whose blocks -/
theorem set_own (v : Value) (ls : List LineD) (h : Int) (N F V : ByteArray) (w : World) (hv : Hid (RowsAt 4 lineVals w v ls)) (hr : Hid (rightC ls = true)) (hn : N.size ≤ 9223372036854775807) (hvs : V.size ≤ 9223372036854775807) (x : LineD) (hx : Hid (x = ⟨h, N.data.toList, F.data.toList, V.data.toList⟩)) (hz : Hid (lineB x = true)) (z : Bool) (hl : Hid (decide ((setC x ls).length ≤ 64) = z)) :
    Calls Tryz.prog 20 #[v, .agg #[.int .i64 h, .string N, .string F, .string V]] w fun e w' => ∃ (p : Option Addr) (c : Nat) (D : List LineD) (n : Int), e = .returned (.tuple #[.slice p D.length c, .int .i64 n]) ∧ OwnR 50 4 lineVals w w' (.slice p D.length c) D ∧ Keeps (fun _ => False) w w' ∧ (z = true → D = setC x ls ∧ n = 0) ∧ (z = false → D = [] ∧ n = 5) := by
  have hlen := right_len hr.out
  have hlt := Lib.hid (right_lt hr.out 9223372036854775807 (by omega))
  have hxe := hx.out
  have hlz := hl.out
  obtain ⟨t, hth⟩ : ∃ t, thereB x ls = t := ⟨_, rfl⟩
  by_cases hle : (setC x ls).length ≤ 64
  · obtain rfl : z = true := by rw [← hlz]; simpa using hle
    have h64 : t = false → ls.length < 64 := fun e => by
      rw [setC_len, hth, e] at hle; simp at hle; omega
    refine (set_ok v ls h N F V t w hv hlt hn hvs hr (Lib.hid (hxe ▸ hz.out)) (Lib.hid (hxe ▸ hth)) hlen h64).mono ?_
    rintro e w2 ⟨p, c, rfl, hO, k⟩
    rw [← hxe] at hO ⊢
    exact ⟨p, c, _, 0, rfl, hO, k, (fun _ => ⟨rfl, rfl⟩), (fun e => by cases e)⟩
  · obtain rfl : z = false := by rw [← hlz]; simpa using hle
    have hf : thereB x ls = false := by
      cases ht : thereB x ls with
      | false => rfl
      | true => rw [setC_len, if_pos ht] at hle; omega
    have h64 : ls.length = 64 := by rw [setC_len, hf] at hle; simp at hle; omega
    refine (set_full v ls h N F V w hv hlt hn hvs hr (Lib.hid (hxe ▸ hz.out)) (Lib.hid (hxe ▸ hf)) (Lib.hid h64)).mono ?_
    rintro e w2 ⟨rfl, k⟩
    exact ⟨none, 0, [], 5, rfl, OwnR.nil _ _ k.size, k, (fun e => by cases e), (fun _ => ⟨rfl, rfl⟩)⟩

set_option maxRecDepth 100000 in
set_option maxHeartbeats 8000000 in
theorem pSet_any (gr : Nat) (w0 : World) (p pc : Option Addr) (c cc : Nat) (ws : List (List UInt8)) (C : List LineD) (f : Bool) (h : Int) (N F V : ByteArray) (x : LineD) (W : World) (hS : Hid (RdS gr w0 W p pc c cc ws (C, f))) (hn : N.size ≤ 9223372036854775807) (hvs : V.size ≤ 9223372036854775807)
    (hx : Hid (x = ⟨h, N.data.toList, F.data.toList, V.data.toList⟩)) (hz : Hid (lineB x = true)) :
    Calls Tryz.prog 102 #[.pointer (some ⟨gr, 0, none⟩), .agg #[.int .i64 h, .string N, .string F, .string V]] W fun e W' => e = .returned (.tuple #[]) ∧ RdX gr w0 W' ws (putS (C, f) x) := by
  have hS0 : Hid (RdS gr w0 (W.alloc (.cells #[.int .i64 h, .string N, .string F, .string V] 50)) p pc c cc ws (C, f)) := Lib.hid (hS.out.next ((Keeps.refl _ _).alloc _))
  have hB0 : Hid (BlkAt (W.alloc (.cells #[.int .i64 h, .string N, .string F, .string V] 50)) W.heap.size 50 [.int .i64 h, .string N, .string F, .string V]) := Lib.hid (BlkAt.new _ _ _)
  clear hS
  go_enter Tryz.func102, Tryz.ntmps102
  go_upto_region 1 with fail
  generalize W.alloc (.cells #[.int .i64 h, .string N, .string F, .string V] 50) = W1 at hS0 hB0 ⊢
  generalize W.heap.size = gl at hB0 ⊢
  have b2 := hS0.out.blk.cell 2 _ rfl
  try simp only at b2
  cases f with
  | true =>
    go_wp2_with fail
    first | go_end0 | ((try simp only [Exit.inBlock, Exit.then]); refine bodyPost_ret (results_none rfl _ _ _) rfl ?_)
    exact ⟨rfl, p, pc, c, cc, hS0.out⟩
  | false =>
    go_upto_region 2 with fail
    obtain ⟨z, hzl⟩ : ∃ z, decide ((setC x C).length ≤ 64) = z := ⟨_, rfl⟩
    have hzl' := Lib.hid hzl
    refine wp_region_noPanic ?_
    refine wp_region_held_drew (S := (fun W' => Keeps (fun _ => False) W1 W')) (by kernel_rfl) (((Keeps.refl _ _).drew)) (fun hHeld => ?_)
    refine tk 0 rfl ?_
    refine tk 1 rfl ?_
    refine tk 2 rfl ?_
    refine tkL 3 rfl (yieldsIf_load_cell (by rfl) 24 (.tmp 13) rfl gr 1 rfl _ (fun _ s => (hS0.out.blk.keep s id).cell 1 _ rfl) (fun w s => load_conf w _ _ _ s)) ?_
    refine tkL 4 rfl (yieldsIf_load_mid (by rfl) 50 (.tmp 3) rfl gl 0 rfl [.int .i64 h, .string N, .string F, .string V] _ (fun _ s => (hB0.out.keep s id).range) Tryz.underlying50 rfl lineInfo) ?_
    refine stepL 5 rfl (by kernel_rfl) (fun K hK => ?_)
    go_simp
    (refine (set_own _ C h N F V _ (Lib.hid (hS0.out.rows.keep hHeld)) (Lib.hid hS0.out.right) hn hvs x hx hz z hzl').mono ?_; rintro e w3 ⟨p3, c3, D3, n3, rfl, hO3, k3, hz3, hz4⟩; have hz3' := Lib.hid hz3; have hz4' := Lib.hid hz4; clear hz3 hz4; have hO3' := Lib.hid hO3; have k3' := Lib.hid k3; clear k3 hO3)
    go_wp2_with fail
    refine hK.out _ _ ((hHeld.trans k3'.out)) (fun hHeld => ?_)
    clear hK K
    try simp only [Act.put, sA, sZ, sS]
    refine tk 6 rfl ?_
    refine tk 7 rfl ?_
    refine tk 8 rfl ?_
    refine tk 9 rfl ?_
    refine tk 10 rfl ?_
    refine wpAnyH_done (by kernel_rfl) (NoPanic.normal ?_) _
    have hS3 := Lib.hid (hS0.out.next hHeld)
    have hgr : gr < w3.heap.size := lt_of_block hS3.out.blk
    cases z with
    | true =>
      have hO4 := hO3'.out
      obtain ⟨rfl, rfl⟩ := hz3'.out rfl
      have hR4 := Lib.hid (hO4.at lineVals_len)
      have hle : (setC x C).length ≤ 64 := by simpa using hzl
      have hC4 := Lib.hid (right_setC hS0.out.right hz.out hle)
      have hown : Hid (∀ k, (Value.slice p3 (setC x C).length c3).ownBlock = some k → k ≠ gr) := Lib.hid (fun k e => by
        have h1 := hO4.2.1 k e
        have h2 := lt_of_block hS0.out.blk
        have h3 : W1.drew.heap.size = W1.heap.size := rfl
        omega)
      have b1 := hS3.out.blk.cell 1 _ rfl
      have f1 := hS3.out.blk.frozen 1
      have hfin := Lib.hid (hS3.out.conf hR4.out hown.out hC4.out)
      have hput : Hid (putS (C, false) x = (setC x C, false)) := Lib.hid (by unfold putS; simp [hle])
      clear hO4 hO3' hHeld hle hzl
      go_wp2_with fail
      first | go_end0 | ((try simp only [Exit.inBlock, Exit.then]); refine bodyPost_ret (results_none rfl _ _ _) rfl ?_)
      exact ⟨rfl, by rw [hput.out]; exact ⟨_, _, _, _, hfin.out⟩⟩
    | false =>
      have hle : ¬ (setC x C).length ≤ 64 := by simpa using hzl
      obtain ⟨rfl, rfl⟩ := hz4'.out rfl
      have b2 := hS3.out.blk.cell 2 _ rfl
      have f2 := hS3.out.blk.frozen 2
      have hfin := Lib.hid (hS3.out.full true)
      have hput : Hid (putS (C, false) x = (C, true)) := Lib.hid (by unfold putS; simp [hle])
      clear hO3' hHeld hle hzl
      go_wp2_with fail
      first | go_end0 | ((try simp only [Exit.inBlock, Exit.then]); refine bodyPost_ret (results_none rfl _ _ _) rfl ?_)
      exact ⟨rfl, by rw [hput.out]; exact ⟨_, _, _, _, hfin.out⟩⟩

/-- what a step of the reader tells -/
def StepPostT (gr : Nat) (w0 : World) (o : Option (Int × List UInt8)) (ws : List (List UInt8)) (s : StP) (e : Ending) (W' : World) : Prop :=
  ∃ z : Bool, e = .returned (.bool z) ∧ Keeps (fun _ => False) w0 W' ∧ (z = false → textD o ws s = none) ∧ (z = true → ∃ vs s', textD o ws s = textD o vs s' ∧ vs.length < ws.length ∧ RdX gr w0 W' vs s')
theorem load_strs (w : World) (b o : Nat) (v : Value) (h : w.cell? ⟨b, o, none⟩ = some v) : (loadVar 65 ⟨b, o, none⟩).run Tryz.prog w = .ok v w := by
  simp [go_sem, h]
theorem word_cell {w : World} {g o : Nat} {ws : List (List UInt8)} (h : w.rangeAt g o (ws.map strv)) (k : Nat) (x : List UInt8) (hx : ws[k]? = some x) : w.cell? ⟨g, o + k, none⟩ = some (.string ⟨x.toArray⟩) := by
  have := h k (strv x) (by rw [List.getElem?_map, hx]; rfl)
  exact this
theorem ba_eq (X : ByteArray) (l : List UInt8) (x : List UInt8) (hX : X = ⟨x.toArray⟩) : (X.toList == l) = decide (x = l) := by
  rw [Lib.toList_data, hX]
  by_cases h : x = l
  · subst h; simp
  · simp [h]
theorem ba_ne (X : ByteArray) (l : List UInt8) (x : List UInt8) (hX : X = ⟨x.toArray⟩) : (X.toList != l) = !decide (x = l) := by
  have := ba_eq X l x hX
  unfold bne; rw [this]

set_option maxRecDepth 100000 in
set_option maxHeartbeats 8000000 in
theorem pLine_any (gr : Nat) (w0 : World) (p pc : Option Addr) (c cc : Nat) (o : Option (Int × List UInt8)) (h : Int) (Nm : ByteArray) (ws : List (List UInt8)) (s : StP) (W : World) (hS : Hid (RdS gr w0 W p pc c cc ws s)) (hNm : Nm.size ≤ 9223372036854775807)
    (hat : Hid (∀ a b, atL o a b = ⟨h, Nm.data.toList, a, b⟩)) (hne : 0 < ws.length) (hc : Hid (∀ a, ws[0]? = some a → o.isSome = true → a ≠ clsW)) (hh : Hid (∀ a, ws[0]? = some a → o = none → headD a = 0)) (hnm : Hid (∀ p, o = some p → namedB p.1 p.2 = true)) :
    Calls Tryz.prog 71 #[.pointer (some ⟨gr, 0, none⟩), .int .i64 h, .string Nm] W (StepPostT gr w0 o ws s) := by
  obtain ⟨C, f⟩ := s
  obtain ⟨p9, c9, e9, hcap, hr0⟩ := hS.out.words
  injection e9 with e1 e2 e3
  subst e1; subst e3
  obtain ⟨g, o2, rfl, hr⟩ := hr0 hne
  have hrW := Lib.hid (hS.out.k.rangeAt hr id)
  have hr' := Lib.hid hr
  have hcap' := Lib.hid hcap
  clear e2 hr0 hr hcap
  have b0 := hS.out.blk.cell 0 _ rfl
  try simp only at b0
  by_cases hl3 : ws.length < 3
  · have m1 : (ws.length : Int) < 3 := by omega
    have hans : Hid (textD o ws (C, f) = none) := Lib.hid (by
      match ws, hl3, hne, hc.out, hh.out with
      | [a], _, _, hc, hh => exact textD_noline (hc a rfl) (hh a rfl) (fun b c r2 e => by cases e)
      | [a, b], _, _, hc, hh => exact textD_noline (hc a rfl) (hh a rfl) (fun b c r2 e => by cases e))
    have hk := Lib.hid hS.out.k
    go_enter Tryz.func71, Tryz.ntmps71
    go_wp2_with fail
    go_ret
    exact ⟨false, rfl, hk.out, fun _ => hans.out, fun e => by cases e⟩
  · have m1 : ¬ (ws.length : Int) < 3 := by omega
    have m2 : (2 : Int) < (ws.length : Int) := by omega
    have m3 : (1 : Int) < (ws.length : Int) := by omega
    have m4 : (0 : Int) < (ws.length : Int) := by omega
    obtain ⟨a, b, d, r2, hws⟩ : ∃ a b d r2, ws = a :: b :: d :: r2 := by
      match ws, hl3 with
      | [], h => exact absurd (by simp) h
      | [_], h => exact absurd (by simp) h
      | [_, _], h => exact absurd (by simp) h
      | a :: b :: d :: r2, _ => exact ⟨a, b, d, r2, rfl⟩
    have hws' := Lib.hid hws
    obtain ⟨A, hA⟩ : ∃ X : ByteArray, X = ⟨a.toArray⟩ := ⟨_, rfl⟩
    obtain ⟨B, hB⟩ : ∃ X : ByteArray, X = ⟨b.toArray⟩ := ⟨_, rfl⟩
    obtain ⟨D, hD⟩ : ∃ X : ByteArray, X = ⟨d.toArray⟩ := ⟨_, rfl⟩
    have c0 : Hid (W.cell? ⟨g, o2, none⟩ = some (.string A)) := Lib.hid (by have := word_cell hrW.out 0 a (by rw [hws]; rfl); rw [hA]; exact this)
    have c1 : Hid (W.cell? ⟨g, o2 + 1, none⟩ = some (.string B)) := Lib.hid (by have := word_cell hrW.out 1 b (by rw [hws]; rfl); rw [hB]; exact this)
    have c2 : W.cell? ⟨g, o2 + 2, none⟩ = some (.string D) := by have := word_cell hrW.out 2 d (by rw [hws]; rfl); rw [hD]; exact this
    have hDe := ba_eq D [59] d hD
    have sB : B.size ≤ 9223372036854775807 := by
      have := hS.out.small b (by rw [hws]; simp)
      rw [hB]; show b.length ≤ _; omega
    have hAd : Hid (A.data.toList = a) := Lib.hid (by rw [hA])
    have hBd : Hid (B.data.toList = b) := Lib.hid (by rw [hB])
    clear hws hA hB hD
    by_cases hd : d = [59]
    · have e2 : (D.toList == [59]) = true := by rw [hDe]; simp [hd]
      have hd' := Lib.hid hd
      clear hd hDe
      go_enter Tryz.func71, Tryz.ntmps71
      go_upto_region 3 with fail
      clear c2 e2 b0
      refine wp_region_noPanic ?_
      refine wp_region_held_drew (S := (fun W' => Keeps (fun _ => False) W W')) (by kernel_rfl) (((Keeps.refl _ _).drew)) (fun hHeld => ?_)
      refine tk 0 rfl ?_
      refine tk 1 rfl ?_
      refine tk 2 rfl ?_
      refine tk 3 rfl ?_
      refine tk 4 rfl ?_
      refine tkL 5 rfl (yieldsIf_load_cell (by rfl) 65 (.tmp 27) rfl gr 0 rfl _ (fun _ s => (hS.out.blk.keep s id).cell 0 _ rfl) (fun w s => load_strs w _ _ _ s)) ?_
      refine tk 6 rfl ?_
      refine tkL 7 rfl (yieldsIf_load_cell (by rfl) 9 (.tmp 29) rfl g o2 rfl _ (fun _ s => (s.cell (p := ⟨g, o2, none⟩) (World.block_lt_of_cell? W _ c0.out) id).trans c0.out) (fun w s => load_str w _ _ _ s)) ?_
      refine tk 8 rfl ?_
      refine tk 9 rfl ?_
      refine tk 10 rfl ?_
      refine tkL 11 rfl (yieldsIf_load_cell (by rfl) 65 (.tmp 33) rfl gr 0 rfl _ (fun _ s => (hS.out.blk.keep s id).cell 0 _ rfl) (fun w s => load_strs w _ _ _ s)) ?_
      refine tk 12 rfl ?_
      refine tkL 13 rfl (yieldsIf_load_cell (by rfl) 9 (.tmp 35) rfl g (o2 + 1) rfl _ (fun _ s => (s.cell (p := ⟨g, o2 + 1, none⟩) (World.block_lt_of_cell? W _ c1.out) id).trans c1.out) (fun w s => load_str w _ _ _ s)) ?_
      refine tk 14 rfl ?_
      refine stepL 15 rfl (by kernel_rfl) (fun K hK => ?_)
      go_simp
      refine hK.out _ _ ((hHeld.alloc _)) (fun hHeld => ?_)
      clear hK K
      try simp only [Act.put, sA, sZ, sS]
      have hb := BlkAt.new W.drew 50 [.int .i64 0, .string ⟨#[]⟩, .string ⟨#[]⟩, .string ⟨#[]⟩]
      have hth := hb.there 0 4 (Nat.le_refl 4)
      refine stepL 16 rfl (by kernel_rfl) (fun K hK => ?_)
      rw [if_pos (by rfl)]
      (refine wp_store_mid 50 (.tmp 7) (.tmp 37) rfl W.drew.heap.size 0 #[.int .i64 h, .string Nm, .string A, .string B] rfl rfl hth lineInfo (line_one _ _ _ _) ?_)
      refine hK.out _ _ ((hHeld.trans' (Keeps.setCells (F := fun i => i = W.drew.heap.size) (.inl rfl) _ _ _ (Keeps.refl _ _)) (fun i e => .inr (by rw [e]; exact Nat.le_refl _)))) (fun hHeld => ?_)
      clear hK K
      try simp only [Act.put, sA, sZ, sS]
      refine wpAnyH_done (by kernel_rfl) (NoPanic.normal ?_) _
      have hl9 : ((W.alloc (.cells #[.int .i64 0, .string ⟨#[]⟩, .string ⟨#[]⟩, .string ⟨#[]⟩] 50)).drew.setCells W.drew.heap.size 0 [.int .i64 h, .string Nm, .string A, .string B]).rangeAt W.heap.size 0 [.int .i64 h, .string Nm, .string A, .string B] := World.rangeAt_setCells_same _ _ _ _ hth
      generalize ((W.alloc (.cells #[.int .i64 0, .string ⟨#[]⟩, .string ⟨#[]⟩, .string ⟨#[]⟩] 50)).drew.setCells W.drew.heap.size 0 [.int .i64 h, .string Nm, .string A, .string B]) = W9 at hHeld hl9 ⊢
      generalize W.heap.size = gl at hl9 ⊢
      have hl9' := Lib.hid hl9
      have hS9 := Lib.hid (hS.out.next hHeld)
      have hx : Hid (atL o a b = ⟨h, Nm.data.toList, A.data.toList, B.data.toList⟩) := Lib.hid (by rw [hat.out, hAd.out, hBd.out])
      clear hl9 hHeld hb hth c0 c1 hrW
      obtain ⟨z, hz⟩ : ∃ z, rightV h A.data.toList B.data.toList = z := ⟨_, rfl⟩
      have hz' := Lib.hid hz
      clear hz
      go_wp2_with ((with_reducible refine at_slot 38 ?_); refine wpList_load_mid rfl 50 (.tmp 7) rfl gl 0 rfl [.int .i64 h, .string Nm, .string A, .string B] _ hl9'.out Tryz.underlying50 rfl lineInfo ?_)
      refine (rightValue_any h Nm A B z _ sB hz').mono ?_
      rintro e w5 ⟨rfl, k5⟩
      have hS5 := Lib.hid (hS9.out.next k5)
      have hl5 := Lib.hid (k5.rangeAt hl9'.out id)
      clear k5 hS9 hl9'
      have hzo : Hid (rightV (atL o a b).head a b = z) := Lib.hid (by rw [hat.out]; show rightV h a b = z; rw [← hAd.out, ← hBd.out]; exact hz'.out)
      cases z with
      | false =>
        have hans : Hid (textD o ws (C, f) = none) := Lib.hid (by
          rw [hws'.out]
          refine textD_noline (hc.out a (by rw [hws'.out]; rfl)) (hh.out a (by rw [hws'.out]; rfl)) (fun b2 c r3 e h => ?_)
          injection e with e3 e4
          rw [← e3]; exact hzo.out)
        have hk := Lib.hid hS5.out.k
        go_wp2_with fail
        go_ret
        exact ⟨false, rfl, hk.out, fun _ => hans.out, fun e => by cases e⟩
      | true =>
        have hlB : Hid (lineB (atL o a b) = true) := Lib.hid (by
          rw [lineB_split]
          have h1 := hzo.out
          cases o with
          | none => unfold atL at h1 ⊢; simp only [named_top, Bool.true_and]; exact h1
          | some p => obtain ⟨h2, n2⟩ := p; unfold atL at h1 ⊢; simp only [hnm.out _ rfl, Bool.true_and]; exact h1)
        have hans : Hid (textD o ws (C, f) = textD o (ws.drop 3) (putS (C, f) (atL o a b))) := Lib.hid (by
          rw [hws'.out, hd'.out]
          exact textD_line (hc.out a (by rw [hws'.out]; rfl)) hnm.out (hh.out a (by rw [hws'.out]; rfl)) hzo.out)
        have m5 : (3 : Int) ≤ (ws.length : Int) := by omega
        have m6 : (ws.length : Int) ≤ (c : Int) := by have := hcap'.out; omega
        obtain ⟨p7, hp7⟩ : ∃ pp, (if c = 3 then some (⟨g, o2, none⟩ : Addr) else some ⟨g, o2 + 3, none⟩) = pp := ⟨_, rfl⟩
        obtain ⟨vs, hvs⟩ : ∃ vs, vs = ws.drop 3 := ⟨_, rfl⟩
        have hvl : vs.length = ws.length - 3 := by rw [hvs, List.length_drop]
        have hvlt : Hid (vs.length < ws.length) := Lib.hid (by omega)
        have hst := strs_tail hr'.out hcap'.out 3 (by omega)
        rw [hp7, ← hvs, ← hvl] at hst
        rw [← hvs] at hans
        have hS6 := Lib.hid (hS5.out.read hst (fun x hx => by rw [hvs] at hx; exact List.mem_of_mem_drop hx))
        have hgl : Hid (¬ gl = gr) := Lib.hid (fun e => by
          have h1 := hS5.out.blk.cell 0 _ rfl
          have h2 := hl5.out 0 _ rfl
          rw [e] at h2
          rw [show (⟨gr, 0 + 0, none⟩ : Addr) = ⟨gr, 0, none⟩ from rfl, h1] at h2
          cases h2)
        have b0 := hS5.out.blk.cell 0 _ rfl
        try simp only at b0
        have f0 := hS5.out.blk.frozen 0
        have hl6 : Hid ((w5.setCell ⟨gr, 0, none⟩ (.slice p7 (ws.length - 3) (c - 3))).rangeAt gl 0 [.int .i64 h, .string Nm, .string A, .string B]) := Lib.hid (((Keeps.refl (fun k => k = gr) w5).setCell (p := ⟨gr, 0, none⟩) (.inl rfl) _).rangeAt hl5.out hgl.out)
        rw [hvl] at hS6
        have hvl' := Lib.hid hvl
        clear hst hvs hvl hl5
        go_upto_region 7 with fail
        rw [← hvl'.out] at hS6 hl6 ⊢
        clear b0 f0 m1 m2 m3 m4 m5 m6 hp7
        generalize w5.setCell ⟨gr, 0, none⟩ (.slice p7 vs.length (c - 3)) = W6 at hS6 hl6 ⊢
        go_wp2_with ((with_reducible refine at_slot 50 ?_); refine wpList_load_mid rfl 50 (.tmp 7) rfl gl 0 rfl [.int .i64 h, .string Nm, .string A, .string B] _ hl6.out Tryz.underlying50 rfl lineInfo ?_)
        refine (pSet_any gr w0 _ _ _ _ vs C f h Nm A B (atL o a b) _ hS6 hNm sB hx hlB).mono ?_
        rintro e w7 ⟨rfl, hX7⟩
        have hX7' := Lib.hid hX7
        clear hX7 hS6 hl6
        go_wp2_with fail
        go_ret
        refine ⟨true, rfl, ?_, (fun e => by cases e), fun _ => ⟨vs, _, hans.out, hvlt.out, hX7'.out⟩⟩
        obtain ⟨_, _, _, _, hX8⟩ := hX7'.out
        exact hX8.k
    · have e2 : (D.toList == [59]) = false := by rw [hDe]; simp [hd]
      have hans : Hid (textD o ws (C, f) = none) := Lib.hid (by
        rw [hws'.out]
        refine textD_noline (hc.out a (by rw [hws'.out]; rfl)) (hh.out a (by rw [hws'.out]; rfl)) (fun b c r2 e h => ?_)
        injection e with e3 e4
        injection e4 with e4 e5
        exact absurd (e4.trans h) hd)
      have hk := Lib.hid hS.out.k
      clear hd hDe
      go_enter Tryz.func71, Tryz.ntmps71
      go_wp2_with fail
      go_ret
      exact ⟨false, rfl, hk.out, fun _ => hans.out, fun e => by cases e⟩
end Go.Proofs.YtdannodhlaaoiaaGreatDoor
