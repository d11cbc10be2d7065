/- The document's Set, of a right configuration and a right line, walked (gen_cgb.py). -/
import Derived.Test.YtialookpnoaogaaGreatAA08
set_option linter.unusedVariables false
set_option linter.unusedSimpArgs false
set_option linter.unusedVariables false
set_option linter.unusedSimpArgs false
namespace Go.Proofs.YtialookpnoaogaaGreat
open Go.RowKit

theorem line5All : ∃ i, Tryz.prog.info? 55 = some i ∧ i.zero = some (.agg #[.int .i64 0, .string ⟨#[]⟩, .string ⟨#[]⟩, .string ⟨#[]⟩]) ∧ i.size = 4 ∧ i.bytes = 56 := by
  have h : (Tryz.prog.info? 55).map (fun i => (i.zero, i.size, i.bytes)) = some (some (.agg #[.int .i64 0, .string ⟨#[]⟩, .string ⟨#[]⟩, .string ⟨#[]⟩]), 4, 56) := by kernel_rfl
  obtain ⟨i, hi, e⟩ := Option.map_eq_some_iff.1 h
  injection e with e1 e; injection e with e2 e3
  exact ⟨i, hi, e1, e2, e3⟩
theorem line5InfoG : (Tryz.prog.info? 55).map (·.size) = some 4 := by kernel_rfl
def stK (x : LineD) (ls : List LineD) (k : Nat) : List LineD × Bool := (ls.take k).foldl (stepR x) ([], false)
theorem stK_step {x q : LineD} {ls : List LineD} {k : Nat} (hq : ls[k]? = some q) : stK x ls (k + 1) = stepR x (stK x ls k) q := by
  obtain ⟨hk, e⟩ := List.getElem?_eq_some_iff.1 hq
  unfold stK
  rw [List.take_succ_eq_append_getElem hk, e, List.foldl_append]; rfl
theorem stepR_len (x q : LineD) (s : List LineD × Bool) : (stepR x s q).1.length ≤ s.1.length + 2 := by
  unfold stepR
  simp only
  split <;> split <;> simp
theorem stK_len (x : LineD) (ls : List LineD) : ∀ k, (stK x ls k).1.length ≤ 2 * k := by
  intro k
  induction k with
  | zero => simp [stK]
  | succ k ih =>
    by_cases hk : k < ls.length
    · rw [stK_step (List.getElem?_eq_getElem hk)]
      have := stepR_len x ls[k] (stK x ls k)
      omega
    · have : stK x ls (k + 1) = stK x ls k := by unfold stK; rw [List.take_of_length_le (by omega), List.take_of_length_le (by omega)]
      rw [this]; omega
def RSetPost (zs : List LineD) (w : World) (e : Ending) (w' : World) : Prop :=
  (zs.length ≤ 64 → ∃ p c, e = .returned (.tuple #[.slice p zs.length c, .int .i64 0]) ∧ OwnR 55 4 lineVals w w' (.slice p zs.length c) zs) ∧ (64 < zs.length → e = .returned (.tuple #[.slice none 0 0, .int .i64 5])) ∧ Keeps (fun _ => False) w w'

set_option maxRecDepth 100000 in
set_option maxHeartbeats 8000000 in
theorem rSet_c (v : Value) (ls : List LineD) (h : Int) (N F V : ByteArray) (w : World) (hv : Hid (RowsAt 4 lineVals w v ls)) (hlt : Hid (LinesLt ls 8796093022000)) (hn : N.size ≤ 8796093022000) (hvs : V.size ≤ 8796093022000)
    (hlen : ls.length ≤ 64) (hr : Hid (rightC ls = true)) (hx : Hid (lineB ⟨h, N.data.toList, F.data.toList, V.data.toList⟩ = true)) :
    Calls Tryz.prog 17 #[v, .agg #[.int .i64 h, .string N, .string F, .string V]] w (RSetPost (setC ⟨h, N.data.toList, F.data.toList, V.data.toList⟩ ls) w) := by
  obtain ⟨p, c, rfl⟩ := hv.out.slice
  obtain ⟨i0, hi0, hi1, hi2, hi3⟩ := line5All
  have hLn := Lib.hid hv.out.lines
  have hB : Hid (BlkAt (w.alloc (.cells #[.int .i64 h, .string N, .string F, .string V] 55)) w.heap.size 55 [.int .i64 h, .string N, .string F, .string V]) := Lib.hid (BlkAt.new _ _ _)
  have hK0 : Hid (Keeps (fun _ => False) w (w.alloc (.cells #[.int .i64 h, .string N, .string F, .string V] 55))) := Lib.hid ((Keeps.refl _ _).alloc _)
  go_enter Tryz.func17, Tryz.ntmps17
  go_upto_region 1 with fail
  generalize w.alloc (.cells #[.int .i64 h, .string N, .string F, .string V] 55) = w1 at hB hK0 ⊢
  generalize hgb : w.heap.size = gb at hB ⊢
  clear hgb
  go_wp2_with fail
  refine (rRight_c _ ls true _ (Lib.hid (hLn.out.keep hK0.out (fun _ _ _ f => f))) (by omega) hlt hr).mono ?_
  rintro e w2 ⟨rfl, k2⟩
  have k2' := Lib.hid k2
  clear k2
  have hB2 := Lib.hid (hB.out.keep k2'.out id)
  go_wp2_with ((with_reducible refine at_slot 13 ?_); refine wpList_load_mid_g (by rfl) 55 (.tmp 3) rfl gb 0 rfl [.int .i64 h, .string N, .string F, .string V] _ hB2.out.range Tryz.underlying55 rfl line5InfoG ?_)
  refine (rRightLine_any h N F V true _ hn hvs hx).mono ?_
  rintro e w3 ⟨rfl, k3⟩
  have hB3 := Lib.hid (hB2.out.keep k3 id)
  have hK3 := Lib.hid (hK0.out.trans (k2'.out.trans k3))
  have hv3 := Lib.hid (hv.out.keep hK3.out)
  clear k3 k2' hB hB2 hK0 hLn hlt hx
  obtain ⟨x, hxe⟩ : ∃ x : LineD, x = ⟨h, N.data.toList, F.data.toList, V.data.toList⟩ := ⟨_, rfl⟩
  have hxe' := Lib.hid hxe
  rw [← hxe]
  clear hxe
  go_wp2_with fail
  go_loopw [8, 6, 7] (fun iv ov pv wr => ∃ (k : Nat) (q : Option Addr) (d : Nat), k ≤ ls.length ∧ iv = .int .i64 k ∧ ov = .slice q (stK x ls k).1.length d ∧ pv = .bool (stK x ls k).2 ∧ Hid (OwnR 55 4 lineVals w3 wr ov (stK x ls k).1) ∧ Hid (Keeps (fun _ => False) w3 wr)) (fun iv _ _ _ => ls.length - (intOf iv).toNat)
  case atStart => exact ⟨0, none, 0, by omega, rfl, rfl, rfl, Lib.hid (OwnR.nil _ _ (Nat.le_refl _)), Lib.hid (Keeps.refl _ _)⟩
  case round =>
    obtain ⟨k, qa, d, hk, rfl, rfl, rfl, hO, hK⟩ := hrel
    have hsl := stK_len x ls k
    generalize hst : stK x ls k = st at hO hsl ⊢
    have hst' := Lib.hid hst
    clear hst
    obtain ⟨oL, pb⟩ := st
    simp only at hO hsl ⊢
    by_cases hlk : k < ls.length
    · obtain ⟨g, o, rfl, hrows⟩ := hv3.out.open (by omega)
      obtain ⟨q, hq⟩ : ∃ q, ls[k]? = some q := ⟨_, List.getElem?_eq_getElem hlk⟩
      obtain ⟨Nq, hN⟩ : ∃ N : ByteArray, N = ⟨q.name.toArray⟩ := ⟨_, rfl⟩
      obtain ⟨Fq, hF⟩ : ∃ N : ByteArray, N = ⟨q.leaf.toArray⟩ := ⟨_, rfl⟩
      obtain ⟨Vq, hV⟩ : ∃ N : ByteArray, N = ⟨q.value.toArray⟩ := ⟨_, rfl⟩
      have hrow : Hid (w3.rangeAt g (o + k * 4) [.int .i64 q.head, .string Nq, .string Fq, .string Vq]) := Lib.hid (by rw [hN, hF, hV]; exact hrows k q hq)
      have hqd : Hid (q = ⟨q.head, Nq.data.toList, Fq.data.toList, Vq.data.toList⟩) := Lib.hid (by rw [hN, hF, hV])
      have hstep := Lib.hid (stK_step (x := x) hq)
      rw [hst'.out] at hstep
      have hsl' := Lib.hid hsl
      have m1 : (0 : Int) ≤ (k : Int) := by omega
      have m2 : (k : Int) < (ls.length : Int) := by omega
      clear hrows hN hF hV hq hst' hsl
      obtain ⟨zl, hzl⟩ : ∃ z, lessB ⟨q.head, Nq.data.toList, Fq.data.toList, Vq.data.toList⟩ ⟨h, N.data.toList, F.data.toList, V.data.toList⟩ = z := ⟨_, rfl⟩
      obtain ⟨zx, hzx⟩ : ∃ z, lessB ⟨h, N.data.toList, F.data.toList, V.data.toList⟩ ⟨q.head, Nq.data.toList, Fq.data.toList, Vq.data.toList⟩ = z := ⟨_, rfl⟩
      have el : Hid (lessB q x = zl) := Lib.hid (by rw [hqd.out, hxe'.out]; exact hzl)
      have ex : Hid (lessB x q = zx) := Lib.hid (by rw [hqd.out, hxe'.out]; exact hzx)
      have hzl' := Lib.hid hzl; have hzx' := Lib.hid hzx
      clear hzl hzx
      generalize hWr : wr = W0 at hO hK ⊢
      clear hWr
      cases pb with
      | true =>
        go_upto_region 8 with fail
        refine wp_region_noPanic ?_
        refine wp_region_held_drew (S := (fun W => Keeps (fun _ => False) W0 W)) (by kernel_rfl) (((Keeps.refl _ _).drew)) (fun hHeld => ?_)
        refine tk 0 rfl ?_
        refine tk 1 rfl ?_
        refine tk 2 rfl ?_
        refine tkS 3 rfl ?_
        refine tkS 4 rfl ?_
        refine tkS 5 rfl ?_
        refine tkS 6 rfl ?_
        refine tkS 7 rfl ?_
        refine tkS 8 rfl ?_
        refine tkS 9 rfl ?_
        refine tk 10 rfl ?_
        refine wpAnyH_done (by kernel_rfl) (NoPanic.normal ?_) _
        have hK1 := Lib.hid (hK.out.trans hHeld)
        have hO1 := Lib.hid (hO.out.keep hHeld (fun _ _ f => f))
        clear hHeld
        go_upto_region 10 with fail
        generalize hW1 : W0.drew = W1 at hO1 hK1 ⊢
        clear hW1
        cases zl with
        | true =>
          refine wp_region_noPanic ?_
          refine wp_region_held_drew (S := (fun W => Keeps (fun _ => False) W1 W)) (by kernel_rfl) (((Keeps.refl _ _).drew)) (fun hHeld => ?_)
          refine tk 0 rfl ?_
          refine tk 1 rfl ?_
          refine tk 2 rfl ?_
          refine tkL 3 rfl (yieldsIf_load_mid (by rfl) 55 (.tmp 40) rfl g (o + k * 4) rfl [.int .i64 q.head, .string Nq, .string Fq, .string Vq] _ (fun _ s => (hK1.out.trans s).rangeAt hrow.out id) Tryz.underlying55 rfl line5InfoG) ?_
          refine tkL 4 rfl (yieldsIf_load_mid (by rfl) 55 (.tmp 3) rfl gb 0 rfl [.int .i64 h, .string N, .string F, .string V] _ (fun _ s => (hB3.out.keep (hK1.out.trans s) id).range) Tryz.underlying55 rfl line5InfoG) ?_
          refine stepL 5 rfl (by kernel_rfl) (fun K hK => ?_)
          go_simp
          (refine (rLess_any q.head h Nq Fq Vq N F V _ _ hzl').mono ?_; rintro e wc ⟨rfl, kc⟩; have kc' := Lib.hid kc; clear kc)
          go_wp2_with fail
          refine hK.out _ _ ((hHeld.trans kc'.out)) (fun hHeld => ?_)
          clear hK K
          try simp only [Act.put, sA, sZ, sS]
          refine tk 6 rfl ?_
          refine tkS 7 rfl ?_
          refine tkS 8 rfl ?_
          refine tkS 9 rfl ?_
          refine tkS 10 rfl ?_
          refine tkS 11 rfl ?_
          refine tkS 12 rfl ?_
          refine tk 13 rfl ?_
          refine wpAnyH_done (by kernel_rfl) (NoPanic.normal ?_) _
          have hK2 := Lib.hid (hK1.out.trans hHeld)
          have hO2 := Lib.hid (hO1.out.keep hHeld (fun _ _ f => f))
          clear hHeld
          have hl3 := Lib.hid (show (oL).length ≤ 200 by have := hsl'.out; first | omega | (simp; omega))
          go_wp2_with (first | ((with_reducible refine at_slot 56 ?_); refine wpList_load_mid rfl 55 (.tmp 55) rfl g (o + k * 4) rfl [.int .i64 q.head, .string Nq, .string Fq, .string Vq] _ (hK2.out.rangeAt hrow.out id) Tryz.underlying55 rfl line5InfoG ?_) | ((with_reducible refine at_slot 58 ?_); go_must (refine wpList_append_r rfl (.tmp 52) (.tmp 57) 22 55 rfl i0 _ 56 Tryz.underlying22 hi0 hi1 hi2 hi3 rfl (by decide) (by decide) lineVals_len w3 _ (oL.length) (oL) (by simp) rfl (hO2.out.keep ((Keeps.refl (fun _ => False) _).alloc _) (fun _ _ f => f)) _ rfl ⟨q.head, Nq.data.toList, Fq.data.toList, Vq.data.toList⟩ (cells_new rfl _ _) (lineVals_one _) (by have := hsl'.out; omega) ?_); intro q3 d3 w3x hO3 hg3))
          have hK3 := Lib.hid (OwnR.keeps (hO2.out.keep ((Keeps.refl (fun _ => False) _).alloc _) (fun _ _ f => f)) (hK2.out.alloc _) hg3.out)
          clear hg3
          have hfin := Lib.hid (show stK x ls (k + 1) = (oL ++ [(⟨q.head, Nq.data.toList, Fq.data.toList, Vq.data.toList⟩ : LineD)], true) by rw [hstep.out]; unfold stepR; simp [el.out, ex.out, ← hqd.out, ← hxe'.out])
          skip
          refine ⟨⟨k + 1, q3, d3, by omega, by go_num, by simp [hfin.out], by rw [hfin.out], by rw [hfin.out]; exact hO3, hK3⟩, by simp [intOf]; omega⟩
        | false =>
          cases zx with
          | true =>
            refine wp_region_noPanic ?_
            refine wp_region_held_drew (S := (fun W => Keeps (fun _ => False) W1 W)) (by kernel_rfl) (((Keeps.refl _ _).drew)) (fun hHeld => ?_)
            refine tk 0 rfl ?_
            refine tk 1 rfl ?_
            refine tk 2 rfl ?_
            refine tkL 3 rfl (yieldsIf_load_mid (by rfl) 55 (.tmp 40) rfl g (o + k * 4) rfl [.int .i64 q.head, .string Nq, .string Fq, .string Vq] _ (fun _ s => (hK1.out.trans s).rangeAt hrow.out id) Tryz.underlying55 rfl line5InfoG) ?_
            refine tkL 4 rfl (yieldsIf_load_mid (by rfl) 55 (.tmp 3) rfl gb 0 rfl [.int .i64 h, .string N, .string F, .string V] _ (fun _ s => (hB3.out.keep (hK1.out.trans s) id).range) Tryz.underlying55 rfl line5InfoG) ?_
            refine stepL 5 rfl (by kernel_rfl) (fun K hK => ?_)
            go_simp
            (refine (rLess_any q.head h Nq Fq Vq N F V _ _ hzl').mono ?_; rintro e wc ⟨rfl, kc⟩; have kc' := Lib.hid kc; clear kc)
            go_wp2_with fail
            refine hK.out _ _ ((hHeld.trans kc'.out)) (fun hHeld => ?_)
            clear hK K
            try simp only [Act.put, sA, sZ, sS]
            refine tk 6 rfl ?_
            refine tkL 7 rfl (yieldsIf_load_mid (by rfl) 55 (.tmp 3) rfl gb 0 rfl [.int .i64 h, .string N, .string F, .string V] _ (fun _ s => (hB3.out.keep (hK1.out.trans s) id).range) Tryz.underlying55 rfl line5InfoG) ?_
            refine tk 8 rfl ?_
            refine tk 9 rfl ?_
            refine tk 10 rfl ?_
            refine tkL 11 rfl (yieldsIf_load_mid (by rfl) 55 (.tmp 48) rfl g (o + k * 4) rfl [.int .i64 q.head, .string Nq, .string Fq, .string Vq] _ (fun _ s => (hK1.out.trans s).rangeAt hrow.out id) Tryz.underlying55 rfl line5InfoG) ?_
            refine stepL 12 rfl (by kernel_rfl) (fun K hK => ?_)
            go_simp
            (refine (rLess_any h q.head N F V Nq Fq Vq _ _ hzx').mono ?_; rintro e wc ⟨rfl, kc⟩; have kc' := Lib.hid kc; clear kc)
            go_wp2_with fail
            refine hK.out _ _ ((hHeld.trans kc'.out)) (fun hHeld => ?_)
            clear hK K
            try simp only [Act.put, sA, sZ, sS]
            refine tk 13 rfl ?_
            refine wpAnyH_done (by kernel_rfl) (NoPanic.normal ?_) _
            have hK4 := Lib.hid (hK1.out.trans hHeld)
            have hO4 := Lib.hid (hO1.out.keep hHeld (fun _ _ f => f))
            clear hHeld
            have hl5 := Lib.hid (show (oL).length ≤ 200 by have := hsl'.out; first | omega | (simp; omega))
            go_wp2_with (first | ((with_reducible refine at_slot 56 ?_); refine wpList_load_mid rfl 55 (.tmp 55) rfl g (o + k * 4) rfl [.int .i64 q.head, .string Nq, .string Fq, .string Vq] _ (hK4.out.rangeAt hrow.out id) Tryz.underlying55 rfl line5InfoG ?_) | ((with_reducible refine at_slot 58 ?_); go_must (refine wpList_append_r rfl (.tmp 52) (.tmp 57) 22 55 rfl i0 _ 56 Tryz.underlying22 hi0 hi1 hi2 hi3 rfl (by decide) (by decide) lineVals_len w3 _ (oL.length) (oL) (by simp) rfl (hO4.out.keep ((Keeps.refl (fun _ => False) _).alloc _) (fun _ _ f => f)) _ rfl ⟨q.head, Nq.data.toList, Fq.data.toList, Vq.data.toList⟩ (cells_new rfl _ _) (lineVals_one _) (by have := hsl'.out; omega) ?_); intro q5 d5 w5x hO5 hg5))
            have hK5 := Lib.hid (OwnR.keeps (hO4.out.keep ((Keeps.refl (fun _ => False) _).alloc _) (fun _ _ f => f)) (hK4.out.alloc _) hg5.out)
            clear hg5
            have hfin := Lib.hid (show stK x ls (k + 1) = (oL ++ [(⟨q.head, Nq.data.toList, Fq.data.toList, Vq.data.toList⟩ : LineD)], true) by rw [hstep.out]; unfold stepR; simp [el.out, ex.out, ← hqd.out, ← hxe'.out])
            skip
            refine ⟨⟨k + 1, q5, d5, by omega, by go_num, by simp [hfin.out], by rw [hfin.out], by rw [hfin.out]; exact hO5, hK5⟩, by simp [intOf]; omega⟩
          | false =>
            refine wp_region_noPanic ?_
            refine wp_region_held_drew (S := (fun W => Keeps (fun _ => False) W1 W)) (by kernel_rfl) (((Keeps.refl _ _).drew)) (fun hHeld => ?_)
            refine tk 0 rfl ?_
            refine tk 1 rfl ?_
            refine tk 2 rfl ?_
            refine tkL 3 rfl (yieldsIf_load_mid (by rfl) 55 (.tmp 40) rfl g (o + k * 4) rfl [.int .i64 q.head, .string Nq, .string Fq, .string Vq] _ (fun _ s => (hK1.out.trans s).rangeAt hrow.out id) Tryz.underlying55 rfl line5InfoG) ?_
            refine tkL 4 rfl (yieldsIf_load_mid (by rfl) 55 (.tmp 3) rfl gb 0 rfl [.int .i64 h, .string N, .string F, .string V] _ (fun _ s => (hB3.out.keep (hK1.out.trans s) id).range) Tryz.underlying55 rfl line5InfoG) ?_
            refine stepL 5 rfl (by kernel_rfl) (fun K hK => ?_)
            go_simp
            (refine (rLess_any q.head h Nq Fq Vq N F V _ _ hzl').mono ?_; rintro e wc ⟨rfl, kc⟩; have kc' := Lib.hid kc; clear kc)
            go_wp2_with fail
            refine hK.out _ _ ((hHeld.trans kc'.out)) (fun hHeld => ?_)
            clear hK K
            try simp only [Act.put, sA, sZ, sS]
            refine tk 6 rfl ?_
            refine tkL 7 rfl (yieldsIf_load_mid (by rfl) 55 (.tmp 3) rfl gb 0 rfl [.int .i64 h, .string N, .string F, .string V] _ (fun _ s => (hB3.out.keep (hK1.out.trans s) id).range) Tryz.underlying55 rfl line5InfoG) ?_
            refine tk 8 rfl ?_
            refine tk 9 rfl ?_
            refine tk 10 rfl ?_
            refine tkL 11 rfl (yieldsIf_load_mid (by rfl) 55 (.tmp 48) rfl g (o + k * 4) rfl [.int .i64 q.head, .string Nq, .string Fq, .string Vq] _ (fun _ s => (hK1.out.trans s).rangeAt hrow.out id) Tryz.underlying55 rfl line5InfoG) ?_
            refine stepL 12 rfl (by kernel_rfl) (fun K hK => ?_)
            go_simp
            (refine (rLess_any h q.head N F V Nq Fq Vq _ _ hzx').mono ?_; rintro e wc ⟨rfl, kc⟩; have kc' := Lib.hid kc; clear kc)
            go_wp2_with fail
            refine hK.out _ _ ((hHeld.trans kc'.out)) (fun hHeld => ?_)
            clear hK K
            try simp only [Act.put, sA, sZ, sS]
            refine tk 13 rfl ?_
            refine wpAnyH_done (by kernel_rfl) (NoPanic.normal ?_) _
            have hK6 := Lib.hid (hK1.out.trans hHeld)
            have hO6 := Lib.hid (hO1.out.keep hHeld (fun _ _ f => f))
            clear hHeld
            have hfin := Lib.hid (show stK x ls (k + 1) = (oL, true) by rw [hstep.out]; unfold stepR; simp [el.out, ex.out, ← hqd.out, ← hxe'.out])
            go_wp2_with fail
            refine ⟨⟨k + 1, qa, d, by omega, by go_num, by simp [hfin.out], by rw [hfin.out], by rw [hfin.out]; exact hO6, hK6⟩, by simp [intOf]; omega⟩
      | false =>
        go_upto_region 8 with fail
        cases zl with
        | true =>
          refine wp_region_noPanic ?_
          refine wp_region_held_drew (S := (fun W => Keeps (fun _ => False) W0 W)) (by kernel_rfl) (((Keeps.refl _ _).drew)) (fun hHeld => ?_)
          refine tk 0 rfl ?_
          refine tk 1 rfl ?_
          refine tk 2 rfl ?_
          refine tk 3 rfl ?_
          refine tk 4 rfl ?_
          refine tk 5 rfl ?_
          refine tkL 6 rfl (yieldsIf_load_mid (by rfl) 55 (.tmp 28) rfl g (o + k * 4) rfl [.int .i64 q.head, .string Nq, .string Fq, .string Vq] _ (fun _ s => (hK.out.trans s).rangeAt hrow.out id) Tryz.underlying55 rfl line5InfoG) ?_
          refine tkL 7 rfl (yieldsIf_load_mid (by rfl) 55 (.tmp 3) rfl gb 0 rfl [.int .i64 h, .string N, .string F, .string V] _ (fun _ s => (hB3.out.keep (hK.out.trans s) id).range) Tryz.underlying55 rfl line5InfoG) ?_
          refine stepL 8 rfl (by kernel_rfl) (fun K hK => ?_)
          go_simp
          (refine (rLess_any q.head h Nq Fq Vq N F V _ _ hzl').mono ?_; rintro e wc ⟨rfl, kc⟩; have kc' := Lib.hid kc; clear kc)
          go_wp2_with fail
          refine hK.out _ _ ((hHeld.trans kc'.out)) (fun hHeld => ?_)
          clear hK K
          try simp only [Act.put, sA, sZ, sS]
          refine tk 9 rfl ?_
          refine tk 10 rfl ?_
          refine wpAnyH_done (by kernel_rfl) (NoPanic.normal ?_) _
          have hK7 := Lib.hid (hK.out.trans hHeld)
          have hO7 := Lib.hid (hO.out.keep hHeld (fun _ _ f => f))
          clear hHeld
          go_upto_region 10 with fail
          skip
          refine wp_region_noPanic ?_
          refine wp_region_held_drew (S := (fun W => Keeps (fun _ => False) wc W)) (by kernel_rfl) (((Keeps.refl _ _).drew)) (fun hHeld => ?_)
          refine tk 0 rfl ?_
          refine tk 1 rfl ?_
          refine tk 2 rfl ?_
          refine tkL 3 rfl (yieldsIf_load_mid (by rfl) 55 (.tmp 40) rfl g (o + k * 4) rfl [.int .i64 q.head, .string Nq, .string Fq, .string Vq] _ (fun _ s => (hK7.out.trans s).rangeAt hrow.out id) Tryz.underlying55 rfl line5InfoG) ?_
          refine tkL 4 rfl (yieldsIf_load_mid (by rfl) 55 (.tmp 3) rfl gb 0 rfl [.int .i64 h, .string N, .string F, .string V] _ (fun _ s => (hB3.out.keep (hK7.out.trans s) id).range) Tryz.underlying55 rfl line5InfoG) ?_
          refine stepL 5 rfl (by kernel_rfl) (fun K hK => ?_)
          go_simp
          (refine (rLess_any q.head h Nq Fq Vq N F V _ _ hzl').mono ?_; rintro e wc ⟨rfl, kc⟩; have kc' := Lib.hid kc; clear kc)
          go_wp2_with fail
          refine hK.out _ _ ((hHeld.trans kc'.out)) (fun hHeld => ?_)
          clear hK K
          try simp only [Act.put, sA, sZ, sS]
          refine tk 6 rfl ?_
          refine tkS 7 rfl ?_
          refine tkS 8 rfl ?_
          refine tkS 9 rfl ?_
          refine tkS 10 rfl ?_
          refine tkS 11 rfl ?_
          refine tkS 12 rfl ?_
          refine tk 13 rfl ?_
          refine wpAnyH_done (by kernel_rfl) (NoPanic.normal ?_) _
          have hK8 := Lib.hid (hK7.out.trans hHeld)
          have hO8 := Lib.hid (hO7.out.keep hHeld (fun _ _ f => f))
          clear hHeld
          have hl9 := Lib.hid (show (oL).length ≤ 200 by have := hsl'.out; first | omega | (simp; omega))
          go_wp2_with (first | ((with_reducible refine at_slot 56 ?_); refine wpList_load_mid rfl 55 (.tmp 55) rfl g (o + k * 4) rfl [.int .i64 q.head, .string Nq, .string Fq, .string Vq] _ (hK8.out.rangeAt hrow.out id) Tryz.underlying55 rfl line5InfoG ?_) | ((with_reducible refine at_slot 58 ?_); go_must (refine wpList_append_r rfl (.tmp 52) (.tmp 57) 22 55 rfl i0 _ 56 Tryz.underlying22 hi0 hi1 hi2 hi3 rfl (by decide) (by decide) lineVals_len w3 _ (oL.length) (oL) (by simp) rfl (hO8.out.keep ((Keeps.refl (fun _ => False) _).alloc _) (fun _ _ f => f)) _ rfl ⟨q.head, Nq.data.toList, Fq.data.toList, Vq.data.toList⟩ (cells_new rfl _ _) (lineVals_one _) (by have := hsl'.out; omega) ?_); intro q9 d9 w9x hO9 hg9))
          have hK9 := Lib.hid (OwnR.keeps (hO8.out.keep ((Keeps.refl (fun _ => False) _).alloc _) (fun _ _ f => f)) (hK8.out.alloc _) hg9.out)
          clear hg9
          have hfin := Lib.hid (show stK x ls (k + 1) = (oL ++ [(⟨q.head, Nq.data.toList, Fq.data.toList, Vq.data.toList⟩ : LineD)], false) by rw [hstep.out]; unfold stepR; simp [el.out, ex.out, ← hqd.out, ← hxe'.out])
          skip
          refine ⟨⟨k + 1, q9, d9, by omega, by go_num, by simp [hfin.out], by rw [hfin.out], by rw [hfin.out]; exact hO9, hK9⟩, by simp [intOf]; omega⟩
        | false =>
          refine wp_region_noPanic ?_
          refine wp_region_held_drew (S := (fun W => Keeps (fun _ => False) W0 W)) (by kernel_rfl) (((Keeps.refl _ _).drew)) (fun hHeld => ?_)
          refine tk 0 rfl ?_
          refine tk 1 rfl ?_
          refine tk 2 rfl ?_
          refine tk 3 rfl ?_
          refine tk 4 rfl ?_
          refine tk 5 rfl ?_
          refine tkL 6 rfl (yieldsIf_load_mid (by rfl) 55 (.tmp 28) rfl g (o + k * 4) rfl [.int .i64 q.head, .string Nq, .string Fq, .string Vq] _ (fun _ s => (hK.out.trans s).rangeAt hrow.out id) Tryz.underlying55 rfl line5InfoG) ?_
          refine tkL 7 rfl (yieldsIf_load_mid (by rfl) 55 (.tmp 3) rfl gb 0 rfl [.int .i64 h, .string N, .string F, .string V] _ (fun _ s => (hB3.out.keep (hK.out.trans s) id).range) Tryz.underlying55 rfl line5InfoG) ?_
          refine stepL 8 rfl (by kernel_rfl) (fun K hK => ?_)
          go_simp
          (refine (rLess_any q.head h Nq Fq Vq N F V _ _ hzl').mono ?_; rintro e wc ⟨rfl, kc⟩; have kc' := Lib.hid kc; clear kc)
          go_wp2_with fail
          refine hK.out _ _ ((hHeld.trans kc'.out)) (fun hHeld => ?_)
          clear hK K
          try simp only [Act.put, sA, sZ, sS]
          refine tk 9 rfl ?_
          refine tk 10 rfl ?_
          refine wpAnyH_done (by kernel_rfl) (NoPanic.normal ?_) _
          have hK10 := Lib.hid (hK.out.trans hHeld)
          have hO10 := Lib.hid (hO.out.keep hHeld (fun _ _ f => f))
          clear hHeld
          have hl11 := Lib.hid (show (oL).length ≤ 200 by have := hsl'.out; first | omega | (simp; omega))
          go_upto_region 10 with (first | ((with_reducible refine at_slot 35 ?_); refine wpList_load_mid rfl 55 (.tmp 3) rfl gb 0 rfl [.int .i64 h, .string N, .string F, .string V] _ (hB3.out.keep hK10.out id).range Tryz.underlying55 rfl line5InfoG ?_) | ((with_reducible refine at_slot 37 ?_); go_must (refine wpList_append_r rfl (.tmp 34) (.tmp 36) 22 55 rfl i0 _ 56 Tryz.underlying22 hi0 hi1 hi2 hi3 rfl (by decide) (by decide) lineVals_len w3 _ (oL.length) (oL) (by simp) rfl (hO10.out.keep ((Keeps.refl (fun _ => False) _).alloc _) (fun _ _ f => f)) _ rfl ⟨h, N.data.toList, F.data.toList, V.data.toList⟩ (cells_new rfl _ _) (lineVals_one _) (by have := hsl'.out; omega) ?_); intro q11 d11 w11x hO11 hg11))
          have hK11 := Lib.hid (OwnR.keeps (hO10.out.keep ((Keeps.refl (fun _ => False) _).alloc _) (fun _ _ f => f)) (hK10.out.alloc _) hg11.out)
          clear hg11
          cases zx with
          | true =>
            refine wp_region_noPanic ?_
            refine wp_region_held_drew (S := (fun W => Keeps (fun _ => False) w11x W)) (by kernel_rfl) (((Keeps.refl _ _).drew)) (fun hHeld => ?_)
            refine tk 0 rfl ?_
            refine tk 1 rfl ?_
            refine tk 2 rfl ?_
            refine tkL 3 rfl (yieldsIf_load_mid (by rfl) 55 (.tmp 40) rfl g (o + k * 4) rfl [.int .i64 q.head, .string Nq, .string Fq, .string Vq] _ (fun _ s => (hK11.out.trans s).rangeAt hrow.out id) Tryz.underlying55 rfl line5InfoG) ?_
            refine tkL 4 rfl (yieldsIf_load_mid (by rfl) 55 (.tmp 3) rfl gb 0 rfl [.int .i64 h, .string N, .string F, .string V] _ (fun _ s => (hB3.out.keep (hK11.out.trans s) id).range) Tryz.underlying55 rfl line5InfoG) ?_
            refine stepL 5 rfl (by kernel_rfl) (fun K hK => ?_)
            go_simp
            (refine (rLess_any q.head h Nq Fq Vq N F V _ _ hzl').mono ?_; rintro e wc ⟨rfl, kc⟩; have kc' := Lib.hid kc; clear kc)
            go_wp2_with fail
            refine hK.out _ _ ((hHeld.trans kc'.out)) (fun hHeld => ?_)
            clear hK K
            try simp only [Act.put, sA, sZ, sS]
            refine tk 6 rfl ?_
            refine tkL 7 rfl (yieldsIf_load_mid (by rfl) 55 (.tmp 3) rfl gb 0 rfl [.int .i64 h, .string N, .string F, .string V] _ (fun _ s => (hB3.out.keep (hK11.out.trans s) id).range) Tryz.underlying55 rfl line5InfoG) ?_
            refine tk 8 rfl ?_
            refine tk 9 rfl ?_
            refine tk 10 rfl ?_
            refine tkL 11 rfl (yieldsIf_load_mid (by rfl) 55 (.tmp 48) rfl g (o + k * 4) rfl [.int .i64 q.head, .string Nq, .string Fq, .string Vq] _ (fun _ s => (hK11.out.trans s).rangeAt hrow.out id) Tryz.underlying55 rfl line5InfoG) ?_
            refine stepL 12 rfl (by kernel_rfl) (fun K hK => ?_)
            go_simp
            (refine (rLess_any h q.head N F V Nq Fq Vq _ _ hzx').mono ?_; rintro e wc ⟨rfl, kc⟩; have kc' := Lib.hid kc; clear kc)
            go_wp2_with fail
            refine hK.out _ _ ((hHeld.trans kc'.out)) (fun hHeld => ?_)
            clear hK K
            try simp only [Act.put, sA, sZ, sS]
            refine tk 13 rfl ?_
            refine wpAnyH_done (by kernel_rfl) (NoPanic.normal ?_) _
            have hK12 := Lib.hid (hK11.out.trans hHeld)
            have hO12 := Lib.hid (hO11.out.keep hHeld (fun _ _ f => f))
            clear hHeld
            have hl13 := Lib.hid (show (oL ++ [(⟨h, N.data.toList, F.data.toList, V.data.toList⟩ : LineD)]).length ≤ 200 by have := hsl'.out; first | omega | (simp; omega))
            go_wp2_with (first | ((with_reducible refine at_slot 56 ?_); refine wpList_load_mid rfl 55 (.tmp 55) rfl g (o + k * 4) rfl [.int .i64 q.head, .string Nq, .string Fq, .string Vq] _ (hK12.out.rangeAt hrow.out id) Tryz.underlying55 rfl line5InfoG ?_) | ((with_reducible refine at_slot 58 ?_); go_must (refine wpList_append_r rfl (.tmp 52) (.tmp 57) 22 55 rfl i0 _ 56 Tryz.underlying22 hi0 hi1 hi2 hi3 rfl (by decide) (by decide) lineVals_len w3 _ (oL.length + 1) (oL ++ [(⟨h, N.data.toList, F.data.toList, V.data.toList⟩ : LineD)]) (by simp) rfl (hO12.out.keep ((Keeps.refl (fun _ => False) _).alloc _) (fun _ _ f => f)) _ rfl ⟨q.head, Nq.data.toList, Fq.data.toList, Vq.data.toList⟩ (cells_new rfl _ _) (lineVals_one _) (by have := hsl'.out; omega) ?_); intro q13 d13 w13x hO13 hg13))
            have hK13 := Lib.hid (OwnR.keeps (hO12.out.keep ((Keeps.refl (fun _ => False) _).alloc _) (fun _ _ f => f)) (hK12.out.alloc _) hg13.out)
            clear hg13
            have hfin := Lib.hid (show stK x ls (k + 1) = (oL ++ [(⟨h, N.data.toList, F.data.toList, V.data.toList⟩ : LineD)] ++ [(⟨q.head, Nq.data.toList, Fq.data.toList, Vq.data.toList⟩ : LineD)], true) by rw [hstep.out]; unfold stepR; simp [el.out, ex.out, ← hqd.out, ← hxe'.out])
            skip
            refine ⟨⟨k + 1, q13, d13, by omega, by go_num, by simp [hfin.out], by rw [hfin.out], by rw [hfin.out]; exact hO13, hK13⟩, by simp [intOf]; omega⟩
          | false =>
            refine wp_region_noPanic ?_
            refine wp_region_held_drew (S := (fun W => Keeps (fun _ => False) w11x W)) (by kernel_rfl) (((Keeps.refl _ _).drew)) (fun hHeld => ?_)
            refine tk 0 rfl ?_
            refine tk 1 rfl ?_
            refine tk 2 rfl ?_
            refine tkL 3 rfl (yieldsIf_load_mid (by rfl) 55 (.tmp 40) rfl g (o + k * 4) rfl [.int .i64 q.head, .string Nq, .string Fq, .string Vq] _ (fun _ s => (hK11.out.trans s).rangeAt hrow.out id) Tryz.underlying55 rfl line5InfoG) ?_
            refine tkL 4 rfl (yieldsIf_load_mid (by rfl) 55 (.tmp 3) rfl gb 0 rfl [.int .i64 h, .string N, .string F, .string V] _ (fun _ s => (hB3.out.keep (hK11.out.trans s) id).range) Tryz.underlying55 rfl line5InfoG) ?_
            refine stepL 5 rfl (by kernel_rfl) (fun K hK => ?_)
            go_simp
            (refine (rLess_any q.head h Nq Fq Vq N F V _ _ hzl').mono ?_; rintro e wc ⟨rfl, kc⟩; have kc' := Lib.hid kc; clear kc)
            go_wp2_with fail
            refine hK.out _ _ ((hHeld.trans kc'.out)) (fun hHeld => ?_)
            clear hK K
            try simp only [Act.put, sA, sZ, sS]
            refine tk 6 rfl ?_
            refine tkL 7 rfl (yieldsIf_load_mid (by rfl) 55 (.tmp 3) rfl gb 0 rfl [.int .i64 h, .string N, .string F, .string V] _ (fun _ s => (hB3.out.keep (hK11.out.trans s) id).range) Tryz.underlying55 rfl line5InfoG) ?_
            refine tk 8 rfl ?_
            refine tk 9 rfl ?_
            refine tk 10 rfl ?_
            refine tkL 11 rfl (yieldsIf_load_mid (by rfl) 55 (.tmp 48) rfl g (o + k * 4) rfl [.int .i64 q.head, .string Nq, .string Fq, .string Vq] _ (fun _ s => (hK11.out.trans s).rangeAt hrow.out id) Tryz.underlying55 rfl line5InfoG) ?_
            refine stepL 12 rfl (by kernel_rfl) (fun K hK => ?_)
            go_simp
            (refine (rLess_any h q.head N F V Nq Fq Vq _ _ hzx').mono ?_; rintro e wc ⟨rfl, kc⟩; have kc' := Lib.hid kc; clear kc)
            go_wp2_with fail
            refine hK.out _ _ ((hHeld.trans kc'.out)) (fun hHeld => ?_)
            clear hK K
            try simp only [Act.put, sA, sZ, sS]
            refine tk 13 rfl ?_
            refine wpAnyH_done (by kernel_rfl) (NoPanic.normal ?_) _
            have hK14 := Lib.hid (hK11.out.trans hHeld)
            have hO14 := Lib.hid (hO11.out.keep hHeld (fun _ _ f => f))
            clear hHeld
            have hfin := Lib.hid (show stK x ls (k + 1) = (oL ++ [(⟨h, N.data.toList, F.data.toList, V.data.toList⟩ : LineD)], true) by rw [hstep.out]; unfold stepR; simp [el.out, ex.out, ← hqd.out, ← hxe'.out])
            go_wp2_with fail
            refine ⟨⟨k + 1, q11, d11, by omega, by go_num, by simp [hfin.out], by rw [hfin.out], by rw [hfin.out]; exact hO14, hK14⟩, by simp [intOf]; omega⟩
    · obtain rfl : k = ls.length := by omega
      have hend := set_fold (x := x) hr.out
      have hst2 : stK x ls ls.length = ls.foldl (stepR x) ([], false) := by unfold stK; rw [List.take_length]
      rw [← hst2, hst'.out] at hend
      unfold endR at hend
      simp only at hend
      have hend' := Lib.hid hend
      clear hend hst2 hst' hlk hk
      skip
      cases pb with
      | true =>
        simp only [if_true] at hend'
        have hxx : setC ⟨h, N.data.toList, F.data.toList, V.data.toList⟩ ls = oL := by
          have e := hend'.out
          rw [hxe'.out] at e
          exact e.symm
        have hxx' := Lib.hid hxx
        clear hxx hend'
        by_cases h65 : 64 < oL.length
        · go_wp2_with fail
          go_ret2
          show RSetPost (setC ⟨h, N.data.toList, F.data.toList, V.data.toList⟩ ls) w _ _
          rw [hxx'.out]
          exact ⟨fun hh => absurd h65 (by first | omega | (simp at hh; omega)), fun _ => rfl, hK3.out.trans hK.out⟩
        · go_wp2_with fail
          go_ret2
          show RSetPost (setC ⟨h, N.data.toList, F.data.toList, V.data.toList⟩ ls) w _ _
          rw [hxx'.out]
          exact ⟨fun _ => ⟨qa, d, by simp, by have hh := hO.out.older (w0 := w) hK3.out.size; simpa using hh⟩, fun hh => absurd hh (by first | omega | (simp; omega)), hK3.out.trans hK.out⟩
      | false =>
        simp only [Bool.false_eq_true, if_false] at hend'
        have hsl' := Lib.hid hsl
        skip
        go_upto_region 14 with (first | ((with_reducible refine at_slot 62 ?_); refine wpList_load_mid rfl 55 (.tmp 3) rfl gb 0 rfl [.int .i64 h, .string N, .string F, .string V] _ (hB3.out.keep hK.out id).range Tryz.underlying55 rfl line5InfoG ?_) | ((with_reducible refine at_slot 64 ?_); go_must (refine wpList_append_r rfl (.tmp 61) (.tmp 63) 22 55 rfl i0 _ 56 Tryz.underlying22 hi0 hi1 hi2 hi3 rfl (by decide) (by decide) lineVals_len w3 _ oL.length oL rfl rfl (hO.out.keep ((Keeps.refl (fun _ => False) _).alloc _) (fun _ _ f => f)) _ rfl ⟨h, N.data.toList, F.data.toList, V.data.toList⟩ (cells_new rfl _ _) (lineVals_one _) (by have := hsl'.out; omega) ?_); intro qz dz wz hOz hgz))
        have hKz := Lib.hid (OwnR.keeps (hO.out.keep ((Keeps.refl (fun _ => False) _).alloc _) (fun _ _ f => f)) (hK.out.alloc _) hgz.out)
        clear hgz
        have hxx : setC ⟨h, N.data.toList, F.data.toList, V.data.toList⟩ ls = oL ++ [(⟨h, N.data.toList, F.data.toList, V.data.toList⟩ : LineD)] := by
          have e := hend'.out
          rw [hxe'.out] at e
          exact e.symm
        have hxx' := Lib.hid hxx
        clear hxx hend'
        by_cases h65 : 64 < oL.length + 1
        · go_wp2_with fail
          go_ret2
          show RSetPost (setC ⟨h, N.data.toList, F.data.toList, V.data.toList⟩ ls) w _ _
          rw [hxx'.out]
          exact ⟨fun hh => absurd h65 (by first | omega | (simp at hh; omega)), fun _ => rfl, hK3.out.trans hKz.out⟩
        · go_wp2_with fail
          go_ret2
          show RSetPost (setC ⟨h, N.data.toList, F.data.toList, V.data.toList⟩ ls) w _ _
          rw [hxx'.out]
          exact ⟨fun _ => ⟨qz, dz, by simp, by have hh := hOz.out.older (w0 := w) hK3.out.size; simpa using hh⟩, fun hh => absurd hh (by first | omega | (simp; omega)), hK3.out.trans hKz.out⟩
end Go.Proofs.YtialookpnoaogaaGreat
/- The law's To and From of lines, walked (gen_cgc.py). -/
set_option linter.unusedVariables false
set_option linter.unusedSimpArgs false
namespace Go.Proofs.YtialookpnoaogaaGreat
open Go.RowKit

def CopyPost (t : TypeId) (ls : List LineD) (w : World) (e : Ending) (w' : World) : Prop :=
  ∃ p c, e = .returned (.slice p ls.length c) ∧ OwnR t 4 lineVals w w' (.slice p ls.length c) ls ∧ Keeps (fun _ => False) w w'

set_option maxRecDepth 100000 in
set_option maxHeartbeats 4000000 in
theorem to_any (v : Value) (ls : List LineD) (w : World) (hv : Hid (RowsAt 4 lineVals w v ls)) (hl : ls.length ≤ 1000000) :
    Calls Tryz.prog 7 #[v] w (CopyPost 79 ls w) := by
  obtain ⟨p, c, rfl⟩ := hv.out.slice
  obtain ⟨i0, hi0, hi1, hi2, hi3⟩ := lineAll
  go_enter Tryz.func7, Tryz.ntmps7
  go_wp2_with fail
  go_loopw [4, 3] (fun iv ov wr => ∃ (k : Nat) (q : Option Addr) (d : Nat), k ≤ ls.length ∧ iv = .int .i64 k ∧ ov = .slice q k d ∧ Hid (OwnR 79 4 lineVals w wr ov (ls.take k)) ∧ Hid (Keeps (fun _ => False) w wr)) (fun iv _ _ => ls.length - (intOf iv).toNat)
  case atStart => exact ⟨0, none, 0, by omega, rfl, rfl, Lib.hid (OwnR.nil _ _ (Nat.le_refl _)), Lib.hid (Keeps.refl _ _)⟩
  case round =>
    obtain ⟨k, qa, d, hk, rfl, rfl, hO, hKw⟩ := hrel
    by_cases hlk : k < ls.length
    · obtain ⟨g, o, rfl, hrows⟩ := hv.out.open (by omega)
      obtain ⟨q, hq⟩ : ∃ q, ls[k]? = some q := ⟨_, List.getElem?_eq_getElem hlk⟩
      obtain ⟨Nq, hN⟩ : ∃ N : ByteArray, N = ⟨q.name.toArray⟩ := ⟨_, rfl⟩
      obtain ⟨Fq, hF⟩ : ∃ N : ByteArray, N = ⟨q.leaf.toArray⟩ := ⟨_, rfl⟩
      obtain ⟨Vq, hV⟩ : ∃ N : ByteArray, N = ⟨q.value.toArray⟩ := ⟨_, rfl⟩
      have hrow : Hid (wr.rangeAt g (o + k * 4) [.int .i64 q.head, .string Nq, .string Fq, .string Vq]) := Lib.hid (by rw [hN, hF, hV]; exact hKw.out.rangeAt (hrows k q hq) id)
      have hgw : Hid (¬ w.heap.size ≤ g) := Lib.hid (by have := World.block_lt_of_cell? w _ (hrows k q hq 0 _ rfl); have h3 : g < w.heap.size := this; omega)
      have hqd : Hid (q = ⟨q.head, Nq.data.toList, Fq.data.toList, Vq.data.toList⟩) := Lib.hid (by rw [hN, hF, hV])
      have hstep : Hid (ls.take (k + 1) = ls.take k ++ [q]) := Lib.hid (by
        obtain ⟨h2, e⟩ := List.getElem?_eq_some_iff.1 hq
        rw [List.take_succ_eq_append_getElem h2, e])
      have htk : Hid ((ls.take k).length = k) := Lib.hid (by rw [List.length_take]; omega)
      have m1 : (0 : Int) ≤ (k : Int) := by omega
      have m2 : (k : Int) < (ls.length : Int) := by omega
      clear hrows hN hF hV hq
      go_upto_region 5 with fail
      refine wp_region_noPanic ?_
      refine wp_region_held_drew (S := (fun W => Keeps (fun i => w.heap.size ≤ i) wr W)) (by kernel_rfl) (((Keeps.refl _ _).drew)) (fun hHeld => ?_)
      refine tk 0 rfl ?_
      refine tk 1 rfl ?_
      refine tk 2 rfl ?_
      refine tk 3 rfl ?_
      refine tk 4 rfl ?_
      refine tkL 5 rfl (yieldsIf_load_cell (by rfl) 3 (.tmp 15) rfl g (o + k * 4 + 0) rfl _ (fun _ s => s.rangeAt hrow.out hgw.out 0 _ rfl) (fun w s => load_int w _ _ _ s)) ?_
      refine tk 6 rfl ?_
      refine tk 7 rfl ?_
      refine tk 8 rfl ?_
      refine tk 9 rfl ?_
      refine tkL 10 rfl (yieldsIf_load_cell (by rfl) 9 (.tmp 20) rfl g (o + k * 4 + 1) rfl _ (fun _ s => s.rangeAt hrow.out hgw.out 1 _ rfl) (fun w s => load_str w _ _ _ s)) ?_
      refine tk 11 rfl ?_
      refine tk 12 rfl ?_
      refine tk 13 rfl ?_
      refine tk 14 rfl ?_
      refine tkL 15 rfl (yieldsIf_load_cell (by rfl) 9 (.tmp 25) rfl g (o + k * 4 + 2) rfl _ (fun _ s => s.rangeAt hrow.out hgw.out 2 _ rfl) (fun w s => load_str w _ _ _ s)) ?_
      refine tk 16 rfl ?_
      refine tk 17 rfl ?_
      refine tk 18 rfl ?_
      refine tk 19 rfl ?_
      refine tkL 20 rfl (yieldsIf_load_cell (by rfl) 9 (.tmp 30) rfl g (o + k * 4 + 3) rfl _ (fun _ s => s.rangeAt hrow.out hgw.out 3 _ rfl) (fun w s => load_str w _ _ _ s)) ?_
      refine tk 21 rfl ?_
      refine stepL 22 rfl (by kernel_rfl) (fun K hK => ?_)
      go_simp
      refine hK.out _ _ ((hHeld.alloc _)) (fun hHeld => ?_)
      clear hK K
      try simp only [Act.put, sA, sZ, sS]
      refine stepL 23 rfl (by kernel_rfl) (fun K hK => ?_)
      rw [if_pos (by rfl)]
      (refine wp_append_r (.tmp 11) (.tmp 33) 30 79 rfl i0 _ 56 Tryz.underlying30 hi0 hi1 hi2 hi3 rfl (by decide) (by decide) lineVals_len w _ k (ls.take k) htk.out rfl (hO.out.keep (((Keeps.refl (fun _ => False) _).drew).alloc _) (fun _ _ f => f)) _ rfl ⟨q.head, Nq.data.toList, Fq.data.toList, Vq.data.toList⟩ (cells_new rfl _ _) (lineVals_one _) (by omega) ?_; intro q8 d8 w8 hO8 hg8; have hO8' := Lib.hid hO8; have hK8 := Lib.hid (OwnR.keeps (hO.out.keep (((Keeps.refl (fun _ => False) _).drew).alloc _) (fun _ _ f => f)) ((hKw.out.drew).alloc _) hg8); have hg8' := Lib.hid (hg8.k.mono (G := fun i => w.heap.size ≤ i) (fun i e => .inl (hO.out.2.1 i e))); clear hO8 hg8)
      refine hK.out _ _ ((hHeld.trans hg8'.out)) (fun hHeld => ?_)
      clear hK K
      try simp only [Act.put, sA, sZ, sS]
      refine tk 24 rfl ?_
      refine wpAnyH_done (by kernel_rfl) (NoPanic.normal ?_) _
      clear hHeld hg8'
      go_wp2_with fail
      exact ⟨⟨k + 1, q8, d8, by omega, by go_num, rfl, by rw [hstep.out, hqd.out]; exact hO8', hK8⟩, by simp [intOf]; omega⟩
    · obtain rfl : k = ls.length := by omega
      rw [List.take_length] at hO
      go_wp2_with fail
      go_ret
      exact ⟨qa, d, rfl, hO.out, hKw.out⟩

end Go.Proofs.YtialookpnoaogaaGreat
/- Lines compared: the document's Same, walked. -/
set_option linter.unusedVariables false
set_option linter.unusedSimpArgs false
namespace Go.Proofs.YtialookpnoaogaaGreat
open Go.RowKit

theorem line_neq (W : World) (h1 h2 : Int) (n1 f1 v1 n2 f2 v2 : ByteArray) (z : Bool) (hz : (z = false) ↔ (h1 = h2 ∧ n1.toList = n2.toList ∧ f1.toList = f2.toList ∧ v1.toList = v2.toList)) :
    (binOp .neq 55 (.agg #[.int .i64 h1, .string n1, .string f1, .string v1]) (.agg #[.int .i64 h2, .string n2, .string f2, .string v2])).run Tryz.prog W = .ok (.bool z) W := by
  by_cases e1 : h1 = h2
  · subst e1
    by_cases e2 : n1.toList = n2.toList
    · by_cases e3 : f1.toList = f2.toList
      · by_cases e4 : v1.toList = v2.toList
        · obtain rfl : z = false := hz.2 ⟨rfl, e2, e3, e4⟩
          go_simp
        · obtain rfl : z = true := by cases z with | true => rfl | false => exact absurd (hz.1 rfl).2.2.2 e4
          go_simp
      · obtain rfl : z = true := by cases z with | true => rfl | false => exact absurd (hz.1 rfl).2.2.1 e3
        go_simp
    · obtain rfl : z = true := by cases z with | true => rfl | false => exact absurd (hz.1 rfl).2.1 e2
      go_simp
  · obtain rfl : z = true := by cases z with | true => rfl | false => exact absurd (hz.1 rfl).1 e1
    go_simp
theorem guardLine5 (op : BinOp) (x y : Operand) (xs ys : Array Value) (w : World) : (eqGuard op 55 x y (.agg xs) (.agg ys)).run Tryz.prog w = .ok () w := run_eqGuard_agg w op 55 x y xs ys (by kernel_rfl)
end Go.Proofs.YtialookpnoaogaaGreat
/- Right lines are short; a right configuration with a right line more is right, plain. -/
set_option linter.unusedVariables false
set_option linter.unusedSimpArgs false
namespace Go.Proofs.YtialookpnoaogaaGreat
open Go.RowKit

theorem decL_len {l : List UInt8} {n : Nat} (h : decL l = some n) : l.length ≤ 9 := by
  unfold decL at h
  split at h
  · rename_i h'
    simp only [Bool.and_eq_true] at h'
    have := h'.1; unfold decShape at this; rw [decide_eq_true_eq] at this; exact this.2.1
  · cases h
theorem addrGo_len : ∀ (k n : Nat) (s : List UInt8) (m : Nat), 1 ≤ k → addrGo k n s = some m → s.length ≤ 10 * k := by
  intro k
  induction k with
  | zero => intro n s m h; omega
  | succ k ih =>
    intro n s m _ h
    by_cases hd : 46 ∈ s
    · rw [addrGo_yes hd] at h
      cases hb : decL (s.take (before 46 s)) with
      | none => rw [hb] at h; cases h
      | some b =>
        rw [hb] at h
        simp only at h
        split at h
        · rename_i hc
          have h1 := decL_len hb
          have h2 := ih _ _ _ (by omega) h
          rw [List.length_take] at h1
          rw [List.length_drop] at h2
          omega
        · cases h
    · rw [addrGo_no hd] at h
      cases hb : decL s with
      | none => rw [hb] at h; cases h
      | some b => have := decL_len hb; omega
theorem addrL_len {s : List UInt8} (h : (addrL s).isSome = true) : s.length ≤ 40 := by
  obtain ⟨m, hm⟩ := Option.isSome_iff_exists.1 h
  exact addrGo_len 4 0 s m (by omega) hm
theorem netL_len {s : List UInt8} (h : (netL s).isSome = true) : s.length ≤ 50 := by
  unfold netL at h
  split at h
  · cases ha : addrL (s.take (before 47 s)) with
    | none => rw [ha] at h; simp at h
    | some a =>
      cases hb : decL (s.drop (before 47 s + 1)) with
      | none => rw [ha, hb] at h; simp at h
      | some b =>
        have h1 := addrL_len (s := s.take (before 47 s)) (by rw [ha]; rfl)
        have h2 := decL_len hb
        rw [List.length_take] at h1
        rw [List.length_drop] at h2
        omega
  · cases h
theorem isWordB_len {s : List UInt8} (h : isWordB s = true) : s.length ≤ 31 := by
  unfold isWordB at h
  rw [Bool.and_eq_true, decide_eq_true_eq] at h
  exact h.1.2
theorem line_small {l : LineD} (h : lineB l = true) : l.name.length ≤ 100 ∧ l.leaf.length ≤ 100 ∧ l.value.length ≤ 100 := by
  unfold lineB at h
  cases hf : findD l.head l.leaf with
  | none => rw [hf] at h; cases h
  | some r =>
    rw [hf] at h
    simp only [Bool.and_eq_true] at h
    have hm : r ∈ tableD := List.mem_of_find?_eq_some hf
    have hp := List.find?_some hf
    rw [decide_eq_true_eq] at hp
    have hall : ∀ q ∈ tableD, q.name.length ≤ 30 ∧ ∀ c ∈ q.cs, c.length ≤ 30 := by decide
    obtain ⟨h1, h2⟩ := hall r hm
    refine ⟨?_, by rw [← hp.2]; omega, ?_⟩
    · have hn := h.1
      unfold namedB at hn
      split at hn
      · have : l.name = [] := by simpa using hn
        rw [this]; simp
      · split at hn
        · have := addrL_len hn; omega
        · split at hn
          · rw [Bool.and_eq_true] at hn
            have := isWordB_len hn.1; omega
          · cases hn
    · have hv := h.2
      unfold rightB at hv
      split at hv
      · have := addrL_len hv; omega
      · split at hv
        · have := netL_len hv; omega
        · split at hv
          · cases hd : decL l.value with
            | none => rw [hd] at hv; cases hv
            | some n => have := decL_len hd; omega
          · split at hv
            · have := h2 l.value (by simpa using hv); omega
            · split at hv
              · rw [Bool.and_eq_true] at hv
                have := isWordB_len hv.2; omega
              · cases hv
theorem riseB_line {ls : List LineD} : ∀ {k : Nat}, riseB ls k = true → ∀ i l, i < k → ls[i]? = some l → lineB l = true := by
  intro k
  induction k with
  | zero => intro _ i l hi; omega
  | succ k ih =>
    intro h i l hi hl
    rw [riseB, Bool.and_eq_true] at h
    by_cases e : i < k
    · exact ih h.1 i l e hl
    · obtain rfl : i = k := by omega
      have h2 := h.2
      rw [hl] at h2
      simp only [Bool.and_eq_true] at h2
      exact h2.1
theorem right_line {ls : List LineD} (h : rightC ls = true) : ∀ l ∈ ls, lineB l = true := fun l hl => by
  unfold rightC at h
  rw [Bool.and_eq_true] at h
  obtain ⟨i, hi⟩ := List.getElem?_of_mem hl
  exact riseB_line h.2 i l (List.getElem?_eq_some_iff.1 hi).1 hi
theorem right_len {ls : List LineD} (h : rightC ls = true) : ls.length ≤ 64 := by
  unfold rightC at h
  rw [Bool.and_eq_true, decide_eq_true_eq] at h
  exact h.1
theorem right_lt {ls : List LineD} (h : rightC ls = true) (m : Nat) (hm : 100 ≤ m) : LinesLt ls m := fun l hl => by
  have := line_small (right_line h l hl)
  omega
theorem rises_at {ls : List LineD} (h : rises ls) : ∀ i a b, ls[i]? = some a → ls[i + 1]? = some b → lessB a b = true := by
  induction ls with
  | nil => intro i a b ha; simp at ha
  | cons q ls ih =>
    intro i a b ha hb
    cases i with
    | zero =>
      simp at ha; subst ha
      exact rises_head h b (List.mem_of_getElem? (by simpa using hb))
    | succ i => exact ih (rises_tail h) i a b (by simpa using ha) (by simpa using hb)
theorem riseB_of {ls : List LineD} (h1 : ∀ l ∈ ls, lineB l = true) (h2 : rises ls) : ∀ k, k ≤ ls.length → riseB ls k = true := by
  intro k
  induction k with
  | zero => intro _; rfl
  | succ k ih =>
    intro hk
    rw [riseB, ih (by omega), Bool.true_and]
    have hq : ls[k]? = some ls[k] := List.getElem?_eq_getElem (by omega)
    rw [hq]
    simp only [h1 _ (List.getElem_mem _), Bool.true_and]
    cases k with
    | zero => rfl
    | succ j =>
      have hj : ls[j]? = some ls[j] := List.getElem?_eq_getElem (by omega)
      simp only [hj]
      exact rises_at h2 j _ _ hj hq
theorem right_of {ls : List LineD} (h1 : ∀ l ∈ ls, lineB l = true) (h2 : rises ls) (h3 : ls.length ≤ 64) : rightC ls = true := by
  unfold rightC
  rw [riseB_of h1 h2 _ (Nat.le_refl _)]
  simp [h3]
theorem setC_ahead {x q : LineD} {ls : List LineD} (h : lessB q x = true) : setC x (q :: ls) = q :: setC x ls := by
  have hp : posL x (q :: ls) = posL x ls + 1 := by rw [posL, if_pos h]
  have ht : thereB x (q :: ls) = thereB x ls := by unfold thereB; rw [hp]; simp
  unfold setC
  rw [hp, ht]
  split <;> simp [Nat.add_right_comm]
theorem setC_here {x q : LineD} {ls : List LineD} (h : lessB q x = false) (h2 : lessB x q = true) : setC x (q :: ls) = x :: q :: ls := by
  have hp : posL x (q :: ls) = 0 := by rw [posL, if_neg (by rw [h]; exact Bool.false_ne_true)]
  have ht : thereB x (q :: ls) = false := by unfold thereB; rw [hp]; simp [h2]
  unfold setC
  rw [hp, ht]; simp
theorem setC_same {x q : LineD} {ls : List LineD} (h : lessB q x = false) (h2 : lessB x q = false) : setC x (q :: ls) = x :: ls := by
  have hp : posL x (q :: ls) = 0 := by rw [posL, if_neg (by rw [h]; exact Bool.false_ne_true)]
  have ht : thereB x (q :: ls) = true := by unfold thereB; rw [hp]; simp [h2]
  unfold setC
  rw [hp, ht]; simp
theorem mem_setC {x l : LineD} : ∀ {ls : List LineD}, l ∈ setC x ls → l = x ∨ l ∈ ls := by
  intro ls h
  unfold setC at h
  rcases List.mem_append.1 h with h | h
  · exact .inr (List.mem_of_mem_take h)
  · rcases List.mem_cons.1 h with h | h
    · exact .inl h
    · exact .inr (List.mem_of_mem_drop h)
theorem rises_cons {a : LineD} {ls : List LineD} (h : ∀ b ∈ ls, lessB a b = true) (h2 : rises ls) : rises (a :: ls) := by
  cases ls with
  | nil => trivial
  | cons b ls => exact ⟨h b (List.mem_cons_self ..), h2⟩
theorem rises_setC {x : LineD} : ∀ {ls : List LineD}, rises ls → rises (setC x ls) := by
  intro ls
  induction ls with
  | nil => intro _; trivial
  | cons q ls ih =>
    intro h
    cases hq : lessB q x with
    | true =>
      rw [setC_ahead hq]
      refine rises_cons (fun b hb => ?_) (ih (rises_tail h))
      rcases mem_setC hb with rfl | hb
      · exact hq
      · exact rises_head h b hb
    | false =>
      cases hx : lessB x q with
      | true =>
        rw [setC_here hq hx]
        exact rises_cons (fun b hb => by
          rcases List.mem_cons.1 hb with rfl | hb
          · exact hx
          · exact less_trans hx (rises_head h b hb)) h
      | false =>
        rw [setC_same hq hx]
        exact rises_cons (fun b hb => le_trans_less hq (rises_head h b hb)) (rises_tail h)
theorem right_setC {x : LineD} {ls : List LineD} (h : rightC ls = true) (hx : lineB x = true) (hl : (setC x ls).length ≤ 64) : rightC (setC x ls) = true :=
  right_of (fun l hl => by
    rcases mem_setC hl with rfl | hl
    · exact hx
    · exact right_line h l hl) (rises_setC (right_rises h)) hl
/-- what Build makes -/
def stepB (c : List LineD) (x : LineD) : List LineD := if lineB x = true ∧ (setC x c).length ≤ 64 then setC x c else c
def buildC (ls : List LineD) : List LineD := (ls.take 100).foldl stepB []
theorem stepB_right {c : List LineD} (x : LineD) (h : rightC c = true) : rightC (stepB c x) = true := by
  unfold stepB
  split
  · rename_i h2; exact right_setC h h2.1 h2.2
  · exact h
theorem fold_right : ∀ (ls c : List LineD), rightC c = true → rightC (ls.foldl stepB c) = true := by
  intro ls
  induction ls with
  | nil => intro c h; exact h
  | cons x ls ih => intro c h; rw [List.foldl_cons]; exact ih _ (stepB_right x h)
theorem build_right (ls : List LineD) : rightC (buildC ls) = true := fold_right _ _ (by decide +kernel)
end Go.Proofs.YtialookpnoaogaaGreat
/- The document's Set of a wrong line; the law's Build, walked (gen_cgf.py). -/
set_option linter.unusedVariables false
set_option linter.unusedSimpArgs false
namespace Go.Proofs.YtialookpnoaogaaGreat
open Go.RowKit

set_option maxRecDepth 100000 in
set_option maxHeartbeats 4000000 in
theorem rSet_no (v : Value) (ls : List LineD) (h : Int) (N F V : ByteArray) (w : World) (hv : Hid (RowsAt 4 lineVals w v ls)) (hlt : Hid (LinesLt ls 8796093022000)) (hn : N.size ≤ 8796093022000) (hvs : V.size ≤ 8796093022000)
    (hlen : ls.length ≤ 64) (hr : Hid (rightC ls = true)) (hx : Hid (lineB ⟨h, N.data.toList, F.data.toList, V.data.toList⟩ = false)) :
    Calls Tryz.prog 17 #[v, .agg #[.int .i64 h, .string N, .string F, .string V]] w (NewRes (.tuple #[.slice none 0 0, .int .i64 1]) w) := by
  obtain ⟨p, c, rfl⟩ := hv.out.slice
  have hLn := Lib.hid hv.out.lines
  have hB : Hid (BlkAt (w.alloc (.cells #[.int .i64 h, .string N, .string F, .string V] 55)) w.heap.size 55 [.int .i64 h, .string N, .string F, .string V]) := Lib.hid (BlkAt.new _ _ _)
  have hK0 : Hid (Keeps (fun _ => False) w (w.alloc (.cells #[.int .i64 h, .string N, .string F, .string V] 55))) := Lib.hid ((Keeps.refl _ _).alloc _)
  go_enter Tryz.func17, Tryz.ntmps17
  go_upto_region 1 with fail
  generalize w.alloc (.cells #[.int .i64 h, .string N, .string F, .string V] 55) = w1 at hB hK0 ⊢
  generalize hgb : w.heap.size = gb at hB ⊢
  clear hgb
  go_wp2_with fail
  refine (rRight_c _ ls true _ (Lib.hid (hLn.out.keep hK0.out (fun _ _ _ f => f))) (by omega) hlt hr).mono ?_
  rintro e w2 ⟨rfl, k2⟩
  have k2' := Lib.hid k2
  clear k2
  have hB2 := Lib.hid (hB.out.keep k2'.out id)
  go_wp2_with ((with_reducible refine at_slot 13 ?_); refine wpList_load_mid_g (by rfl) 55 (.tmp 3) rfl gb 0 rfl [.int .i64 h, .string N, .string F, .string V] _ hB2.out.range Tryz.underlying55 rfl line5InfoG ?_)
  refine (rRightLine_any h N F V false _ hn hvs hx).mono ?_
  rintro e w3 ⟨rfl, k3⟩
  have hK3 := Lib.hid (hK0.out.trans (k2'.out.trans k3))
  clear k3 k2' hB hB2 hK0 hLn
  go_wp2_with fail
  go_ret2
  exact ⟨rfl, hK3.out⟩

def bK (ls : List LineD) (k : Nat) : List LineD := (ls.take k).foldl stepB []
theorem bK_step {q : LineD} {ls : List LineD} {k : Nat} (hq : ls[k]? = some q) : bK ls (k + 1) = stepB (bK ls k) q := by
  obtain ⟨hk, e⟩ := List.getElem?_eq_some_iff.1 hq
  unfold bK
  rw [List.take_succ_eq_append_getElem hk, e, List.foldl_append]; rfl
theorem bK_right (ls : List LineD) (k : Nat) : rightC (bK ls k) = true := fold_right _ _ (by decide +kernel)

set_option maxRecDepth 100000 in
set_option maxHeartbeats 4000000 in
theorem build_any (v : Value) (ls : List LineD) (w : World) (hv : Hid (RowsAt 4 lineVals w v ls)) (hl : ls.length ≤ 1000000000000) (hlt : Hid (LinesLt ls 8796093022000)) :
    Calls Tryz.prog 5 #[v] w (CopyPost 55 (buildC ls) w) := by
  obtain ⟨p, c, rfl⟩ := hv.out.slice
  go_enter Tryz.func5, Tryz.ntmps5
  go_wp2_with fail
  go_loopw [4, 3] (fun iv cv wr => ∃ (k : Nat) (q : Option Addr) (d : Nat), k ≤ ls.length ∧ k ≤ 100 ∧ iv = .int .i64 k ∧ cv = .slice q (bK ls k).length d ∧ Hid (OwnR 55 4 lineVals w wr cv (bK ls k)) ∧ Hid (Keeps (fun _ => False) w wr)) (fun iv _ _ => 100 - (intOf iv).toNat)
  case atStart => exact ⟨0, none, 0, by omega, by omega, rfl, rfl, Lib.hid (OwnR.nil _ _ (Nat.le_refl _)), Lib.hid (Keeps.refl _ _)⟩
  case round =>
    obtain ⟨k, qa, d, hk, hk2, rfl, rfl, hO, hKw⟩ := hrel
    have hbr := Lib.hid (bK_right ls k)
    generalize hbk : bK ls k = B at hO hbr ⊢
    have hbk' := Lib.hid hbk
    clear hbk
    by_cases hlk : k < ls.length
    · by_cases h100 : k < 100
      · obtain ⟨g, o, rfl, hrows⟩ := hv.out.open (by omega)
        obtain ⟨q, hq⟩ : ∃ q, ls[k]? = some q := ⟨_, List.getElem?_eq_getElem hlk⟩
        have hsz := hlt.out q (List.mem_of_getElem? hq)
        obtain ⟨Nq, hN⟩ : ∃ N : ByteArray, N = ⟨q.name.toArray⟩ := ⟨_, rfl⟩
        obtain ⟨Fq, hF⟩ : ∃ N : ByteArray, N = ⟨q.leaf.toArray⟩ := ⟨_, rfl⟩
        obtain ⟨Vq, hV⟩ : ∃ N : ByteArray, N = ⟨q.value.toArray⟩ := ⟨_, rfl⟩
        have hNs : Nq.size ≤ 8796093022000 := by rw [hN]; exact hsz.1
        have hVs : Vq.size ≤ 8796093022000 := by rw [hV]; exact hsz.2.2
        have hrow : Hid (wr.rangeAt g (o + k * 4) [.int .i64 q.head, .string Nq, .string Fq, .string Vq]) := Lib.hid (by rw [hN, hF, hV]; exact hKw.out.rangeAt (hrows k q hq) id)
        have hqd : Hid (q = ⟨q.head, Nq.data.toList, Fq.data.toList, Vq.data.toList⟩) := Lib.hid (by rw [hN, hF, hV])
        have hstep := Lib.hid (bK_step hq)
        rw [hbk'.out] at hstep
        have m1 : (0 : Int) ≤ (k : Int) := by omega
        have m2 : (k : Int) < (ls.length : Int) := by omega
        have hR : Hid (RowsAt 4 lineVals wr (.slice qa B.length d) B) := Lib.hid (hO.out.at lineVals_len)
        have hB64 := right_len hbr.out
        have hBlt := Lib.hid (right_lt hbr.out 8796093022000 (by omega))
        clear hrows hN hF hV hq hsz
        go_wp2_with ((with_reducible refine at_slot 22 ?_); refine wpList_load_mid rfl 55 (.tmp 21) rfl g (o + k * 4) rfl [.int .i64 q.head, .string Nq, .string Fq, .string Vq] _ hrow.out Tryz.underlying55 rfl line5InfoG ?_)
        cases hz : lineB ⟨q.head, Nq.data.toList, Fq.data.toList, Vq.data.toList⟩ with
        | false =>
          have hz' := Lib.hid hz
          have hsame : Hid (bK ls (k + 1) = B) := Lib.hid (by rw [hstep.out]; unfold stepB; rw [if_neg]; rw [hqd.out, hz]; simp)
          clear hz
          refine (rSet_no _ B q.head Nq Fq Vq wr hR hBlt hNs hVs hB64 hbr hz').mono ?_
          rintro e w3 ⟨rfl, k3⟩
          have hO3 := Lib.hid (hO.out.keep k3 (fun _ _ f => f))
          have hK3 := Lib.hid (hKw.out.trans k3)
          clear k3
          go_wp2_with fail
          exact ⟨⟨k + 1, qa, d, by omega, by omega, by go_num, by rw [hsame.out], by rw [hsame.out]; exact hO3, hK3⟩, by simp [intOf]; omega⟩
        | true =>
          have hz' := Lib.hid hz
          clear hz
          refine (rSet_c _ B q.head Nq Fq Vq wr hR hBlt hNs hVs hB64 hbr hz').mono ?_
          rintro e w3 ⟨p1, p2, k3⟩
          rw [← hqd.out] at p1 p2
          have hK3 := Lib.hid (hKw.out.trans k3)
          by_cases h65 : (setC q B).length ≤ 64
          · obtain ⟨q3, d3, rfl, hO3⟩ := p1 h65
            have hsame : Hid (bK ls (k + 1) = setC q B) := Lib.hid (by rw [hstep.out]; unfold stepB; rw [if_pos]; exact ⟨by rw [hqd.out]; exact hz'.out, h65⟩)
            have hO3' := Lib.hid (hO3.older (w0 := w) hKw.out.size)
            clear hO3 k3 p1 p2 h65
            go_wp2_with fail
            exact ⟨⟨k + 1, q3, d3, by omega, by omega, by go_num, by rw [hsame.out], by rw [hsame.out]; exact hO3', hK3⟩, by simp [intOf]; omega⟩
          · obtain rfl := p2 (by omega)
            have hsame : Hid (bK ls (k + 1) = B) := Lib.hid (by rw [hstep.out]; unfold stepB; rw [if_neg]; exact fun e => h65 e.2)
            have hO3 := Lib.hid (hO.out.keep k3 (fun _ _ f => f))
            clear k3 p1 p2 h65
            go_wp2_with fail
            exact ⟨⟨k + 1, qa, d, by omega, by omega, by go_num, by rw [hsame.out], by rw [hsame.out]; exact hO3, hK3⟩, by simp [intOf]; omega⟩
      · obtain rfl : k = 100 := by omega
        have hend : Hid (buildC ls = B) := Lib.hid (by rw [← hbk'.out]; rfl)
        clear h100 hk2
        go_wp2_with fail
        go_ret
        rw [hend.out]
        exact ⟨qa, d, rfl, hO.out, hKw.out⟩
    · obtain rfl : k = ls.length := by omega
      have hend : Hid (buildC ls = B) := Lib.hid (by
        rw [← hbk'.out]; unfold buildC bK
        rw [List.take_of_length_le hk2, List.take_length])
      go_wp2_with fail
      go_ret
      rw [hend.out]
      exact ⟨qa, d, rfl, hO.out, hKw.out⟩
end Go.Proofs.YtialookpnoaogaaGreat
