/- The document's Set, of a right configuration and a right line, walked (gen_cgb.py). -/
import Derived.Test.YtdjmhjgfjbcdkaaU06
import Derived.Test.YtdjmhjgfjbcdkaaU07
set_option linter.unusedVariables false
set_option linter.unusedSimpArgs false
set_option linter.unusedVariables false
set_option linter.unusedSimpArgs false
namespace Go.Proofs.Ytdjmhjgfjbcdkaa
open Go.RowKit

theorem line5All : ∃ i, Try.prog.info? 28 = some i ∧ i.zero = some (.agg #[.int .i64 0, .string ⟨#[]⟩, .string ⟨#[]⟩, .string ⟨#[]⟩]) ∧ i.size = 4 ∧ i.bytes = 56 := by
  have h : (Try.prog.info? 28).map (fun i => (i.zero, i.size, i.bytes)) = some (some (.agg #[.int .i64 0, .string ⟨#[]⟩, .string ⟨#[]⟩, .string ⟨#[]⟩]), 4, 56) := by kernel_rfl
  obtain ⟨i, hi, e⟩ := Option.map_eq_some_iff.1 h
  injection e with e1 e; injection e with e2 e3
  exact ⟨i, hi, e1, e2, e3⟩
theorem line5InfoG : (Try.prog.info? 28).map (·.size) = some 4 := by kernel_rfl
def stK (x : LineD) (ls : List LineD) (k : Nat) : List LineD × Bool := (ls.take k).foldl (stepR x) ([], false)
theorem stK_step {x q : LineD} {ls : List LineD} {k : Nat} (hq : ls[k]? = some q) : stK x ls (k + 1) = stepR x (stK x ls k) q := by
  obtain ⟨hk, e⟩ := List.getElem?_eq_some_iff.1 hq
  unfold stK
  rw [List.take_succ_eq_append_getElem hk, e, List.foldl_append]; rfl
theorem stepR_len (x q : LineD) (s : List LineD × Bool) : (stepR x s q).1.length ≤ s.1.length + 2 := by
  unfold stepR
  simp only
  split <;> split <;> simp
theorem stK_len (x : LineD) (ls : List LineD) : ∀ k, (stK x ls k).1.length ≤ 2 * k := by
  intro k
  induction k with
  | zero => simp [stK]
  | succ k ih =>
    by_cases hk : k < ls.length
    · rw [stK_step (List.getElem?_eq_getElem hk)]
      have := stepR_len x ls[k] (stK x ls k)
      omega
    · have : stK x ls (k + 1) = stK x ls k := by unfold stK; rw [List.take_of_length_le (by omega), List.take_of_length_le (by omega)]
      rw [this]; omega
def RSetPost (zs : List LineD) (w : World) (e : Ending) (w' : World) : Prop :=
  (zs.length ≤ 64 → ∃ p c, e = .returned (.tuple #[.slice p zs.length c, .int .i64 0]) ∧ OwnR 28 4 lineVals w w' (.slice p zs.length c) zs) ∧ (64 < zs.length → e = .returned (.tuple #[.slice none 0 0, .int .i64 5])) ∧ Keeps (fun _ => False) w w'

set_option maxRecDepth 100000 in
set_option maxHeartbeats 8000000 in
theorem rSet_c (v : Value) (ls : List LineD) (h : Int) (N F V : ByteArray) (w : World) (hv : Hid (RowsAt 4 lineVals w v ls)) (hlt : Hid (LinesLt ls 8796093022000)) (hn : N.size ≤ 8796093022000) (hvs : V.size ≤ 8796093022000)
    (hlen : ls.length ≤ 64) (hr : Hid (rightC ls = true)) (hx : Hid (lineB ⟨h, N.data.toList, F.data.toList, V.data.toList⟩ = true)) :
    Calls Try.prog 14 #[v, .agg #[.int .i64 h, .string N, .string F, .string V]] w (RSetPost (setC ⟨h, N.data.toList, F.data.toList, V.data.toList⟩ ls) w) := by
  obtain ⟨p, c, rfl⟩ := hv.out.slice
  obtain ⟨i0, hi0, hi1, hi2, hi3⟩ := line5All
  have hLn := Lib.hid hv.out.lines
  have hB : Hid (BlkAt (w.alloc (.cells #[.int .i64 h, .string N, .string F, .string V] 28)) w.heap.size 28 [.int .i64 h, .string N, .string F, .string V]) := Lib.hid (BlkAt.new _ _ _)
  have hK0 : Hid (Keeps (fun _ => False) w (w.alloc (.cells #[.int .i64 h, .string N, .string F, .string V] 28))) := Lib.hid ((Keeps.refl _ _).alloc _)
  go_enter Try.func14, Try.ntmps14
  go_upto_region 1 with fail
  generalize w.alloc (.cells #[.int .i64 h, .string N, .string F, .string V] 28) = w1 at hB hK0 ⊢
  generalize hgb : w.heap.size = gb at hB ⊢
  clear hgb
  go_wp2_with fail
  refine (rRight_c _ ls true _ (Lib.hid (hLn.out.keep hK0.out (fun _ _ _ f => f))) (by omega) hlt hr).mono ?_
  rintro e w2 ⟨rfl, k2⟩
  have k2' := Lib.hid k2
  clear k2
  have hB2 := Lib.hid (hB.out.keep k2'.out id)
  go_wp2_with ((with_reducible refine at_slot 13 ?_); refine wpList_load_mid_g (by rfl) 28 (.tmp 3) rfl gb 0 rfl [.int .i64 h, .string N, .string F, .string V] _ hB2.out.range Try.underlying28 rfl line5InfoG ?_)
  refine (rRightLine_any h N F V true _ hn hvs hx).mono ?_
  rintro e w3 ⟨rfl, k3⟩
  have hB3 := Lib.hid (hB2.out.keep k3 id)
  have hK3 := Lib.hid (hK0.out.trans (k2'.out.trans k3))
  have hv3 := Lib.hid (hv.out.keep hK3.out)
  clear k3 k2' hB hB2 hK0 hLn hlt hx
  obtain ⟨x, hxe⟩ : ∃ x : LineD, x = ⟨h, N.data.toList, F.data.toList, V.data.toList⟩ := ⟨_, rfl⟩
  have hxe' := Lib.hid hxe
  rw [← hxe]
  clear hxe
  go_wp2_with fail
  go_loopw [8, 6, 7] (fun iv ov pv wr => ∃ (k : Nat) (q : Option Addr) (d : Nat), k ≤ ls.length ∧ iv = .int .i64 k ∧ ov = .slice q (stK x ls k).1.length d ∧ pv = .bool (stK x ls k).2 ∧ Hid (OwnR 28 4 lineVals w3 wr ov (stK x ls k).1) ∧ Hid (Keeps (fun _ => False) w3 wr)) (fun iv _ _ _ => ls.length - (intOf iv).toNat)
  case atStart => exact ⟨0, none, 0, by omega, rfl, rfl, rfl, Lib.hid (OwnR.nil _ _ (Nat.le_refl _)), Lib.hid (Keeps.refl _ _)⟩
  case round =>
    obtain ⟨k, qa, d, hk, rfl, rfl, rfl, hO, hK⟩ := hrel
    have hsl := stK_len x ls k
    generalize hst : stK x ls k = st at hO hsl ⊢
    have hst' := Lib.hid hst
    clear hst
    obtain ⟨oL, pb⟩ := st
    simp only at hO hsl ⊢
    by_cases hlk : k < ls.length
    · obtain ⟨g, o, rfl, hrows⟩ := hv3.out.open (by omega)
      obtain ⟨q, hq⟩ : ∃ q, ls[k]? = some q := ⟨_, List.getElem?_eq_getElem hlk⟩
      obtain ⟨Nq, hN⟩ : ∃ N : ByteArray, N = ⟨q.name.toArray⟩ := ⟨_, rfl⟩
      obtain ⟨Fq, hF⟩ : ∃ N : ByteArray, N = ⟨q.leaf.toArray⟩ := ⟨_, rfl⟩
      obtain ⟨Vq, hV⟩ : ∃ N : ByteArray, N = ⟨q.value.toArray⟩ := ⟨_, rfl⟩
      have hrow : Hid (w3.rangeAt g (o + k * 4) [.int .i64 q.head, .string Nq, .string Fq, .string Vq]) := Lib.hid (by rw [hN, hF, hV]; exact hrows k q hq)
      have hqd : Hid (q = ⟨q.head, Nq.data.toList, Fq.data.toList, Vq.data.toList⟩) := Lib.hid (by rw [hN, hF, hV])
      have hstep := Lib.hid (stK_step (x := x) hq)
      rw [hst'.out] at hstep
      have hsl' := Lib.hid hsl
      have m1 : (0 : Int) ≤ (k : Int) := by omega
      have m2 : (k : Int) < (ls.length : Int) := by omega
      clear hrows hN hF hV hq hst' hsl
      obtain ⟨zl, hzl⟩ : ∃ z, lessB ⟨q.head, Nq.data.toList, Fq.data.toList, Vq.data.toList⟩ ⟨h, N.data.toList, F.data.toList, V.data.toList⟩ = z := ⟨_, rfl⟩
      obtain ⟨zx, hzx⟩ : ∃ z, lessB ⟨h, N.data.toList, F.data.toList, V.data.toList⟩ ⟨q.head, Nq.data.toList, Fq.data.toList, Vq.data.toList⟩ = z := ⟨_, rfl⟩
      have el : Hid (lessB q x = zl) := Lib.hid (by rw [hqd.out, hxe'.out]; exact hzl)
      have ex : Hid (lessB x q = zx) := Lib.hid (by rw [hqd.out, hxe'.out]; exact hzx)
      have hzl' := Lib.hid hzl; have hzx' := Lib.hid hzx
      clear hzl hzx
      generalize hWr : wr = W0 at hO hK ⊢
      clear hWr
      cases pb with
      | true =>
        go_upto_region 8 with fail
        refine wp_region_noPanic ?_
        refine wp_region_held_drew (S := (fun W => Keeps (fun _ => False) W0 W)) (by kernel_rfl) (((Keeps.refl _ _).drew)) (fun hHeld => ?_)
        refine tk 0 rfl ?_
        refine tk 1 rfl ?_
        refine tk 2 rfl ?_
        refine tkS 3 rfl ?_
        refine tkS 4 rfl ?_
        refine tkS 5 rfl ?_
        refine tkS 6 rfl ?_
        refine tkS 7 rfl ?_
        refine tkS 8 rfl ?_
        refine tkS 9 rfl ?_
        refine tk 10 rfl ?_
        refine wpAnyH_done (by kernel_rfl) (NoPanic.normal ?_) _
        have hK1 := Lib.hid (hK.out.trans hHeld)
        have hO1 := Lib.hid (hO.out.keep hHeld (fun _ _ f => f))
        clear hHeld
        go_upto_region 10 with fail
        generalize hW1 : W0.drew = W1 at hO1 hK1 ⊢
        clear hW1
        cases zl with
        | true =>
          refine wp_region_noPanic ?_
          refine wp_region_held_drew (S := (fun W => Keeps (fun _ => False) W1 W)) (by kernel_rfl) (((Keeps.refl _ _).drew)) (fun hHeld => ?_)
          refine tk 0 rfl ?_
          refine tk 1 rfl ?_
          refine tk 2 rfl ?_
          refine tkL 3 rfl (yieldsIf_load_mid (by rfl) 28 (.tmp 40) rfl g (o + k * 4) rfl [.int .i64 q.head, .string Nq, .string Fq, .string Vq] _ (fun _ s => (hK1.out.trans s).rangeAt hrow.out id) Try.underlying28 rfl line5InfoG) ?_
          refine tkL 4 rfl (yieldsIf_load_mid (by rfl) 28 (.tmp 3) rfl gb 0 rfl [.int .i64 h, .string N, .string F, .string V] _ (fun _ s => (hB3.out.keep (hK1.out.trans s) id).range) Try.underlying28 rfl line5InfoG) ?_
          refine stepL 5 rfl (by kernel_rfl) (fun K hK => ?_)
          go_simp
          (refine (rLess_any q.head h Nq Fq Vq N F V _ _ hzl').mono ?_; rintro e wc ⟨rfl, kc⟩; have kc' := Lib.hid kc; clear kc)
          go_wp2_with fail
          refine hK.out _ _ ((hHeld.trans kc'.out)) (fun hHeld => ?_)
          clear hK K
          try simp only [Act.put, sA, sZ, sS]
          refine tk 6 rfl ?_
          refine tkS 7 rfl ?_
          refine tkS 8 rfl ?_
          refine tkS 9 rfl ?_
          refine tkS 10 rfl ?_
          refine tkS 11 rfl ?_
          refine tkS 12 rfl ?_
          refine tk 13 rfl ?_
          refine wpAnyH_done (by kernel_rfl) (NoPanic.normal ?_) _
          have hK2 := Lib.hid (hK1.out.trans hHeld)
          have hO2 := Lib.hid (hO1.out.keep hHeld (fun _ _ f => f))
          clear hHeld
          have hl3 := Lib.hid (show (oL).length ≤ 200 by have := hsl'.out; first | omega | (simp; omega))
          go_wp2_with (first | ((with_reducible refine at_slot 56 ?_); refine wpList_load_mid rfl 28 (.tmp 55) rfl g (o + k * 4) rfl [.int .i64 q.head, .string Nq, .string Fq, .string Vq] _ (hK2.out.rangeAt hrow.out id) Try.underlying28 rfl line5InfoG ?_) | ((with_reducible refine at_slot 58 ?_); go_must (refine wpList_append_r rfl (.tmp 52) (.tmp 57) 22 28 rfl i0 _ 56 Try.underlying22 hi0 hi1 hi2 hi3 rfl (by decide) (by decide) lineVals_len w3 _ (oL.length) (oL) (by simp) rfl (hO2.out.keep ((Keeps.refl (fun _ => False) _).alloc _) (fun _ _ f => f)) _ rfl ⟨q.head, Nq.data.toList, Fq.data.toList, Vq.data.toList⟩ (cells_new rfl _ _) (lineVals_one _) (by have := hsl'.out; omega) ?_); intro q3 d3 w3x hO3 hg3))
          have hK3 := Lib.hid (OwnR.keeps (hO2.out.keep ((Keeps.refl (fun _ => False) _).alloc _) (fun _ _ f => f)) (hK2.out.alloc _) hg3.out)
          clear hg3
          have hfin := Lib.hid (show stK x ls (k + 1) = (oL ++ [(⟨q.head, Nq.data.toList, Fq.data.toList, Vq.data.toList⟩ : LineD)], true) by rw [hstep.out]; unfold stepR; simp [el.out, ex.out, ← hqd.out, ← hxe'.out])
          skip
          refine ⟨⟨k + 1, q3, d3, by omega, by go_num, by simp [hfin.out], by rw [hfin.out], by rw [hfin.out]; exact hO3, hK3⟩, by simp [intOf]; omega⟩
        | false =>
          cases zx with
          | true =>
            refine wp_region_noPanic ?_
            refine wp_region_held_drew (S := (fun W => Keeps (fun _ => False) W1 W)) (by kernel_rfl) (((Keeps.refl _ _).drew)) (fun hHeld => ?_)
            refine tk 0 rfl ?_
            refine tk 1 rfl ?_
            refine tk 2 rfl ?_
            refine tkL 3 rfl (yieldsIf_load_mid (by rfl) 28 (.tmp 40) rfl g (o + k * 4) rfl [.int .i64 q.head, .string Nq, .string Fq, .string Vq] _ (fun _ s => (hK1.out.trans s).rangeAt hrow.out id) Try.underlying28 rfl line5InfoG) ?_
            refine tkL 4 rfl (yieldsIf_load_mid (by rfl) 28 (.tmp 3) rfl gb 0 rfl [.int .i64 h, .string N, .string F, .string V] _ (fun _ s => (hB3.out.keep (hK1.out.trans s) id).range) Try.underlying28 rfl line5InfoG) ?_
            refine stepL 5 rfl (by kernel_rfl) (fun K hK => ?_)
            go_simp
            (refine (rLess_any q.head h Nq Fq Vq N F V _ _ hzl').mono ?_; rintro e wc ⟨rfl, kc⟩; have kc' := Lib.hid kc; clear kc)
            go_wp2_with fail
            refine hK.out _ _ ((hHeld.trans kc'.out)) (fun hHeld => ?_)
            clear hK K
            try simp only [Act.put, sA, sZ, sS]
            refine tk 6 rfl ?_
            refine tkL 7 rfl (yieldsIf_load_mid (by rfl) 28 (.tmp 3) rfl gb 0 rfl [.int .i64 h, .string N, .string F, .string V] _ (fun _ s => (hB3.out.keep (hK1.out.trans s) id).range) Try.underlying28 rfl line5InfoG) ?_
            refine tk 8 rfl ?_
            refine tk 9 rfl ?_
            refine tk 10 rfl ?_
            refine tkL 11 rfl (yieldsIf_load_mid (by rfl) 28 (.tmp 48) rfl g (o + k * 4) rfl [.int .i64 q.head, .string Nq, .string Fq, .string Vq] _ (fun _ s => (hK1.out.trans s).rangeAt hrow.out id) Try.underlying28 rfl line5InfoG) ?_
            refine stepL 12 rfl (by kernel_rfl) (fun K hK => ?_)
            go_simp
            (refine (rLess_any h q.head N F V Nq Fq Vq _ _ hzx').mono ?_; rintro e wc ⟨rfl, kc⟩; have kc' := Lib.hid kc; clear kc)
            go_wp2_with fail
            refine hK.out _ _ ((hHeld.trans kc'.out)) (fun hHeld => ?_)
            clear hK K
            try simp only [Act.put, sA, sZ, sS]
            refine tk 13 rfl ?_
            refine wpAnyH_done (by kernel_rfl) (NoPanic.normal ?_) _
            have hK4 := Lib.hid (hK1.out.trans hHeld)
            have hO4 := Lib.hid (hO1.out.keep hHeld (fun _ _ f => f))
            clear hHeld
            have hl5 := Lib.hid (show (oL).length ≤ 200 by have := hsl'.out; first | omega | (simp; omega))
            go_wp2_with (first | ((with_reducible refine at_slot 56 ?_); refine wpList_load_mid rfl 28 (.tmp 55) rfl g (o + k * 4) rfl [.int .i64 q.head, .string Nq, .string Fq, .string Vq] _ (hK4.out.rangeAt hrow.out id) Try.underlying28 rfl line5InfoG ?_) | ((with_reducible refine at_slot 58 ?_); go_must (refine wpList_append_r rfl (.tmp 52) (.tmp 57) 22 28 rfl i0 _ 56 Try.underlying22 hi0 hi1 hi2 hi3 rfl (by decide) (by decide) lineVals_len w3 _ (oL.length) (oL) (by simp) rfl (hO4.out.keep ((Keeps.refl (fun _ => False) _).alloc _) (fun _ _ f => f)) _ rfl ⟨q.head, Nq.data.toList, Fq.data.toList, Vq.data.toList⟩ (cells_new rfl _ _) (lineVals_one _) (by have := hsl'.out; omega) ?_); intro q5 d5 w5x hO5 hg5))
            have hK5 := Lib.hid (OwnR.keeps (hO4.out.keep ((Keeps.refl (fun _ => False) _).alloc _) (fun _ _ f => f)) (hK4.out.alloc _) hg5.out)
            clear hg5
            have hfin := Lib.hid (show stK x ls (k + 1) = (oL ++ [(⟨q.head, Nq.data.toList, Fq.data.toList, Vq.data.toList⟩ : LineD)], true) by rw [hstep.out]; unfold stepR; simp [el.out, ex.out, ← hqd.out, ← hxe'.out])
            skip
            refine ⟨⟨k + 1, q5, d5, by omega, by go_num, by simp [hfin.out], by rw [hfin.out], by rw [hfin.out]; exact hO5, hK5⟩, by simp [intOf]; omega⟩
          | false =>
            refine wp_region_noPanic ?_
            refine wp_region_held_drew (S := (fun W => Keeps (fun _ => False) W1 W)) (by kernel_rfl) (((Keeps.refl _ _).drew)) (fun hHeld => ?_)
            refine tk 0 rfl ?_
            refine tk 1 rfl ?_
            refine tk 2 rfl ?_
            refine tkL 3 rfl (yieldsIf_load_mid (by rfl) 28 (.tmp 40) rfl g (o + k * 4) rfl [.int .i64 q.head, .string Nq, .string Fq, .string Vq] _ (fun _ s => (hK1.out.trans s).rangeAt hrow.out id) Try.underlying28 rfl line5InfoG) ?_
            refine tkL 4 rfl (yieldsIf_load_mid (by rfl) 28 (.tmp 3) rfl gb 0 rfl [.int .i64 h, .string N, .string F, .string V] _ (fun _ s => (hB3.out.keep (hK1.out.trans s) id).range) Try.underlying28 rfl line5InfoG) ?_
            refine stepL 5 rfl (by kernel_rfl) (fun K hK => ?_)
            go_simp
            (refine (rLess_any q.head h Nq Fq Vq N F V _ _ hzl').mono ?_; rintro e wc ⟨rfl, kc⟩; have kc' := Lib.hid kc; clear kc)
            go_wp2_with fail
            refine hK.out _ _ ((hHeld.trans kc'.out)) (fun hHeld => ?_)
            clear hK K
            try simp only [Act.put, sA, sZ, sS]
            refine tk 6 rfl ?_
            refine tkL 7 rfl (yieldsIf_load_mid (by rfl) 28 (.tmp 3) rfl gb 0 rfl [.int .i64 h, .string N, .string F, .string V] _ (fun _ s => (hB3.out.keep (hK1.out.trans s) id).range) Try.underlying28 rfl line5InfoG) ?_
            refine tk 8 rfl ?_
            refine tk 9 rfl ?_
            refine tk 10 rfl ?_
            refine tkL 11 rfl (yieldsIf_load_mid (by rfl) 28 (.tmp 48) rfl g (o + k * 4) rfl [.int .i64 q.head, .string Nq, .string Fq, .string Vq] _ (fun _ s => (hK1.out.trans s).rangeAt hrow.out id) Try.underlying28 rfl line5InfoG) ?_
            refine stepL 12 rfl (by kernel_rfl) (fun K hK => ?_)
            go_simp
            (refine (rLess_any h q.head N F V Nq Fq Vq _ _ hzx').mono ?_; rintro e wc ⟨rfl, kc⟩; have kc' := Lib.hid kc; clear kc)
            go_wp2_with fail
            refine hK.out _ _ ((hHeld.trans kc'.out)) (fun hHeld => ?_)
            clear hK K
            try simp only [Act.put, sA, sZ, sS]
            refine tk 13 rfl ?_
            refine wpAnyH_done (by kernel_rfl) (NoPanic.normal ?_) _
            have hK6 := Lib.hid (hK1.out.trans hHeld)
            have hO6 := Lib.hid (hO1.out.keep hHeld (fun _ _ f => f))
            clear hHeld
            have hfin := Lib.hid (show stK x ls (k + 1) = (oL, true) by rw [hstep.out]; unfold stepR; simp [el.out, ex.out, ← hqd.out, ← hxe'.out])
            go_wp2_with fail
            refine ⟨⟨k + 1, qa, d, by omega, by go_num, by simp [hfin.out], by rw [hfin.out], by rw [hfin.out]; exact hO6, hK6⟩, by simp [intOf]; omega⟩
      | false =>
        go_upto_region 8 with fail
        cases zl with
        | true =>
          refine wp_region_noPanic ?_
          refine wp_region_held_drew (S := (fun W => Keeps (fun _ => False) W0 W)) (by kernel_rfl) (((Keeps.refl _ _).drew)) (fun hHeld => ?_)
          refine tk 0 rfl ?_
          refine tk 1 rfl ?_
          refine tk 2 rfl ?_
          refine tk 3 rfl ?_
          refine tk 4 rfl ?_
          refine tk 5 rfl ?_
          refine tkL 6 rfl (yieldsIf_load_mid (by rfl) 28 (.tmp 28) rfl g (o + k * 4) rfl [.int .i64 q.head, .string Nq, .string Fq, .string Vq] _ (fun _ s => (hK.out.trans s).rangeAt hrow.out id) Try.underlying28 rfl line5InfoG) ?_
          refine tkL 7 rfl (yieldsIf_load_mid (by rfl) 28 (.tmp 3) rfl gb 0 rfl [.int .i64 h, .string N, .string F, .string V] _ (fun _ s => (hB3.out.keep (hK.out.trans s) id).range) Try.underlying28 rfl line5InfoG) ?_
          refine stepL 8 rfl (by kernel_rfl) (fun K hK => ?_)
          go_simp
          (refine (rLess_any q.head h Nq Fq Vq N F V _ _ hzl').mono ?_; rintro e wc ⟨rfl, kc⟩; have kc' := Lib.hid kc; clear kc)
          go_wp2_with fail
          refine hK.out _ _ ((hHeld.trans kc'.out)) (fun hHeld => ?_)
          clear hK K
          try simp only [Act.put, sA, sZ, sS]
          refine tk 9 rfl ?_
          refine tk 10 rfl ?_
          refine wpAnyH_done (by kernel_rfl) (NoPanic.normal ?_) _
          have hK7 := Lib.hid (hK.out.trans hHeld)
          have hO7 := Lib.hid (hO.out.keep hHeld (fun _ _ f => f))
          clear hHeld
          go_upto_region 10 with fail
          skip
          refine wp_region_noPanic ?_
          refine wp_region_held_drew (S := (fun W => Keeps (fun _ => False) wc W)) (by kernel_rfl) (((Keeps.refl _ _).drew)) (fun hHeld => ?_)
          refine tk 0 rfl ?_
          refine tk 1 rfl ?_
          refine tk 2 rfl ?_
          refine tkL 3 rfl (yieldsIf_load_mid (by rfl) 28 (.tmp 40) rfl g (o + k * 4) rfl [.int .i64 q.head, .string Nq, .string Fq, .string Vq] _ (fun _ s => (hK7.out.trans s).rangeAt hrow.out id) Try.underlying28 rfl line5InfoG) ?_
          refine tkL 4 rfl (yieldsIf_load_mid (by rfl) 28 (.tmp 3) rfl gb 0 rfl [.int .i64 h, .string N, .string F, .string V] _ (fun _ s => (hB3.out.keep (hK7.out.trans s) id).range) Try.underlying28 rfl line5InfoG) ?_
          refine stepL 5 rfl (by kernel_rfl) (fun K hK => ?_)
          go_simp
          (refine (rLess_any q.head h Nq Fq Vq N F V _ _ hzl').mono ?_; rintro e wc ⟨rfl, kc⟩; have kc' := Lib.hid kc; clear kc)
          go_wp2_with fail
          refine hK.out _ _ ((hHeld.trans kc'.out)) (fun hHeld => ?_)
          clear hK K
          try simp only [Act.put, sA, sZ, sS]
          refine tk 6 rfl ?_
          refine tkS 7 rfl ?_
          refine tkS 8 rfl ?_
          refine tkS 9 rfl ?_
          refine tkS 10 rfl ?_
          refine tkS 11 rfl ?_
          refine tkS 12 rfl ?_
          refine tk 13 rfl ?_
          refine wpAnyH_done (by kernel_rfl) (NoPanic.normal ?_) _
          have hK8 := Lib.hid (hK7.out.trans hHeld)
          have hO8 := Lib.hid (hO7.out.keep hHeld (fun _ _ f => f))
          clear hHeld
          have hl9 := Lib.hid (show (oL).length ≤ 200 by have := hsl'.out; first | omega | (simp; omega))
          go_wp2_with (first | ((with_reducible refine at_slot 56 ?_); refine wpList_load_mid rfl 28 (.tmp 55) rfl g (o + k * 4) rfl [.int .i64 q.head, .string Nq, .string Fq, .string Vq] _ (hK8.out.rangeAt hrow.out id) Try.underlying28 rfl line5InfoG ?_) | ((with_reducible refine at_slot 58 ?_); go_must (refine wpList_append_r rfl (.tmp 52) (.tmp 57) 22 28 rfl i0 _ 56 Try.underlying22 hi0 hi1 hi2 hi3 rfl (by decide) (by decide) lineVals_len w3 _ (oL.length) (oL) (by simp) rfl (hO8.out.keep ((Keeps.refl (fun _ => False) _).alloc _) (fun _ _ f => f)) _ rfl ⟨q.head, Nq.data.toList, Fq.data.toList, Vq.data.toList⟩ (cells_new rfl _ _) (lineVals_one _) (by have := hsl'.out; omega) ?_); intro q9 d9 w9x hO9 hg9))
          have hK9 := Lib.hid (OwnR.keeps (hO8.out.keep ((Keeps.refl (fun _ => False) _).alloc _) (fun _ _ f => f)) (hK8.out.alloc _) hg9.out)
          clear hg9
          have hfin := Lib.hid (show stK x ls (k + 1) = (oL ++ [(⟨q.head, Nq.data.toList, Fq.data.toList, Vq.data.toList⟩ : LineD)], false) by rw [hstep.out]; unfold stepR; simp [el.out, ex.out, ← hqd.out, ← hxe'.out])
          skip
          refine ⟨⟨k + 1, q9, d9, by omega, by go_num, by simp [hfin.out], by rw [hfin.out], by rw [hfin.out]; exact hO9, hK9⟩, by simp [intOf]; omega⟩
        | false =>
          refine wp_region_noPanic ?_
          refine wp_region_held_drew (S := (fun W => Keeps (fun _ => False) W0 W)) (by kernel_rfl) (((Keeps.refl _ _).drew)) (fun hHeld => ?_)
          refine tk 0 rfl ?_
          refine tk 1 rfl ?_
          refine tk 2 rfl ?_
          refine tk 3 rfl ?_
          refine tk 4 rfl ?_
          refine tk 5 rfl ?_
          refine tkL 6 rfl (yieldsIf_load_mid (by rfl) 28 (.tmp 28) rfl g (o + k * 4) rfl [.int .i64 q.head, .string Nq, .string Fq, .string Vq] _ (fun _ s => (hK.out.trans s).rangeAt hrow.out id) Try.underlying28 rfl line5InfoG) ?_
          refine tkL 7 rfl (yieldsIf_load_mid (by rfl) 28 (.tmp 3) rfl gb 0 rfl [.int .i64 h, .string N, .string F, .string V] _ (fun _ s => (hB3.out.keep (hK.out.trans s) id).range) Try.underlying28 rfl line5InfoG) ?_
          refine stepL 8 rfl (by kernel_rfl) (fun K hK => ?_)
          go_simp
          (refine (rLess_any q.head h Nq Fq Vq N F V _ _ hzl').mono ?_; rintro e wc ⟨rfl, kc⟩; have kc' := Lib.hid kc; clear kc)
          go_wp2_with fail
          refine hK.out _ _ ((hHeld.trans kc'.out)) (fun hHeld => ?_)
          clear hK K
          try simp only [Act.put, sA, sZ, sS]
          refine tk 9 rfl ?_
          refine tk 10 rfl ?_
          refine wpAnyH_done (by kernel_rfl) (NoPanic.normal ?_) _
          have hK10 := Lib.hid (hK.out.trans hHeld)
          have hO10 := Lib.hid (hO.out.keep hHeld (fun _ _ f => f))
          clear hHeld
          have hl11 := Lib.hid (show (oL).length ≤ 200 by have := hsl'.out; first | omega | (simp; omega))
          go_upto_region 10 with (first | ((with_reducible refine at_slot 35 ?_); refine wpList_load_mid rfl 28 (.tmp 3) rfl gb 0 rfl [.int .i64 h, .string N, .string F, .string V] _ (hB3.out.keep hK10.out id).range Try.underlying28 rfl line5InfoG ?_) | ((with_reducible refine at_slot 37 ?_); go_must (refine wpList_append_r rfl (.tmp 34) (.tmp 36) 22 28 rfl i0 _ 56 Try.underlying22 hi0 hi1 hi2 hi3 rfl (by decide) (by decide) lineVals_len w3 _ (oL.length) (oL) (by simp) rfl (hO10.out.keep ((Keeps.refl (fun _ => False) _).alloc _) (fun _ _ f => f)) _ rfl ⟨h, N.data.toList, F.data.toList, V.data.toList⟩ (cells_new rfl _ _) (lineVals_one _) (by have := hsl'.out; omega) ?_); intro q11 d11 w11x hO11 hg11))
          have hK11 := Lib.hid (OwnR.keeps (hO10.out.keep ((Keeps.refl (fun _ => False) _).alloc _) (fun _ _ f => f)) (hK10.out.alloc _) hg11.out)
          clear hg11
          cases zx with
          | true =>
            refine wp_region_noPanic ?_
            refine wp_region_held_drew (S := (fun W => Keeps (fun _ => False) w11x W)) (by kernel_rfl) (((Keeps.refl _ _).drew)) (fun hHeld => ?_)
            refine tk 0 rfl ?_
            refine tk 1 rfl ?_
            refine tk 2 rfl ?_
            refine tkL 3 rfl (yieldsIf_load_mid (by rfl) 28 (.tmp 40) rfl g (o + k * 4) rfl [.int .i64 q.head, .string Nq, .string Fq, .string Vq] _ (fun _ s => (hK11.out.trans s).rangeAt hrow.out id) Try.underlying28 rfl line5InfoG) ?_
            refine tkL 4 rfl (yieldsIf_load_mid (by rfl) 28 (.tmp 3) rfl gb 0 rfl [.int .i64 h, .string N, .string F, .string V] _ (fun _ s => (hB3.out.keep (hK11.out.trans s) id).range) Try.underlying28 rfl line5InfoG) ?_
            refine stepL 5 rfl (by kernel_rfl) (fun K hK => ?_)
            go_simp
            (refine (rLess_any q.head h Nq Fq Vq N F V _ _ hzl').mono ?_; rintro e wc ⟨rfl, kc⟩; have kc' := Lib.hid kc; clear kc)
            go_wp2_with fail
            refine hK.out _ _ ((hHeld.trans kc'.out)) (fun hHeld => ?_)
            clear hK K
            try simp only [Act.put, sA, sZ, sS]
            refine tk 6 rfl ?_
            refine tkL 7 rfl (yieldsIf_load_mid (by rfl) 28 (.tmp 3) rfl gb 0 rfl [.int .i64 h, .string N, .string F, .string V] _ (fun _ s => (hB3.out.keep (hK11.out.trans s) id).range) Try.underlying28 rfl line5InfoG) ?_
            refine tk 8 rfl ?_
            refine tk 9 rfl ?_
            refine tk 10 rfl ?_
            refine tkL 11 rfl (yieldsIf_load_mid (by rfl) 28 (.tmp 48) rfl g (o + k * 4) rfl [.int .i64 q.head, .string Nq, .string Fq, .string Vq] _ (fun _ s => (hK11.out.trans s).rangeAt hrow.out id) Try.underlying28 rfl line5InfoG) ?_
            refine stepL 12 rfl (by kernel_rfl) (fun K hK => ?_)
            go_simp
            (refine (rLess_any h q.head N F V Nq Fq Vq _ _ hzx').mono ?_; rintro e wc ⟨rfl, kc⟩; have kc' := Lib.hid kc; clear kc)
            go_wp2_with fail
            refine hK.out _ _ ((hHeld.trans kc'.out)) (fun hHeld => ?_)
            clear hK K
            try simp only [Act.put, sA, sZ, sS]
            refine tk 13 rfl ?_
            refine wpAnyH_done (by kernel_rfl) (NoPanic.normal ?_) _
            have hK12 := Lib.hid (hK11.out.trans hHeld)
            have hO12 := Lib.hid (hO11.out.keep hHeld (fun _ _ f => f))
            clear hHeld
            have hl13 := Lib.hid (show (oL ++ [(⟨h, N.data.toList, F.data.toList, V.data.toList⟩ : LineD)]).length ≤ 200 by have := hsl'.out; first | omega | (simp; omega))
            go_wp2_with (first | ((with_reducible refine at_slot 56 ?_); refine wpList_load_mid rfl 28 (.tmp 55) rfl g (o + k * 4) rfl [.int .i64 q.head, .string Nq, .string Fq, .string Vq] _ (hK12.out.rangeAt hrow.out id) Try.underlying28 rfl line5InfoG ?_) | ((with_reducible refine at_slot 58 ?_); go_must (refine wpList_append_r rfl (.tmp 52) (.tmp 57) 22 28 rfl i0 _ 56 Try.underlying22 hi0 hi1 hi2 hi3 rfl (by decide) (by decide) lineVals_len w3 _ (oL.length + 1) (oL ++ [(⟨h, N.data.toList, F.data.toList, V.data.toList⟩ : LineD)]) (by simp) rfl (hO12.out.keep ((Keeps.refl (fun _ => False) _).alloc _) (fun _ _ f => f)) _ rfl ⟨q.head, Nq.data.toList, Fq.data.toList, Vq.data.toList⟩ (cells_new rfl _ _) (lineVals_one _) (by have := hsl'.out; omega) ?_); intro q13 d13 w13x hO13 hg13))
            have hK13 := Lib.hid (OwnR.keeps (hO12.out.keep ((Keeps.refl (fun _ => False) _).alloc _) (fun _ _ f => f)) (hK12.out.alloc _) hg13.out)
            clear hg13
            have hfin := Lib.hid (show stK x ls (k + 1) = (oL ++ [(⟨h, N.data.toList, F.data.toList, V.data.toList⟩ : LineD)] ++ [(⟨q.head, Nq.data.toList, Fq.data.toList, Vq.data.toList⟩ : LineD)], true) by rw [hstep.out]; unfold stepR; simp [el.out, ex.out, ← hqd.out, ← hxe'.out])
            skip
            refine ⟨⟨k + 1, q13, d13, by omega, by go_num, by simp [hfin.out], by rw [hfin.out], by rw [hfin.out]; exact hO13, hK13⟩, by simp [intOf]; omega⟩
          | false =>
            refine wp_region_noPanic ?_
            refine wp_region_held_drew (S := (fun W => Keeps (fun _ => False) w11x W)) (by kernel_rfl) (((Keeps.refl _ _).drew)) (fun hHeld => ?_)
            refine tk 0 rfl ?_
            refine tk 1 rfl ?_
            refine tk 2 rfl ?_
            refine tkL 3 rfl (yieldsIf_load_mid (by rfl) 28 (.tmp 40) rfl g (o + k * 4) rfl [.int .i64 q.head, .string Nq, .string Fq, .string Vq] _ (fun _ s => (hK11.out.trans s).rangeAt hrow.out id) Try.underlying28 rfl line5InfoG) ?_
            refine tkL 4 rfl (yieldsIf_load_mid (by rfl) 28 (.tmp 3) rfl gb 0 rfl [.int .i64 h, .string N, .string F, .string V] _ (fun _ s => (hB3.out.keep (hK11.out.trans s) id).range) Try.underlying28 rfl line5InfoG) ?_
            refine stepL 5 rfl (by kernel_rfl) (fun K hK => ?_)
            go_simp
            (refine (rLess_any q.head h Nq Fq Vq N F V _ _ hzl').mono ?_; rintro e wc ⟨rfl, kc⟩; have kc' := Lib.hid kc; clear kc)
            go_wp2_with fail
            refine hK.out _ _ ((hHeld.trans kc'.out)) (fun hHeld => ?_)
            clear hK K
            try simp only [Act.put, sA, sZ, sS]
            refine tk 6 rfl ?_
            refine tkL 7 rfl (yieldsIf_load_mid (by rfl) 28 (.tmp 3) rfl gb 0 rfl [.int .i64 h, .string N, .string F, .string V] _ (fun _ s => (hB3.out.keep (hK11.out.trans s) id).range) Try.underlying28 rfl line5InfoG) ?_
            refine tk 8 rfl ?_
            refine tk 9 rfl ?_
            refine tk 10 rfl ?_
            refine tkL 11 rfl (yieldsIf_load_mid (by rfl) 28 (.tmp 48) rfl g (o + k * 4) rfl [.int .i64 q.head, .string Nq, .string Fq, .string Vq] _ (fun _ s => (hK11.out.trans s).rangeAt hrow.out id) Try.underlying28 rfl line5InfoG) ?_
            refine stepL 12 rfl (by kernel_rfl) (fun K hK => ?_)
            go_simp
            (refine (rLess_any h q.head N F V Nq Fq Vq _ _ hzx').mono ?_; rintro e wc ⟨rfl, kc⟩; have kc' := Lib.hid kc; clear kc)
            go_wp2_with fail
            refine hK.out _ _ ((hHeld.trans kc'.out)) (fun hHeld => ?_)
            clear hK K
            try simp only [Act.put, sA, sZ, sS]
            refine tk 13 rfl ?_
            refine wpAnyH_done (by kernel_rfl) (NoPanic.normal ?_) _
            have hK14 := Lib.hid (hK11.out.trans hHeld)
            have hO14 := Lib.hid (hO11.out.keep hHeld (fun _ _ f => f))
            clear hHeld
            have hfin := Lib.hid (show stK x ls (k + 1) = (oL ++ [(⟨h, N.data.toList, F.data.toList, V.data.toList⟩ : LineD)], true) by rw [hstep.out]; unfold stepR; simp [el.out, ex.out, ← hqd.out, ← hxe'.out])
            go_wp2_with fail
            refine ⟨⟨k + 1, q11, d11, by omega, by go_num, by simp [hfin.out], by rw [hfin.out], by rw [hfin.out]; exact hO14, hK14⟩, by simp [intOf]; omega⟩
    · obtain rfl : k = ls.length := by omega
      have hend := set_fold (x := x) hr.out
      have hst2 : stK x ls ls.length = ls.foldl (stepR x) ([], false) := by unfold stK; rw [List.take_length]
      rw [← hst2, hst'.out] at hend
      unfold endR at hend
      simp only at hend
      have hend' := Lib.hid hend
      clear hend hst2 hst' hlk hk
      skip
      cases pb with
      | true =>
        simp only [if_true] at hend'
        have hxx : setC ⟨h, N.data.toList, F.data.toList, V.data.toList⟩ ls = oL := by
          have e := hend'.out
          rw [hxe'.out] at e
          exact e.symm
        have hxx' := Lib.hid hxx
        clear hxx hend'
        by_cases h65 : 64 < oL.length
        · go_wp2_with fail
          go_ret2
          show RSetPost (setC ⟨h, N.data.toList, F.data.toList, V.data.toList⟩ ls) w _ _
          rw [hxx'.out]
          exact ⟨fun hh => absurd h65 (by first | omega | (simp at hh; omega)), fun _ => rfl, hK3.out.trans hK.out⟩
        · go_wp2_with fail
          go_ret2
          show RSetPost (setC ⟨h, N.data.toList, F.data.toList, V.data.toList⟩ ls) w _ _
          rw [hxx'.out]
          exact ⟨fun _ => ⟨qa, d, by simp, by have hh := hO.out.older (w0 := w) hK3.out.size; simpa using hh⟩, fun hh => absurd hh (by first | omega | (simp; omega)), hK3.out.trans hK.out⟩
      | false =>
        simp only [Bool.false_eq_true, if_false] at hend'
        have hsl' := Lib.hid hsl
        skip
        go_upto_region 14 with (first | ((with_reducible refine at_slot 62 ?_); refine wpList_load_mid rfl 28 (.tmp 3) rfl gb 0 rfl [.int .i64 h, .string N, .string F, .string V] _ (hB3.out.keep hK.out id).range Try.underlying28 rfl line5InfoG ?_) | ((with_reducible refine at_slot 64 ?_); go_must (refine wpList_append_r rfl (.tmp 61) (.tmp 63) 22 28 rfl i0 _ 56 Try.underlying22 hi0 hi1 hi2 hi3 rfl (by decide) (by decide) lineVals_len w3 _ oL.length oL rfl rfl (hO.out.keep ((Keeps.refl (fun _ => False) _).alloc _) (fun _ _ f => f)) _ rfl ⟨h, N.data.toList, F.data.toList, V.data.toList⟩ (cells_new rfl _ _) (lineVals_one _) (by have := hsl'.out; omega) ?_); intro qz dz wz hOz hgz))
        have hKz := Lib.hid (OwnR.keeps (hO.out.keep ((Keeps.refl (fun _ => False) _).alloc _) (fun _ _ f => f)) (hK.out.alloc _) hgz.out)
        clear hgz
        have hxx : setC ⟨h, N.data.toList, F.data.toList, V.data.toList⟩ ls = oL ++ [(⟨h, N.data.toList, F.data.toList, V.data.toList⟩ : LineD)] := by
          have e := hend'.out
          rw [hxe'.out] at e
          exact e.symm
        have hxx' := Lib.hid hxx
        clear hxx hend'
        by_cases h65 : 64 < oL.length + 1
        · go_wp2_with fail
          go_ret2
          show RSetPost (setC ⟨h, N.data.toList, F.data.toList, V.data.toList⟩ ls) w _ _
          rw [hxx'.out]
          exact ⟨fun hh => absurd h65 (by first | omega | (simp at hh; omega)), fun _ => rfl, hK3.out.trans hKz.out⟩
        · go_wp2_with fail
          go_ret2
          show RSetPost (setC ⟨h, N.data.toList, F.data.toList, V.data.toList⟩ ls) w _ _
          rw [hxx'.out]
          exact ⟨fun _ => ⟨qz, dz, by simp, by have hh := hOz.out.older (w0 := w) hK3.out.size; simpa using hh⟩, fun hh => absurd hh (by first | omega | (simp; omega)), hK3.out.trans hKz.out⟩
end Go.Proofs.Ytdjmhjgfjbcdkaa
/- The law's To and From of lines, walked (gen_cgc.py). -/
set_option linter.unusedVariables false
set_option linter.unusedSimpArgs false
namespace Go.Proofs.Ytdjmhjgfjbcdkaa
open Go.RowKit

def CopyPost (t : TypeId) (ls : List LineD) (w : World) (e : Ending) (w' : World) : Prop :=
  ∃ p c, e = .returned (.slice p ls.length c) ∧ OwnR t 4 lineVals w w' (.slice p ls.length c) ls ∧ Keeps (fun _ => False) w w'

set_option maxRecDepth 100000 in
set_option maxHeartbeats 4000000 in
theorem to_any (v : Value) (ls : List LineD) (w : World) (hv : Hid (RowsAt 4 lineVals w v ls)) (hl : ls.length ≤ 1000000) :
    Calls Try.prog 13 #[v] w (CopyPost 36 ls w) := by
  obtain ⟨p, c, rfl⟩ := hv.out.slice
  obtain ⟨i0, hi0, hi1, hi2, hi3⟩ := lineAll
  go_enter Try.func13, Try.ntmps13
  go_wp2_with fail
  go_loopw [4, 3] (fun iv ov wr => ∃ (k : Nat) (q : Option Addr) (d : Nat), k ≤ ls.length ∧ iv = .int .i64 k ∧ ov = .slice q k d ∧ Hid (OwnR 36 4 lineVals w wr ov (ls.take k)) ∧ Hid (Keeps (fun _ => False) w wr)) (fun iv _ _ => ls.length - (intOf iv).toNat)
  case atStart => exact ⟨0, none, 0, by omega, rfl, rfl, Lib.hid (OwnR.nil _ _ (Nat.le_refl _)), Lib.hid (Keeps.refl _ _)⟩
  case round =>
    obtain ⟨k, qa, d, hk, rfl, rfl, hO, hKw⟩ := hrel
    by_cases hlk : k < ls.length
    · obtain ⟨g, o, rfl, hrows⟩ := hv.out.open (by omega)
      obtain ⟨q, hq⟩ : ∃ q, ls[k]? = some q := ⟨_, List.getElem?_eq_getElem hlk⟩
      obtain ⟨Nq, hN⟩ : ∃ N : ByteArray, N = ⟨q.name.toArray⟩ := ⟨_, rfl⟩
      obtain ⟨Fq, hF⟩ : ∃ N : ByteArray, N = ⟨q.leaf.toArray⟩ := ⟨_, rfl⟩
      obtain ⟨Vq, hV⟩ : ∃ N : ByteArray, N = ⟨q.value.toArray⟩ := ⟨_, rfl⟩
      have hrow : Hid (wr.rangeAt g (o + k * 4) [.int .i64 q.head, .string Nq, .string Fq, .string Vq]) := Lib.hid (by rw [hN, hF, hV]; exact hKw.out.rangeAt (hrows k q hq) id)
      have hgw : Hid (¬ w.heap.size ≤ g) := Lib.hid (by have := World.block_lt_of_cell? w _ (hrows k q hq 0 _ rfl); have h3 : g < w.heap.size := this; omega)
      have hqd : Hid (q = ⟨q.head, Nq.data.toList, Fq.data.toList, Vq.data.toList⟩) := Lib.hid (by rw [hN, hF, hV])
      have hstep : Hid (ls.take (k + 1) = ls.take k ++ [q]) := Lib.hid (by
        obtain ⟨h2, e⟩ := List.getElem?_eq_some_iff.1 hq
        rw [List.take_succ_eq_append_getElem h2, e])
      have htk : Hid ((ls.take k).length = k) := Lib.hid (by rw [List.length_take]; omega)
      have m1 : (0 : Int) ≤ (k : Int) := by omega
      have m2 : (k : Int) < (ls.length : Int) := by omega
      clear hrows hN hF hV hq
      go_upto_region 5 with fail
      refine wp_region_noPanic ?_
      refine wp_region_held_drew (S := (fun W => Keeps (fun i => w.heap.size ≤ i) wr W)) (by kernel_rfl) (((Keeps.refl _ _).drew)) (fun hHeld => ?_)
      refine tk 0 rfl ?_
      refine tk 1 rfl ?_
      refine tk 2 rfl ?_
      refine tk 3 rfl ?_
      refine tk 4 rfl ?_
      refine tkL 5 rfl (yieldsIf_load_cell (by rfl) 3 (.tmp 15) rfl g (o + k * 4 + 0) rfl _ (fun _ s => s.rangeAt hrow.out hgw.out 0 _ rfl) (fun w s => load_int w _ _ _ s)) ?_
      refine tk 6 rfl ?_
      refine tk 7 rfl ?_
      refine tk 8 rfl ?_
      refine tk 9 rfl ?_
      refine tkL 10 rfl (yieldsIf_load_cell (by rfl) 9 (.tmp 20) rfl g (o + k * 4 + 1) rfl _ (fun _ s => s.rangeAt hrow.out hgw.out 1 _ rfl) (fun w s => load_str w _ _ _ s)) ?_
      refine tk 11 rfl ?_
      refine tk 12 rfl ?_
      refine tk 13 rfl ?_
      refine tk 14 rfl ?_
      refine tkL 15 rfl (yieldsIf_load_cell (by rfl) 9 (.tmp 25) rfl g (o + k * 4 + 2) rfl _ (fun _ s => s.rangeAt hrow.out hgw.out 2 _ rfl) (fun w s => load_str w _ _ _ s)) ?_
      refine tk 16 rfl ?_
      refine tk 17 rfl ?_
      refine tk 18 rfl ?_
      refine tk 19 rfl ?_
      refine tkL 20 rfl (yieldsIf_load_cell (by rfl) 9 (.tmp 30) rfl g (o + k * 4 + 3) rfl _ (fun _ s => s.rangeAt hrow.out hgw.out 3 _ rfl) (fun w s => load_str w _ _ _ s)) ?_
      refine tk 21 rfl ?_
      refine stepL 22 rfl (by kernel_rfl) (fun K hK => ?_)
      go_simp
      refine hK.out _ _ ((hHeld.alloc _)) (fun hHeld => ?_)
      clear hK K
      try simp only [Act.put, sA, sZ, sS]
      refine stepL 23 rfl (by kernel_rfl) (fun K hK => ?_)
      rw [if_pos (by rfl)]
      (refine wp_append_r (.tmp 11) (.tmp 33) 25 36 rfl i0 _ 56 Try.underlying25 hi0 hi1 hi2 hi3 rfl (by decide) (by decide) lineVals_len w _ k (ls.take k) htk.out rfl (hO.out.keep (((Keeps.refl (fun _ => False) _).drew).alloc _) (fun _ _ f => f)) _ rfl ⟨q.head, Nq.data.toList, Fq.data.toList, Vq.data.toList⟩ (cells_new rfl _ _) (lineVals_one _) (by omega) ?_; intro q8 d8 w8 hO8 hg8; have hO8' := Lib.hid hO8; have hK8 := Lib.hid (OwnR.keeps (hO.out.keep (((Keeps.refl (fun _ => False) _).drew).alloc _) (fun _ _ f => f)) ((hKw.out.drew).alloc _) hg8); have hg8' := Lib.hid (hg8.k.mono (G := fun i => w.heap.size ≤ i) (fun i e => .inl (hO.out.2.1 i e))); clear hO8 hg8)
      refine hK.out _ _ ((hHeld.trans hg8'.out)) (fun hHeld => ?_)
      clear hK K
      try simp only [Act.put, sA, sZ, sS]
      refine tk 24 rfl ?_
      refine wpAnyH_done (by kernel_rfl) (NoPanic.normal ?_) _
      clear hHeld hg8'
      go_wp2_with fail
      exact ⟨⟨k + 1, q8, d8, by omega, by go_num, rfl, by rw [hstep.out, hqd.out]; exact hO8', hK8⟩, by simp [intOf]; omega⟩
    · obtain rfl : k = ls.length := by omega
      rw [List.take_length] at hO
      go_wp2_with fail
      go_ret
      exact ⟨qa, d, rfl, hO.out, hKw.out⟩

set_option maxRecDepth 100000 in
set_option maxHeartbeats 4000000 in
theorem from_any (v : Value) (ls : List LineD) (w : World) (hv : Hid (RowsAt 4 lineVals w v ls)) (hl : ls.length ≤ 1000000) :
    Calls Try.prog 8 #[v] w (CopyPost 28 ls w) := by
  obtain ⟨p, c, rfl⟩ := hv.out.slice
  obtain ⟨i0, hi0, hi1, hi2, hi3⟩ := line5All
  go_enter Try.func8, Try.ntmps8
  go_wp2_with fail
  go_loopw [4, 3] (fun iv ov wr => ∃ (k : Nat) (q : Option Addr) (d : Nat), k ≤ ls.length ∧ iv = .int .i64 k ∧ ov = .slice q k d ∧ Hid (OwnR 28 4 lineVals w wr ov (ls.take k)) ∧ Hid (Keeps (fun _ => False) w wr)) (fun iv _ _ => ls.length - (intOf iv).toNat)
  case atStart => exact ⟨0, none, 0, by omega, rfl, rfl, Lib.hid (OwnR.nil _ _ (Nat.le_refl _)), Lib.hid (Keeps.refl _ _)⟩
  case round =>
    obtain ⟨k, qa, d, hk, rfl, rfl, hO, hKw⟩ := hrel
    by_cases hlk : k < ls.length
    · obtain ⟨g, o, rfl, hrows⟩ := hv.out.open (by omega)
      obtain ⟨q, hq⟩ : ∃ q, ls[k]? = some q := ⟨_, List.getElem?_eq_getElem hlk⟩
      obtain ⟨Nq, hN⟩ : ∃ N : ByteArray, N = ⟨q.name.toArray⟩ := ⟨_, rfl⟩
      obtain ⟨Fq, hF⟩ : ∃ N : ByteArray, N = ⟨q.leaf.toArray⟩ := ⟨_, rfl⟩
      obtain ⟨Vq, hV⟩ : ∃ N : ByteArray, N = ⟨q.value.toArray⟩ := ⟨_, rfl⟩
      have hrow : Hid (wr.rangeAt g (o + k * 4) [.int .i64 q.head, .string Nq, .string Fq, .string Vq]) := Lib.hid (by rw [hN, hF, hV]; exact hKw.out.rangeAt (hrows k q hq) id)
      have hgw : Hid (¬ w.heap.size ≤ g) := Lib.hid (by have := World.block_lt_of_cell? w _ (hrows k q hq 0 _ rfl); have h3 : g < w.heap.size := this; omega)
      have hqd : Hid (q = ⟨q.head, Nq.data.toList, Fq.data.toList, Vq.data.toList⟩) := Lib.hid (by rw [hN, hF, hV])
      have hstep : Hid (ls.take (k + 1) = ls.take k ++ [q]) := Lib.hid (by
        obtain ⟨h2, e⟩ := List.getElem?_eq_some_iff.1 hq
        rw [List.take_succ_eq_append_getElem h2, e])
      have htk : Hid ((ls.take k).length = k) := Lib.hid (by rw [List.length_take]; omega)
      have m1 : (0 : Int) ≤ (k : Int) := by omega
      have m2 : (k : Int) < (ls.length : Int) := by omega
      clear hrows hN hF hV hq
      go_upto_region 5 with fail
      refine wp_region_noPanic ?_
      refine wp_region_held_drew (S := (fun W => Keeps (fun i => w.heap.size ≤ i) wr W)) (by kernel_rfl) (((Keeps.refl _ _).drew)) (fun hHeld => ?_)
      refine tk 0 rfl ?_
      refine tk 1 rfl ?_
      refine tk 2 rfl ?_
      refine tk 3 rfl ?_
      refine tk 4 rfl ?_
      refine tkL 5 rfl (yieldsIf_load_cell (by rfl) 3 (.tmp 15) rfl g (o + k * 4 + 0) rfl _ (fun _ s => s.rangeAt hrow.out hgw.out 0 _ rfl) (fun w s => load_int w _ _ _ s)) ?_
      refine tk 6 rfl ?_
      refine tk 7 rfl ?_
      refine tk 8 rfl ?_
      refine tk 9 rfl ?_
      refine tkL 10 rfl (yieldsIf_load_cell (by rfl) 9 (.tmp 20) rfl g (o + k * 4 + 1) rfl _ (fun _ s => s.rangeAt hrow.out hgw.out 1 _ rfl) (fun w s => load_str w _ _ _ s)) ?_
      refine tk 11 rfl ?_
      refine tk 12 rfl ?_
      refine tk 13 rfl ?_
      refine tk 14 rfl ?_
      refine tkL 15 rfl (yieldsIf_load_cell (by rfl) 9 (.tmp 25) rfl g (o + k * 4 + 2) rfl _ (fun _ s => s.rangeAt hrow.out hgw.out 2 _ rfl) (fun w s => load_str w _ _ _ s)) ?_
      refine tk 16 rfl ?_
      refine tk 17 rfl ?_
      refine tk 18 rfl ?_
      refine tk 19 rfl ?_
      refine tkL 20 rfl (yieldsIf_load_cell (by rfl) 9 (.tmp 30) rfl g (o + k * 4 + 3) rfl _ (fun _ s => s.rangeAt hrow.out hgw.out 3 _ rfl) (fun w s => load_str w _ _ _ s)) ?_
      refine tk 21 rfl ?_
      refine stepL 22 rfl (by kernel_rfl) (fun K hK => ?_)
      go_simp
      refine hK.out _ _ ((hHeld.alloc _)) (fun hHeld => ?_)
      clear hK K
      try simp only [Act.put, sA, sZ, sS]
      refine stepL 23 rfl (by kernel_rfl) (fun K hK => ?_)
      rw [if_pos (by rfl)]
      (refine wp_append_r (.tmp 11) (.tmp 33) 22 28 rfl i0 _ 56 Try.underlying22 hi0 hi1 hi2 hi3 rfl (by decide) (by decide) lineVals_len w _ k (ls.take k) htk.out rfl (hO.out.keep (((Keeps.refl (fun _ => False) _).drew).alloc _) (fun _ _ f => f)) _ rfl ⟨q.head, Nq.data.toList, Fq.data.toList, Vq.data.toList⟩ (cells_new rfl _ _) (lineVals_one _) (by omega) ?_; intro q8 d8 w8 hO8 hg8; have hO8' := Lib.hid hO8; have hK8 := Lib.hid (OwnR.keeps (hO.out.keep (((Keeps.refl (fun _ => False) _).drew).alloc _) (fun _ _ f => f)) ((hKw.out.drew).alloc _) hg8); have hg8' := Lib.hid (hg8.k.mono (G := fun i => w.heap.size ≤ i) (fun i e => .inl (hO.out.2.1 i e))); clear hO8 hg8)
      refine hK.out _ _ ((hHeld.trans hg8'.out)) (fun hHeld => ?_)
      clear hK K
      try simp only [Act.put, sA, sZ, sS]
      refine tk 24 rfl ?_
      refine wpAnyH_done (by kernel_rfl) (NoPanic.normal ?_) _
      clear hHeld hg8'
      go_wp2_with fail
      exact ⟨⟨k + 1, q8, d8, by omega, by go_num, rfl, by rw [hstep.out, hqd.out]; exact hO8', hK8⟩, by simp [intOf]; omega⟩
    · obtain rfl : k = ls.length := by omega
      rw [List.take_length] at hO
      go_wp2_with fail
      go_ret
      exact ⟨qa, d, rfl, hO.out, hKw.out⟩
end Go.Proofs.Ytdjmhjgfjbcdkaa
/- Lines compared: the document's Same, walked. -/
set_option linter.unusedVariables false
set_option linter.unusedSimpArgs false
namespace Go.Proofs.Ytdjmhjgfjbcdkaa
open Go.RowKit

theorem line_neq (W : World) (h1 h2 : Int) (n1 f1 v1 n2 f2 v2 : ByteArray) (z : Bool) (hz : (z = false) ↔ (h1 = h2 ∧ n1.toList = n2.toList ∧ f1.toList = f2.toList ∧ v1.toList = v2.toList)) :
    (binOp .neq 28 (.agg #[.int .i64 h1, .string n1, .string f1, .string v1]) (.agg #[.int .i64 h2, .string n2, .string f2, .string v2])).run Try.prog W = .ok (.bool z) W := by
  by_cases e1 : h1 = h2
  · subst e1
    by_cases e2 : n1.toList = n2.toList
    · by_cases e3 : f1.toList = f2.toList
      · by_cases e4 : v1.toList = v2.toList
        · obtain rfl : z = false := hz.2 ⟨rfl, e2, e3, e4⟩
          go_simp
        · obtain rfl : z = true := by cases z with | true => rfl | false => exact absurd (hz.1 rfl).2.2.2 e4
          go_simp
      · obtain rfl : z = true := by cases z with | true => rfl | false => exact absurd (hz.1 rfl).2.2.1 e3
        go_simp
    · obtain rfl : z = true := by cases z with | true => rfl | false => exact absurd (hz.1 rfl).2.1 e2
      go_simp
  · obtain rfl : z = true := by cases z with | true => rfl | false => exact absurd (hz.1 rfl).1 e1
    go_simp
theorem guardLine5 (op : BinOp) (x y : Operand) (xs ys : Array Value) (w : World) : (eqGuard op 28 x y (.agg xs) (.agg ys)).run Try.prog w = .ok () w := run_eqGuard_agg w op 28 x y xs ys (by kernel_rfl)
set_option maxRecDepth 100000 in
set_option maxHeartbeats 4000000 in
theorem rSame_c (v u : Value) (xs ys : List LineD) (z : Bool) (w : World) (hv : Hid (RowsAt 4 lineVals w v xs)) (hu : Hid (RowsAt 4 lineVals w u ys)) (hl : xs.length ≤ 1000000) (hl2 : ys.length ≤ 1000000) (hz : Hid ((z = true) ↔ xs = ys)) :
    Calls Try.prog 11 #[v, u] w (NewRes (.bool z) w) := by
  obtain ⟨p, c, rfl⟩ := hv.out.slice
  obtain ⟨p2, c2, rfl⟩ := hu.out.slice
  by_cases hlen : xs.length = ys.length
  · have hlen' := Lib.hid hlen
    have hne : ((xs.length : Int) != ys.length) = false := by simp [hlen]
    clear hlen
    go_enter Try.func11, Try.ntmps11
    go_wp2_with fail
    go_loopw [5] (fun iv wr => ∃ (k : Nat), k ≤ xs.length ∧ iv = .int .i64 k ∧ Hid (xs.take k = ys.take k) ∧ Hid (Keeps (fun _ => False) w wr)) (fun iv _ => xs.length - (intOf iv).toNat)
    case atStart => exact ⟨0, by omega, rfl, Lib.hid rfl, Lib.hid (Keeps.refl _ _)⟩
    case round =>
      obtain ⟨k, hk, rfl, hT, hKw⟩ := hrel
      by_cases hlk : k < xs.length
      · have hlk2 : k < ys.length := by have := hlen'.out; omega
        obtain ⟨g, o, rfl, hrows⟩ := hv.out.open (by omega)
        obtain ⟨g2, o2, rfl, hrows2⟩ := hu.out.open (by omega)
        obtain ⟨x, hx⟩ : ∃ q, xs[k]? = some q := ⟨_, List.getElem?_eq_getElem hlk⟩
        obtain ⟨y, hy⟩ : ∃ q, ys[k]? = some q := ⟨_, List.getElem?_eq_getElem hlk2⟩
        obtain ⟨Nx, hN⟩ : ∃ N : ByteArray, N = ⟨x.name.toArray⟩ := ⟨_, rfl⟩
        obtain ⟨Fx, hF⟩ : ∃ N : ByteArray, N = ⟨x.leaf.toArray⟩ := ⟨_, rfl⟩
        obtain ⟨Vx, hV⟩ : ∃ N : ByteArray, N = ⟨x.value.toArray⟩ := ⟨_, rfl⟩
        obtain ⟨Ny, hN2⟩ : ∃ N : ByteArray, N = ⟨y.name.toArray⟩ := ⟨_, rfl⟩
        obtain ⟨Fy, hF2⟩ : ∃ N : ByteArray, N = ⟨y.leaf.toArray⟩ := ⟨_, rfl⟩
        obtain ⟨Vy, hV2⟩ : ∃ N : ByteArray, N = ⟨y.value.toArray⟩ := ⟨_, rfl⟩
        have hrow : Hid (wr.rangeAt g (o + k * 4) [.int .i64 x.head, .string Nx, .string Fx, .string Vx]) := Lib.hid (by rw [hN, hF, hV]; exact hKw.out.rangeAt (hrows k x hx) id)
        have hrow2 : Hid (wr.rangeAt g2 (o2 + k * 4) [.int .i64 y.head, .string Ny, .string Fy, .string Vy]) := Lib.hid (by rw [hN2, hF2, hV2]; exact hKw.out.rangeAt (hrows2 k y hy) id)
        obtain ⟨zz, hzz⟩ : ∃ b : Bool, (b = false) ↔ x = y := by
          by_cases e : x = y
          · exact ⟨false, by simp [e]⟩
          · exact ⟨true, by simp [e]⟩
        have hzz2 : Hid ((zz = false) ↔ (x.head = y.head ∧ Nx.toList = Ny.toList ∧ Fx.toList = Fy.toList ∧ Vx.toList = Vy.toList)) := Lib.hid (by
          rw [hzz]
          simp only [Lib.toList_data, hN, hF, hV, hN2, hF2, hV2]
          constructor
          · rintro rfl; exact ⟨rfl, rfl, rfl, rfl⟩
          · rintro ⟨a1, a2, a3, a4⟩
            cases x; cases y; simp at a1 a2 a3 a4; simp [a1, a2, a3, a4])
        have hx' := Lib.hid hx; have hy' := Lib.hid hy; have hzz' := Lib.hid hzz
        have m1 : (0 : Int) ≤ (k : Int) := by omega
        have m2 : (k : Int) < (xs.length : Int) := by omega
        have m3 : (k : Int) < (ys.length : Int) := by omega
        clear hrows hrows2 hN hF hV hN2 hF2 hV2 hx hy hzz
        go_upto_region 6 with fail
        refine wp_region_noPanic ?_
        refine wp_region_held_drew (S := (fun W => Keeps (fun _ => False) wr W)) (by kernel_rfl) (((Keeps.refl _ _).drew)) (fun hHeld => ?_)
        refine tk 0 rfl ?_
        refine tk 1 rfl ?_
        refine tk 2 rfl ?_
        refine tkL 3 rfl (yieldsIf_load_mid (by rfl) 28 (.tmp 19) rfl g (o + k * 4) rfl [.int .i64 x.head, .string Nx, .string Fx, .string Vx] _ (fun _ s => s.rangeAt hrow.out id) Try.underlying28 rfl line5InfoG) ?_
        refine tk 4 rfl ?_
        refine tk 5 rfl ?_
        refine tk 6 rfl ?_
        refine tkL 7 rfl (yieldsIf_load_mid (by rfl) 28 (.tmp 23) rfl g2 (o2 + k * 4) rfl [.int .i64 y.head, .string Ny, .string Fy, .string Vy] _ (fun _ s => s.rangeAt hrow2.out id) Try.underlying28 rfl line5InfoG) ?_
        refine tk 8 (v := .bool zz) (hy := fun wS hSw => by
          have hl := line_neq wS x.head y.head Nx Fx Vx Ny Fy Vy zz hzz2.out
          unfold execOp
          simp only [Act.eval, Array.getD_eq_getD_getElem?, List.getElem?_toArray, List.getElem?_cons_zero, List.getElem?_cons_succ, Option.getD_some, Sem.run_bind, Sem.run_pure, Result.andThen_ok, guardLine5, hl]) rfl ?_
        refine wpAnyH_done (by kernel_rfl) (NoPanic.normal ?_) _
        have hKz := Lib.hid (hKw.out.trans hHeld)
        clear hHeld
        cases zz with
        | true =>
          have hzf : Hid (z = false) := Lib.hid (by
            cases z with
            | false => rfl
            | true =>
              have e := hz.out.1 rfl
              have h1 := hx'.out; rw [e, hy'.out] at h1
              injection h1 with h1
              exact absurd (hzz'.out.2 h1.symm) (by decide))
          go_wp2_with fail
          go_ret
          exact ⟨by rw [hzf.out]; rfl, hKz.out⟩
        | false =>
          have exy : x = y := hzz'.out.1 rfl
          have hT2 : Hid (xs.take (k + 1) = ys.take (k + 1)) := Lib.hid (by
            obtain ⟨a1, a2⟩ := List.getElem?_eq_some_iff.1 hx'.out
            obtain ⟨b1, b2⟩ := List.getElem?_eq_some_iff.1 hy'.out
            rw [List.take_succ_eq_append_getElem a1, List.take_succ_eq_append_getElem b1, a2, b2, hT.out, exy])
          clear exy
          go_wp2_with fail
          exact ⟨⟨k + 1, by omega, by go_num, hT2, hKz⟩, by simp [intOf]; omega⟩
      · obtain rfl : k = xs.length := by omega
        have hzt : Hid (z = true) := Lib.hid (hz.out.2 (by
          have e := hT.out
          rw [List.take_length, List.take_of_length_le (by rw [hlen'.out]; exact Nat.le_refl _)] at e
          exact e))
        go_wp2_with fail
        go_ret
        exact ⟨by rw [hzt.out]; rfl, hKw.out⟩
  · have hne : ((xs.length : Int) != ys.length) = true := by simp; omega
    have hzf : Hid (z = false) := Lib.hid (by
      cases z with
      | false => rfl
      | true => exact absurd (congrArg List.length (hz.out.1 rfl)) hlen)
    clear hlen
    go_enter Try.func11, Try.ntmps11
    go_wp2_with fail
    go_ret
    exact ⟨by rw [hzf.out]; rfl, Keeps.refl _ _⟩
end Go.Proofs.Ytdjmhjgfjbcdkaa
