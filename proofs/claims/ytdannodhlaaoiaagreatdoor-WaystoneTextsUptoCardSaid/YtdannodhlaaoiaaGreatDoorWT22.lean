/- The document's Set, of a right configuration and a right line, walked (gen_cgb.py). -/
import Derived.Test.YtdannodhlaaoiaaGreatDoorWT11
import Derived.Test.YtdannodhlaaoiaaGreatDoorWT17
set_option linter.unusedVariables false
set_option linter.unusedSimpArgs false
set_option linter.unusedVariables false
set_option linter.unusedSimpArgs false
namespace Go.Proofs.YtdannodhlaaoiaaGreatDoor
open Go.RowKit

theorem line5All : ∃ i, Tryz.prog.info? 62 = some i ∧ i.zero = some (.agg #[.int .i64 0, .string ⟨#[]⟩, .string ⟨#[]⟩, .string ⟨#[]⟩]) ∧ i.size = 4 ∧ i.bytes = 56 := by
  have h : (Tryz.prog.info? 62).map (fun i => (i.zero, i.size, i.bytes)) = some (some (.agg #[.int .i64 0, .string ⟨#[]⟩, .string ⟨#[]⟩, .string ⟨#[]⟩]), 4, 56) := by kernel_rfl
  obtain ⟨i, hi, e⟩ := Option.map_eq_some_iff.1 h
  injection e with e1 e; injection e with e2 e3
  exact ⟨i, hi, e1, e2, e3⟩
theorem line5InfoG : (Tryz.prog.info? 62).map (·.size) = some 4 := by kernel_rfl
def stK (x : LineD) (ls : List LineD) (k : Nat) : List LineD × Bool := (ls.take k).foldl (stepR x) ([], false)
theorem stK_step {x q : LineD} {ls : List LineD} {k : Nat} (hq : ls[k]? = some q) : stK x ls (k + 1) = stepR x (stK x ls k) q := by
  obtain ⟨hk, e⟩ := List.getElem?_eq_some_iff.1 hq
  unfold stK
  rw [List.take_succ_eq_append_getElem hk, e, List.foldl_append]; rfl
theorem stepR_len (x q : LineD) (s : List LineD × Bool) : (stepR x s q).1.length ≤ s.1.length + 2 := by
  unfold stepR
  simp only
  split <;> split <;> simp
theorem stK_len (x : LineD) (ls : List LineD) : ∀ k, (stK x ls k).1.length ≤ 2 * k := by
  intro k
  induction k with
  | zero => simp [stK]
  | succ k ih =>
    by_cases hk : k < ls.length
    · rw [stK_step (List.getElem?_eq_getElem hk)]
      have := stepR_len x ls[k] (stK x ls k)
      omega
    · have : stK x ls (k + 1) = stK x ls k := by unfold stK; rw [List.take_of_length_le (by omega), List.take_of_length_le (by omega)]
      rw [this]; omega
def RSetPost (zs : List LineD) (w : World) (e : Ending) (w' : World) : Prop :=
  (zs.length ≤ 64 → ∃ p c, e = .returned (.tuple #[.slice p zs.length c, .int .i64 0]) ∧ OwnR 62 4 lineVals w w' (.slice p zs.length c) zs) ∧ (64 < zs.length → e = .returned (.tuple #[.slice none 0 0, .int .i64 5])) ∧ Keeps (fun _ => False) w w'

set_option maxRecDepth 100000 in
set_option maxHeartbeats 8000000 in
theorem rSet_c (v : Value) (ls : List LineD) (h : Int) (N F V : ByteArray) (w : World) (hv : Hid (RowsAt 4 lineVals w v ls)) (hlt : Hid (LinesLt ls 8796093022000)) (hn : N.size ≤ 8796093022000) (hvs : V.size ≤ 8796093022000)
    (hlen : ls.length ≤ 64) (hr : Hid (rightC ls = true)) (hx : Hid (lineB ⟨h, N.data.toList, F.data.toList, V.data.toList⟩ = true)) :
    Calls Tryz.prog 22 #[v, .agg #[.int .i64 h, .string N, .string F, .string V]] w (RSetPost (setC ⟨h, N.data.toList, F.data.toList, V.data.toList⟩ ls) w) := by
  obtain ⟨p, c, rfl⟩ := hv.out.slice
  obtain ⟨i0, hi0, hi1, hi2, hi3⟩ := line5All
  have hLn := Lib.hid hv.out.lines
  have hB : Hid (BlkAt (w.alloc (.cells #[.int .i64 h, .string N, .string F, .string V] 62)) w.heap.size 62 [.int .i64 h, .string N, .string F, .string V]) := Lib.hid (BlkAt.new _ _ _)
  have hK0 : Hid (Keeps (fun _ => False) w (w.alloc (.cells #[.int .i64 h, .string N, .string F, .string V] 62))) := Lib.hid ((Keeps.refl _ _).alloc _)
  go_enter Tryz.func22, Tryz.ntmps22
  go_upto_region 1 with fail
  generalize w.alloc (.cells #[.int .i64 h, .string N, .string F, .string V] 62) = w1 at hB hK0 ⊢
  generalize hgb : w.heap.size = gb at hB ⊢
  clear hgb
  go_wp2_with fail
  refine (rRight_c _ ls true _ (Lib.hid (hLn.out.keep hK0.out (fun _ _ _ f => f))) (by omega) hlt hr).mono ?_
  rintro e w2 ⟨rfl, k2⟩
  have k2' := Lib.hid k2
  clear k2
  have hB2 := Lib.hid (hB.out.keep k2'.out id)
  go_wp2_with ((with_reducible refine at_slot 13 ?_); refine wpList_load_mid_g (by rfl) 62 (.tmp 3) rfl gb 0 rfl [.int .i64 h, .string N, .string F, .string V] _ hB2.out.range Tryz.underlying62 rfl line5InfoG ?_)
  refine (rRightLine_any h N F V true _ hn hvs hx).mono ?_
  rintro e w3 ⟨rfl, k3⟩
  have hB3 := Lib.hid (hB2.out.keep k3 id)
  have hK3 := Lib.hid (hK0.out.trans (k2'.out.trans k3))
  have hv3 := Lib.hid (hv.out.keep hK3.out)
  clear k3 k2' hB hB2 hK0 hLn hlt hx
  obtain ⟨x, hxe⟩ : ∃ x : LineD, x = ⟨h, N.data.toList, F.data.toList, V.data.toList⟩ := ⟨_, rfl⟩
  have hxe' := Lib.hid hxe
  rw [← hxe]
  clear hxe
  go_wp2_with fail
  go_loopw [8, 6, 7] (fun iv ov pv wr => ∃ (k : Nat) (q : Option Addr) (d : Nat), k ≤ ls.length ∧ iv = .int .i64 k ∧ ov = .slice q (stK x ls k).1.length d ∧ pv = .bool (stK x ls k).2 ∧ Hid (OwnR 62 4 lineVals w3 wr ov (stK x ls k).1) ∧ Hid (Keeps (fun _ => False) w3 wr)) (fun iv _ _ _ => ls.length - (intOf iv).toNat)
  case atStart => exact ⟨0, none, 0, by omega, rfl, rfl, rfl, Lib.hid (OwnR.nil _ _ (Nat.le_refl _)), Lib.hid (Keeps.refl _ _)⟩
  case round =>
    obtain ⟨k, qa, d, hk, rfl, rfl, rfl, hO, hK⟩ := hrel
    have hsl := stK_len x ls k
    generalize hst : stK x ls k = st at hO hsl ⊢
    have hst' := Lib.hid hst
    clear hst
    obtain ⟨oL, pb⟩ := st
    simp only at hO hsl ⊢
    by_cases hlk : k < ls.length
    · obtain ⟨g, o, rfl, hrows⟩ := hv3.out.open (by omega)
      obtain ⟨q, hq⟩ : ∃ q, ls[k]? = some q := ⟨_, List.getElem?_eq_getElem hlk⟩
      obtain ⟨Nq, hN⟩ : ∃ N : ByteArray, N = ⟨q.name.toArray⟩ := ⟨_, rfl⟩
      obtain ⟨Fq, hF⟩ : ∃ N : ByteArray, N = ⟨q.leaf.toArray⟩ := ⟨_, rfl⟩
      obtain ⟨Vq, hV⟩ : ∃ N : ByteArray, N = ⟨q.value.toArray⟩ := ⟨_, rfl⟩
      have hrow : Hid (w3.rangeAt g (o + k * 4) [.int .i64 q.head, .string Nq, .string Fq, .string Vq]) := Lib.hid (by rw [hN, hF, hV]; exact hrows k q hq)
      have hqd : Hid (q = ⟨q.head, Nq.data.toList, Fq.data.toList, Vq.data.toList⟩) := Lib.hid (by rw [hN, hF, hV])
      have hstep := Lib.hid (stK_step (x := x) hq)
      rw [hst'.out] at hstep
      have hsl' := Lib.hid hsl
      have m1 : (0 : Int) ≤ (k : Int) := by omega
      have m2 : (k : Int) < (ls.length : Int) := by omega
      clear hrows hN hF hV hq hst' hsl
      obtain ⟨zl, hzl⟩ : ∃ z, lessB ⟨q.head, Nq.data.toList, Fq.data.toList, Vq.data.toList⟩ ⟨h, N.data.toList, F.data.toList, V.data.toList⟩ = z := ⟨_, rfl⟩
      obtain ⟨zx, hzx⟩ : ∃ z, lessB ⟨h, N.data.toList, F.data.toList, V.data.toList⟩ ⟨q.head, Nq.data.toList, Fq.data.toList, Vq.data.toList⟩ = z := ⟨_, rfl⟩
      have el : Hid (lessB q x = zl) := Lib.hid (by rw [hqd.out, hxe'.out]; exact hzl)
      have ex : Hid (lessB x q = zx) := Lib.hid (by rw [hqd.out, hxe'.out]; exact hzx)
      have hzl' := Lib.hid hzl; have hzx' := Lib.hid hzx
      clear hzl hzx
      generalize hWr : wr = W0 at hO hK ⊢
      clear hWr
      cases pb with
      | true =>
        go_upto_region 8 with fail
        refine wp_region_noPanic ?_
        refine wp_region_held_drew (S := (fun W => Keeps (fun _ => False) W0 W)) (by kernel_rfl) (((Keeps.refl _ _).drew)) (fun hHeld => ?_)
        refine tk 0 rfl ?_
        refine tk 1 rfl ?_
        refine tk 2 rfl ?_
        refine tkS 3 rfl ?_
        refine tkS 4 rfl ?_
        refine tkS 5 rfl ?_
        refine tkS 6 rfl ?_
        refine tkS 7 rfl ?_
        refine tkS 8 rfl ?_
        refine tkS 9 rfl ?_
        refine tk 10 rfl ?_
        refine wpAnyH_done (by kernel_rfl) (NoPanic.normal ?_) _
        have hK1 := Lib.hid (hK.out.trans hHeld)
        have hO1 := Lib.hid (hO.out.keep hHeld (fun _ _ f => f))
        clear hHeld
        go_upto_region 10 with fail
        generalize hW1 : W0.drew = W1 at hO1 hK1 ⊢
        clear hW1
        cases zl with
        | true =>
          refine wp_region_noPanic ?_
          refine wp_region_held_drew (S := (fun W => Keeps (fun _ => False) W1 W)) (by kernel_rfl) (((Keeps.refl _ _).drew)) (fun hHeld => ?_)
          refine tk 0 rfl ?_
          refine tk 1 rfl ?_
          refine tk 2 rfl ?_
          refine tkL 3 rfl (yieldsIf_load_mid (by rfl) 62 (.tmp 40) rfl g (o + k * 4) rfl [.int .i64 q.head, .string Nq, .string Fq, .string Vq] _ (fun _ s => (hK1.out.trans s).rangeAt hrow.out id) Tryz.underlying62 rfl line5InfoG) ?_
          refine tkL 4 rfl (yieldsIf_load_mid (by rfl) 62 (.tmp 3) rfl gb 0 rfl [.int .i64 h, .string N, .string F, .string V] _ (fun _ s => (hB3.out.keep (hK1.out.trans s) id).range) Tryz.underlying62 rfl line5InfoG) ?_
          refine stepL 5 rfl (by kernel_rfl) (fun K hK => ?_)
          go_simp
          (refine (rLess_any q.head h Nq Fq Vq N F V _ _ hzl').mono ?_; rintro e wc ⟨rfl, kc⟩; have kc' := Lib.hid kc; clear kc)
          go_wp2_with fail
          refine hK.out _ _ ((hHeld.trans kc'.out)) (fun hHeld => ?_)
          clear hK K
          try simp only [Act.put, sA, sZ, sS]
          refine tk 6 rfl ?_
          refine tkS 7 rfl ?_
          refine tkS 8 rfl ?_
          refine tkS 9 rfl ?_
          refine tkS 10 rfl ?_
          refine tkS 11 rfl ?_
          refine tkS 12 rfl ?_
          refine tk 13 rfl ?_
          refine wpAnyH_done (by kernel_rfl) (NoPanic.normal ?_) _
          have hK2 := Lib.hid (hK1.out.trans hHeld)
          have hO2 := Lib.hid (hO1.out.keep hHeld (fun _ _ f => f))
          clear hHeld
          have hl3 := Lib.hid (show (oL).length ≤ 200 by have := hsl'.out; first | omega | (simp; omega))
          go_wp2_with (first | ((with_reducible refine at_slot 56 ?_); refine wpList_load_mid rfl 62 (.tmp 55) rfl g (o + k * 4) rfl [.int .i64 q.head, .string Nq, .string Fq, .string Vq] _ (hK2.out.rangeAt hrow.out id) Tryz.underlying62 rfl line5InfoG ?_) | ((with_reducible refine at_slot 58 ?_); go_must (refine wpList_append_r rfl (.tmp 52) (.tmp 57) 22 62 rfl i0 _ 56 Tryz.underlying22 hi0 hi1 hi2 hi3 rfl (by decide) (by decide) lineVals_len w3 _ (oL.length) (oL) (by simp) rfl (hO2.out.keep ((Keeps.refl (fun _ => False) _).alloc _) (fun _ _ f => f)) _ rfl ⟨q.head, Nq.data.toList, Fq.data.toList, Vq.data.toList⟩ (cells_new rfl _ _) (lineVals_one _) (by have := hsl'.out; omega) ?_); intro q3 d3 w3x hO3 hg3))
          have hK3 := Lib.hid (OwnR.keeps (hO2.out.keep ((Keeps.refl (fun _ => False) _).alloc _) (fun _ _ f => f)) (hK2.out.alloc _) hg3.out)
          clear hg3
          have hfin := Lib.hid (show stK x ls (k + 1) = (oL ++ [(⟨q.head, Nq.data.toList, Fq.data.toList, Vq.data.toList⟩ : LineD)], true) by rw [hstep.out]; unfold stepR; simp [el.out, ex.out, ← hqd.out, ← hxe'.out])
          skip
          refine ⟨⟨k + 1, q3, d3, by omega, by go_num, by simp [hfin.out], by rw [hfin.out], by rw [hfin.out]; exact hO3, hK3⟩, by simp [intOf]; omega⟩
        | false =>
          cases zx with
          | true =>
            refine wp_region_noPanic ?_
            refine wp_region_held_drew (S := (fun W => Keeps (fun _ => False) W1 W)) (by kernel_rfl) (((Keeps.refl _ _).drew)) (fun hHeld => ?_)
            refine tk 0 rfl ?_
            refine tk 1 rfl ?_
            refine tk 2 rfl ?_
            refine tkL 3 rfl (yieldsIf_load_mid (by rfl) 62 (.tmp 40) rfl g (o + k * 4) rfl [.int .i64 q.head, .string Nq, .string Fq, .string Vq] _ (fun _ s => (hK1.out.trans s).rangeAt hrow.out id) Tryz.underlying62 rfl line5InfoG) ?_
            refine tkL 4 rfl (yieldsIf_load_mid (by rfl) 62 (.tmp 3) rfl gb 0 rfl [.int .i64 h, .string N, .string F, .string V] _ (fun _ s => (hB3.out.keep (hK1.out.trans s) id).range) Tryz.underlying62 rfl line5InfoG) ?_
            refine stepL 5 rfl (by kernel_rfl) (fun K hK => ?_)
            go_simp
            (refine (rLess_any q.head h Nq Fq Vq N F V _ _ hzl').mono ?_; rintro e wc ⟨rfl, kc⟩; have kc' := Lib.hid kc; clear kc)
            go_wp2_with fail
            refine hK.out _ _ ((hHeld.trans kc'.out)) (fun hHeld => ?_)
            clear hK K
            try simp only [Act.put, sA, sZ, sS]
            refine tk 6 rfl ?_
            refine tkL 7 rfl (yieldsIf_load_mid (by rfl) 62 (.tmp 3) rfl gb 0 rfl [.int .i64 h, .string N, .string F, .string V] _ (fun _ s => (hB3.out.keep (hK1.out.trans s) id).range) Tryz.underlying62 rfl line5InfoG) ?_
            refine tk 8 rfl ?_
            refine tk 9 rfl ?_
            refine tk 10 rfl ?_
            refine tkL 11 rfl (yieldsIf_load_mid (by rfl) 62 (.tmp 48) rfl g (o + k * 4) rfl [.int .i64 q.head, .string Nq, .string Fq, .string Vq] _ (fun _ s => (hK1.out.trans s).rangeAt hrow.out id) Tryz.underlying62 rfl line5InfoG) ?_
            refine stepL 12 rfl (by kernel_rfl) (fun K hK => ?_)
            go_simp
            (refine (rLess_any h q.head N F V Nq Fq Vq _ _ hzx').mono ?_; rintro e wc ⟨rfl, kc⟩; have kc' := Lib.hid kc; clear kc)
            go_wp2_with fail
            refine hK.out _ _ ((hHeld.trans kc'.out)) (fun hHeld => ?_)
            clear hK K
            try simp only [Act.put, sA, sZ, sS]
            refine tk 13 rfl ?_
            refine wpAnyH_done (by kernel_rfl) (NoPanic.normal ?_) _
            have hK4 := Lib.hid (hK1.out.trans hHeld)
            have hO4 := Lib.hid (hO1.out.keep hHeld (fun _ _ f => f))
            clear hHeld
            have hl5 := Lib.hid (show (oL).length ≤ 200 by have := hsl'.out; first | omega | (simp; omega))
            go_wp2_with (first | ((with_reducible refine at_slot 56 ?_); refine wpList_load_mid rfl 62 (.tmp 55) rfl g (o + k * 4) rfl [.int .i64 q.head, .string Nq, .string Fq, .string Vq] _ (hK4.out.rangeAt hrow.out id) Tryz.underlying62 rfl line5InfoG ?_) | ((with_reducible refine at_slot 58 ?_); go_must (refine wpList_append_r rfl (.tmp 52) (.tmp 57) 22 62 rfl i0 _ 56 Tryz.underlying22 hi0 hi1 hi2 hi3 rfl (by decide) (by decide) lineVals_len w3 _ (oL.length) (oL) (by simp) rfl (hO4.out.keep ((Keeps.refl (fun _ => False) _).alloc _) (fun _ _ f => f)) _ rfl ⟨q.head, Nq.data.toList, Fq.data.toList, Vq.data.toList⟩ (cells_new rfl _ _) (lineVals_one _) (by have := hsl'.out; omega) ?_); intro q5 d5 w5x hO5 hg5))
            have hK5 := Lib.hid (OwnR.keeps (hO4.out.keep ((Keeps.refl (fun _ => False) _).alloc _) (fun _ _ f => f)) (hK4.out.alloc _) hg5.out)
            clear hg5
            have hfin := Lib.hid (show stK x ls (k + 1) = (oL ++ [(⟨q.head, Nq.data.toList, Fq.data.toList, Vq.data.toList⟩ : LineD)], true) by rw [hstep.out]; unfold stepR; simp [el.out, ex.out, ← hqd.out, ← hxe'.out])
            skip
            refine ⟨⟨k + 1, q5, d5, by omega, by go_num, by simp [hfin.out], by rw [hfin.out], by rw [hfin.out]; exact hO5, hK5⟩, by simp [intOf]; omega⟩
          | false =>
            refine wp_region_noPanic ?_
            refine wp_region_held_drew (S := (fun W => Keeps (fun _ => False) W1 W)) (by kernel_rfl) (((Keeps.refl _ _).drew)) (fun hHeld => ?_)
            refine tk 0 rfl ?_
            refine tk 1 rfl ?_
            refine tk 2 rfl ?_
            refine tkL 3 rfl (yieldsIf_load_mid (by rfl) 62 (.tmp 40) rfl g (o + k * 4) rfl [.int .i64 q.head, .string Nq, .string Fq, .string Vq] _ (fun _ s => (hK1.out.trans s).rangeAt hrow.out id) Tryz.underlying62 rfl line5InfoG) ?_
            refine tkL 4 rfl (yieldsIf_load_mid (by rfl) 62 (.tmp 3) rfl gb 0 rfl [.int .i64 h, .string N, .string F, .string V] _ (fun _ s => (hB3.out.keep (hK1.out.trans s) id).range) Tryz.underlying62 rfl line5InfoG) ?_
            refine stepL 5 rfl (by kernel_rfl) (fun K hK => ?_)
            go_simp
            (refine (rLess_any q.head h Nq Fq Vq N F V _ _ hzl').mono ?_; rintro e wc ⟨rfl, kc⟩; have kc' := Lib.hid kc; clear kc)
            go_wp2_with fail
            refine hK.out _ _ ((hHeld.trans kc'.out)) (fun hHeld => ?_)
            clear hK K
            try simp only [Act.put, sA, sZ, sS]
            refine tk 6 rfl ?_
            refine tkL 7 rfl (yieldsIf_load_mid (by rfl) 62 (.tmp 3) rfl gb 0 rfl [.int .i64 h, .string N, .string F, .string V] _ (fun _ s => (hB3.out.keep (hK1.out.trans s) id).range) Tryz.underlying62 rfl line5InfoG) ?_
            refine tk 8 rfl ?_
            refine tk 9 rfl ?_
            refine tk 10 rfl ?_
            refine tkL 11 rfl (yieldsIf_load_mid (by rfl) 62 (.tmp 48) rfl g (o + k * 4) rfl [.int .i64 q.head, .string Nq, .string Fq, .string Vq] _ (fun _ s => (hK1.out.trans s).rangeAt hrow.out id) Tryz.underlying62 rfl line5InfoG) ?_
            refine stepL 12 rfl (by kernel_rfl) (fun K hK => ?_)
            go_simp
            (refine (rLess_any h q.head N F V Nq Fq Vq _ _ hzx').mono ?_; rintro e wc ⟨rfl, kc⟩; have kc' := Lib.hid kc; clear kc)
            go_wp2_with fail
            refine hK.out _ _ ((hHeld.trans kc'.out)) (fun hHeld => ?_)
            clear hK K
            try simp only [Act.put, sA, sZ, sS]
            refine tk 13 rfl ?_
            refine wpAnyH_done (by kernel_rfl) (NoPanic.normal ?_) _
            have hK6 := Lib.hid (hK1.out.trans hHeld)
            have hO6 := Lib.hid (hO1.out.keep hHeld (fun _ _ f => f))
            clear hHeld
            have hfin := Lib.hid (show stK x ls (k + 1) = (oL, true) by rw [hstep.out]; unfold stepR; simp [el.out, ex.out, ← hqd.out, ← hxe'.out])
            go_wp2_with fail
            refine ⟨⟨k + 1, qa, d, by omega, by go_num, by simp [hfin.out], by rw [hfin.out], by rw [hfin.out]; exact hO6, hK6⟩, by simp [intOf]; omega⟩
      | false =>
        go_upto_region 8 with fail
        cases zl with
        | true =>
          refine wp_region_noPanic ?_
          refine wp_region_held_drew (S := (fun W => Keeps (fun _ => False) W0 W)) (by kernel_rfl) (((Keeps.refl _ _).drew)) (fun hHeld => ?_)
          refine tk 0 rfl ?_
          refine tk 1 rfl ?_
          refine tk 2 rfl ?_
          refine tk 3 rfl ?_
          refine tk 4 rfl ?_
          refine tk 5 rfl ?_
          refine tkL 6 rfl (yieldsIf_load_mid (by rfl) 62 (.tmp 28) rfl g (o + k * 4) rfl [.int .i64 q.head, .string Nq, .string Fq, .string Vq] _ (fun _ s => (hK.out.trans s).rangeAt hrow.out id) Tryz.underlying62 rfl line5InfoG) ?_
          refine tkL 7 rfl (yieldsIf_load_mid (by rfl) 62 (.tmp 3) rfl gb 0 rfl [.int .i64 h, .string N, .string F, .string V] _ (fun _ s => (hB3.out.keep (hK.out.trans s) id).range) Tryz.underlying62 rfl line5InfoG) ?_
          refine stepL 8 rfl (by kernel_rfl) (fun K hK => ?_)
          go_simp
          (refine (rLess_any q.head h Nq Fq Vq N F V _ _ hzl').mono ?_; rintro e wc ⟨rfl, kc⟩; have kc' := Lib.hid kc; clear kc)
          go_wp2_with fail
          refine hK.out _ _ ((hHeld.trans kc'.out)) (fun hHeld => ?_)
          clear hK K
          try simp only [Act.put, sA, sZ, sS]
          refine tk 9 rfl ?_
          refine tk 10 rfl ?_
          refine wpAnyH_done (by kernel_rfl) (NoPanic.normal ?_) _
          have hK7 := Lib.hid (hK.out.trans hHeld)
          have hO7 := Lib.hid (hO.out.keep hHeld (fun _ _ f => f))
          clear hHeld
          go_upto_region 10 with fail
          skip
          refine wp_region_noPanic ?_
          refine wp_region_held_drew (S := (fun W => Keeps (fun _ => False) wc W)) (by kernel_rfl) (((Keeps.refl _ _).drew)) (fun hHeld => ?_)
          refine tk 0 rfl ?_
          refine tk 1 rfl ?_
          refine tk 2 rfl ?_
          refine tkL 3 rfl (yieldsIf_load_mid (by rfl) 62 (.tmp 40) rfl g (o + k * 4) rfl [.int .i64 q.head, .string Nq, .string Fq, .string Vq] _ (fun _ s => (hK7.out.trans s).rangeAt hrow.out id) Tryz.underlying62 rfl line5InfoG) ?_
          refine tkL 4 rfl (yieldsIf_load_mid (by rfl) 62 (.tmp 3) rfl gb 0 rfl [.int .i64 h, .string N, .string F, .string V] _ (fun _ s => (hB3.out.keep (hK7.out.trans s) id).range) Tryz.underlying62 rfl line5InfoG) ?_
          refine stepL 5 rfl (by kernel_rfl) (fun K hK => ?_)
          go_simp
          (refine (rLess_any q.head h Nq Fq Vq N F V _ _ hzl').mono ?_; rintro e wc ⟨rfl, kc⟩; have kc' := Lib.hid kc; clear kc)
          go_wp2_with fail
          refine hK.out _ _ ((hHeld.trans kc'.out)) (fun hHeld => ?_)
          clear hK K
          try simp only [Act.put, sA, sZ, sS]
          refine tk 6 rfl ?_
          refine tkS 7 rfl ?_
          refine tkS 8 rfl ?_
          refine tkS 9 rfl ?_
          refine tkS 10 rfl ?_
          refine tkS 11 rfl ?_
          refine tkS 12 rfl ?_
          refine tk 13 rfl ?_
          refine wpAnyH_done (by kernel_rfl) (NoPanic.normal ?_) _
          have hK8 := Lib.hid (hK7.out.trans hHeld)
          have hO8 := Lib.hid (hO7.out.keep hHeld (fun _ _ f => f))
          clear hHeld
          have hl9 := Lib.hid (show (oL).length ≤ 200 by have := hsl'.out; first | omega | (simp; omega))
          go_wp2_with (first | ((with_reducible refine at_slot 56 ?_); refine wpList_load_mid rfl 62 (.tmp 55) rfl g (o + k * 4) rfl [.int .i64 q.head, .string Nq, .string Fq, .string Vq] _ (hK8.out.rangeAt hrow.out id) Tryz.underlying62 rfl line5InfoG ?_) | ((with_reducible refine at_slot 58 ?_); go_must (refine wpList_append_r rfl (.tmp 52) (.tmp 57) 22 62 rfl i0 _ 56 Tryz.underlying22 hi0 hi1 hi2 hi3 rfl (by decide) (by decide) lineVals_len w3 _ (oL.length) (oL) (by simp) rfl (hO8.out.keep ((Keeps.refl (fun _ => False) _).alloc _) (fun _ _ f => f)) _ rfl ⟨q.head, Nq.data.toList, Fq.data.toList, Vq.data.toList⟩ (cells_new rfl _ _) (lineVals_one _) (by have := hsl'.out; omega) ?_); intro q9 d9 w9x hO9 hg9))
          have hK9 := Lib.hid (OwnR.keeps (hO8.out.keep ((Keeps.refl (fun _ => False) _).alloc _) (fun _ _ f => f)) (hK8.out.alloc _) hg9.out)
          clear hg9
          have hfin := Lib.hid (show stK x ls (k + 1) = (oL ++ [(⟨q.head, Nq.data.toList, Fq.data.toList, Vq.data.toList⟩ : LineD)], false) by rw [hstep.out]; unfold stepR; simp [el.out, ex.out, ← hqd.out, ← hxe'.out])
          skip
          refine ⟨⟨k + 1, q9, d9, by omega, by go_num, by simp [hfin.out], by rw [hfin.out], by rw [hfin.out]; exact hO9, hK9⟩, by simp [intOf]; omega⟩
        | false =>
          refine wp_region_noPanic ?_
          refine wp_region_held_drew (S := (fun W => Keeps (fun _ => False) W0 W)) (by kernel_rfl) (((Keeps.refl _ _).drew)) (fun hHeld => ?_)
          refine tk 0 rfl ?_
          refine tk 1 rfl ?_
          refine tk 2 rfl ?_
          refine tk 3 rfl ?_
          refine tk 4 rfl ?_
          refine tk 5 rfl ?_
          refine tkL 6 rfl (yieldsIf_load_mid (by rfl) 62 (.tmp 28) rfl g (o + k * 4) rfl [.int .i64 q.head, .string Nq, .string Fq, .string Vq] _ (fun _ s => (hK.out.trans s).rangeAt hrow.out id) Tryz.underlying62 rfl line5InfoG) ?_
          refine tkL 7 rfl (yieldsIf_load_mid (by rfl) 62 (.tmp 3) rfl gb 0 rfl [.int .i64 h, .string N, .string F, .string V] _ (fun _ s => (hB3.out.keep (hK.out.trans s) id).range) Tryz.underlying62 rfl line5InfoG) ?_
          refine stepL 8 rfl (by kernel_rfl) (fun K hK => ?_)
          go_simp
          (refine (rLess_any q.head h Nq Fq Vq N F V _ _ hzl').mono ?_; rintro e wc ⟨rfl, kc⟩; have kc' := Lib.hid kc; clear kc)
          go_wp2_with fail
          refine hK.out _ _ ((hHeld.trans kc'.out)) (fun hHeld => ?_)
          clear hK K
          try simp only [Act.put, sA, sZ, sS]
          refine tk 9 rfl ?_
          refine tk 10 rfl ?_
          refine wpAnyH_done (by kernel_rfl) (NoPanic.normal ?_) _
          have hK10 := Lib.hid (hK.out.trans hHeld)
          have hO10 := Lib.hid (hO.out.keep hHeld (fun _ _ f => f))
          clear hHeld
          have hl11 := Lib.hid (show (oL).length ≤ 200 by have := hsl'.out; first | omega | (simp; omega))
          go_upto_region 10 with (first | ((with_reducible refine at_slot 35 ?_); refine wpList_load_mid rfl 62 (.tmp 3) rfl gb 0 rfl [.int .i64 h, .string N, .string F, .string V] _ (hB3.out.keep hK10.out id).range Tryz.underlying62 rfl line5InfoG ?_) | ((with_reducible refine at_slot 37 ?_); go_must (refine wpList_append_r rfl (.tmp 34) (.tmp 36) 22 62 rfl i0 _ 56 Tryz.underlying22 hi0 hi1 hi2 hi3 rfl (by decide) (by decide) lineVals_len w3 _ (oL.length) (oL) (by simp) rfl (hO10.out.keep ((Keeps.refl (fun _ => False) _).alloc _) (fun _ _ f => f)) _ rfl ⟨h, N.data.toList, F.data.toList, V.data.toList⟩ (cells_new rfl _ _) (lineVals_one _) (by have := hsl'.out; omega) ?_); intro q11 d11 w11x hO11 hg11))
          have hK11 := Lib.hid (OwnR.keeps (hO10.out.keep ((Keeps.refl (fun _ => False) _).alloc _) (fun _ _ f => f)) (hK10.out.alloc _) hg11.out)
          clear hg11
          cases zx with
          | true =>
            refine wp_region_noPanic ?_
            refine wp_region_held_drew (S := (fun W => Keeps (fun _ => False) w11x W)) (by kernel_rfl) (((Keeps.refl _ _).drew)) (fun hHeld => ?_)
            refine tk 0 rfl ?_
            refine tk 1 rfl ?_
            refine tk 2 rfl ?_
            refine tkL 3 rfl (yieldsIf_load_mid (by rfl) 62 (.tmp 40) rfl g (o + k * 4) rfl [.int .i64 q.head, .string Nq, .string Fq, .string Vq] _ (fun _ s => (hK11.out.trans s).rangeAt hrow.out id) Tryz.underlying62 rfl line5InfoG) ?_
            refine tkL 4 rfl (yieldsIf_load_mid (by rfl) 62 (.tmp 3) rfl gb 0 rfl [.int .i64 h, .string N, .string F, .string V] _ (fun _ s => (hB3.out.keep (hK11.out.trans s) id).range) Tryz.underlying62 rfl line5InfoG) ?_
            refine stepL 5 rfl (by kernel_rfl) (fun K hK => ?_)
            go_simp
            (refine (rLess_any q.head h Nq Fq Vq N F V _ _ hzl').mono ?_; rintro e wc ⟨rfl, kc⟩; have kc' := Lib.hid kc; clear kc)
            go_wp2_with fail
            refine hK.out _ _ ((hHeld.trans kc'.out)) (fun hHeld => ?_)
            clear hK K
            try simp only [Act.put, sA, sZ, sS]
            refine tk 6 rfl ?_
            refine tkL 7 rfl (yieldsIf_load_mid (by rfl) 62 (.tmp 3) rfl gb 0 rfl [.int .i64 h, .string N, .string F, .string V] _ (fun _ s => (hB3.out.keep (hK11.out.trans s) id).range) Tryz.underlying62 rfl line5InfoG) ?_
            refine tk 8 rfl ?_
            refine tk 9 rfl ?_
            refine tk 10 rfl ?_
            refine tkL 11 rfl (yieldsIf_load_mid (by rfl) 62 (.tmp 48) rfl g (o + k * 4) rfl [.int .i64 q.head, .string Nq, .string Fq, .string Vq] _ (fun _ s => (hK11.out.trans s).rangeAt hrow.out id) Tryz.underlying62 rfl line5InfoG) ?_
            refine stepL 12 rfl (by kernel_rfl) (fun K hK => ?_)
            go_simp
            (refine (rLess_any h q.head N F V Nq Fq Vq _ _ hzx').mono ?_; rintro e wc ⟨rfl, kc⟩; have kc' := Lib.hid kc; clear kc)
            go_wp2_with fail
            refine hK.out _ _ ((hHeld.trans kc'.out)) (fun hHeld => ?_)
            clear hK K
            try simp only [Act.put, sA, sZ, sS]
            refine tk 13 rfl ?_
            refine wpAnyH_done (by kernel_rfl) (NoPanic.normal ?_) _
            have hK12 := Lib.hid (hK11.out.trans hHeld)
            have hO12 := Lib.hid (hO11.out.keep hHeld (fun _ _ f => f))
            clear hHeld
            have hl13 := Lib.hid (show (oL ++ [(⟨h, N.data.toList, F.data.toList, V.data.toList⟩ : LineD)]).length ≤ 200 by have := hsl'.out; first | omega | (simp; omega))
            go_wp2_with (first | ((with_reducible refine at_slot 56 ?_); refine wpList_load_mid rfl 62 (.tmp 55) rfl g (o + k * 4) rfl [.int .i64 q.head, .string Nq, .string Fq, .string Vq] _ (hK12.out.rangeAt hrow.out id) Tryz.underlying62 rfl line5InfoG ?_) | ((with_reducible refine at_slot 58 ?_); go_must (refine wpList_append_r rfl (.tmp 52) (.tmp 57) 22 62 rfl i0 _ 56 Tryz.underlying22 hi0 hi1 hi2 hi3 rfl (by decide) (by decide) lineVals_len w3 _ (oL.length + 1) (oL ++ [(⟨h, N.data.toList, F.data.toList, V.data.toList⟩ : LineD)]) (by simp) rfl (hO12.out.keep ((Keeps.refl (fun _ => False) _).alloc _) (fun _ _ f => f)) _ rfl ⟨q.head, Nq.data.toList, Fq.data.toList, Vq.data.toList⟩ (cells_new rfl _ _) (lineVals_one _) (by have := hsl'.out; omega) ?_); intro q13 d13 w13x hO13 hg13))
            have hK13 := Lib.hid (OwnR.keeps (hO12.out.keep ((Keeps.refl (fun _ => False) _).alloc _) (fun _ _ f => f)) (hK12.out.alloc _) hg13.out)
            clear hg13
            have hfin := Lib.hid (show stK x ls (k + 1) = (oL ++ [(⟨h, N.data.toList, F.data.toList, V.data.toList⟩ : LineD)] ++ [(⟨q.head, Nq.data.toList, Fq.data.toList, Vq.data.toList⟩ : LineD)], true) by rw [hstep.out]; unfold stepR; simp [el.out, ex.out, ← hqd.out, ← hxe'.out])
            skip
            refine ⟨⟨k + 1, q13, d13, by omega, by go_num, by simp [hfin.out], by rw [hfin.out], by rw [hfin.out]; exact hO13, hK13⟩, by simp [intOf]; omega⟩
          | false =>
            refine wp_region_noPanic ?_
            refine wp_region_held_drew (S := (fun W => Keeps (fun _ => False) w11x W)) (by kernel_rfl) (((Keeps.refl _ _).drew)) (fun hHeld => ?_)
            refine tk 0 rfl ?_
            refine tk 1 rfl ?_
            refine tk 2 rfl ?_
            refine tkL 3 rfl (yieldsIf_load_mid (by rfl) 62 (.tmp 40) rfl g (o + k * 4) rfl [.int .i64 q.head, .string Nq, .string Fq, .string Vq] _ (fun _ s => (hK11.out.trans s).rangeAt hrow.out id) Tryz.underlying62 rfl line5InfoG) ?_
            refine tkL 4 rfl (yieldsIf_load_mid (by rfl) 62 (.tmp 3) rfl gb 0 rfl [.int .i64 h, .string N, .string F, .string V] _ (fun _ s => (hB3.out.keep (hK11.out.trans s) id).range) Tryz.underlying62 rfl line5InfoG) ?_
            refine stepL 5 rfl (by kernel_rfl) (fun K hK => ?_)
            go_simp
            (refine (rLess_any q.head h Nq Fq Vq N F V _ _ hzl').mono ?_; rintro e wc ⟨rfl, kc⟩; have kc' := Lib.hid kc; clear kc)
            go_wp2_with fail
            refine hK.out _ _ ((hHeld.trans kc'.out)) (fun hHeld => ?_)
            clear hK K
            try simp only [Act.put, sA, sZ, sS]
            refine tk 6 rfl ?_
            refine tkL 7 rfl (yieldsIf_load_mid (by rfl) 62 (.tmp 3) rfl gb 0 rfl [.int .i64 h, .string N, .string F, .string V] _ (fun _ s => (hB3.out.keep (hK11.out.trans s) id).range) Tryz.underlying62 rfl line5InfoG) ?_
            refine tk 8 rfl ?_
            refine tk 9 rfl ?_
            refine tk 10 rfl ?_
            refine tkL 11 rfl (yieldsIf_load_mid (by rfl) 62 (.tmp 48) rfl g (o + k * 4) rfl [.int .i64 q.head, .string Nq, .string Fq, .string Vq] _ (fun _ s => (hK11.out.trans s).rangeAt hrow.out id) Tryz.underlying62 rfl line5InfoG) ?_
            refine stepL 12 rfl (by kernel_rfl) (fun K hK => ?_)
            go_simp
            (refine (rLess_any h q.head N F V Nq Fq Vq _ _ hzx').mono ?_; rintro e wc ⟨rfl, kc⟩; have kc' := Lib.hid kc; clear kc)
            go_wp2_with fail
            refine hK.out _ _ ((hHeld.trans kc'.out)) (fun hHeld => ?_)
            clear hK K
            try simp only [Act.put, sA, sZ, sS]
            refine tk 13 rfl ?_
            refine wpAnyH_done (by kernel_rfl) (NoPanic.normal ?_) _
            have hK14 := Lib.hid (hK11.out.trans hHeld)
            have hO14 := Lib.hid (hO11.out.keep hHeld (fun _ _ f => f))
            clear hHeld
            have hfin := Lib.hid (show stK x ls (k + 1) = (oL ++ [(⟨h, N.data.toList, F.data.toList, V.data.toList⟩ : LineD)], true) by rw [hstep.out]; unfold stepR; simp [el.out, ex.out, ← hqd.out, ← hxe'.out])
            go_wp2_with fail
            refine ⟨⟨k + 1, q11, d11, by omega, by go_num, by simp [hfin.out], by rw [hfin.out], by rw [hfin.out]; exact hO14, hK14⟩, by simp [intOf]; omega⟩
    · obtain rfl : k = ls.length := by omega
      have hend := set_fold (x := x) hr.out
      have hst2 : stK x ls ls.length = ls.foldl (stepR x) ([], false) := by unfold stK; rw [List.take_length]
      rw [← hst2, hst'.out] at hend
      unfold endR at hend
      simp only at hend
      have hend' := Lib.hid hend
      clear hend hst2 hst' hlk hk
      skip
      cases pb with
      | true =>
        simp only [if_true] at hend'
        have hxx : setC ⟨h, N.data.toList, F.data.toList, V.data.toList⟩ ls = oL := by
          have e := hend'.out
          rw [hxe'.out] at e
          exact e.symm
        have hxx' := Lib.hid hxx
        clear hxx hend'
        by_cases h65 : 64 < oL.length
        · go_wp2_with fail
          go_ret2
          show RSetPost (setC ⟨h, N.data.toList, F.data.toList, V.data.toList⟩ ls) w _ _
          rw [hxx'.out]
          exact ⟨fun hh => absurd h65 (by first | omega | (simp at hh; omega)), fun _ => rfl, hK3.out.trans hK.out⟩
        · go_wp2_with fail
          go_ret2
          show RSetPost (setC ⟨h, N.data.toList, F.data.toList, V.data.toList⟩ ls) w _ _
          rw [hxx'.out]
          exact ⟨fun _ => ⟨qa, d, by simp, by have hh := hO.out.older (w0 := w) hK3.out.size; simpa using hh⟩, fun hh => absurd hh (by first | omega | (simp; omega)), hK3.out.trans hK.out⟩
      | false =>
        simp only [Bool.false_eq_true, if_false] at hend'
        have hsl' := Lib.hid hsl
        skip
        go_upto_region 14 with (first | ((with_reducible refine at_slot 62 ?_); refine wpList_load_mid rfl 62 (.tmp 3) rfl gb 0 rfl [.int .i64 h, .string N, .string F, .string V] _ (hB3.out.keep hK.out id).range Tryz.underlying62 rfl line5InfoG ?_) | ((with_reducible refine at_slot 64 ?_); go_must (refine wpList_append_r rfl (.tmp 61) (.tmp 63) 22 62 rfl i0 _ 56 Tryz.underlying22 hi0 hi1 hi2 hi3 rfl (by decide) (by decide) lineVals_len w3 _ oL.length oL rfl rfl (hO.out.keep ((Keeps.refl (fun _ => False) _).alloc _) (fun _ _ f => f)) _ rfl ⟨h, N.data.toList, F.data.toList, V.data.toList⟩ (cells_new rfl _ _) (lineVals_one _) (by have := hsl'.out; omega) ?_); intro qz dz wz hOz hgz))
        have hKz := Lib.hid (OwnR.keeps (hO.out.keep ((Keeps.refl (fun _ => False) _).alloc _) (fun _ _ f => f)) (hK.out.alloc _) hgz.out)
        clear hgz
        have hxx : setC ⟨h, N.data.toList, F.data.toList, V.data.toList⟩ ls = oL ++ [(⟨h, N.data.toList, F.data.toList, V.data.toList⟩ : LineD)] := by
          have e := hend'.out
          rw [hxe'.out] at e
          exact e.symm
        have hxx' := Lib.hid hxx
        clear hxx hend'
        by_cases h65 : 64 < oL.length + 1
        · go_wp2_with fail
          go_ret2
          show RSetPost (setC ⟨h, N.data.toList, F.data.toList, V.data.toList⟩ ls) w _ _
          rw [hxx'.out]
          exact ⟨fun hh => absurd h65 (by first | omega | (simp at hh; omega)), fun _ => rfl, hK3.out.trans hKz.out⟩
        · go_wp2_with fail
          go_ret2
          show RSetPost (setC ⟨h, N.data.toList, F.data.toList, V.data.toList⟩ ls) w _ _
          rw [hxx'.out]
          exact ⟨fun _ => ⟨qz, dz, by simp, by have hh := hOz.out.older (w0 := w) hK3.out.size; simpa using hh⟩, fun hh => absurd hh (by first | omega | (simp; omega)), hK3.out.trans hKz.out⟩
end Go.Proofs.YtdannodhlaaoiaaGreatDoor
