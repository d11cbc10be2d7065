/- ConfSteps' walk (gen_cgk.py). -/
import Derived.Test.YtdjmhjgfjbcdkaaV09
import Derived.Test.YtdjmhjgfjbcdkaaV15
import Derived.Test.YtdjmhjgfjbcdkaaRows
import Derived.ProofKit
import Derived.OpenShut
import Derived.JoinedCond
import Derived.Deep.Grids
import Derived.Deep.Slices
import Derived.ShutString
import Derived.ChangeOld
set_option linter.unusedVariables false
set_option linter.unusedSimpArgs false
set_option linter.unusedVariables false
set_option linter.unusedSimpArgs false
namespace Go.Proofs.Ytdjmhjgfjbcdkaa
open Go.RowKit

theorem rows_one {t : TypeId} (W : World) (l : LineD) (cs : List Value) (hc : cs = lineVals l) : RowsAt 4 lineVals (W.alloc (.cells cs.toArray t)) (.slice (some ⟨W.heap.size, 0, none⟩) 1 1) [l] := by
  subst hc
  refine ⟨_, 1, rfl, fun h => (by cases h), Nat.le_refl _, fun _ => ⟨W.heap.size, 0, rfl, fun i x hx => ?_⟩⟩
  cases i with
  | zero => simp at hx; subst hx; rw [Nat.zero_mul, Nat.add_zero]; exact new_rangeb W _ t
  | succ i => simp at hx
theorem LinesLt.mono {ls : List LineD} {m n : Nat} (h : LinesLt ls m) (hmn : m ≤ n) : LinesLt ls n := fun l hl => by have := h l hl; omega
def lawEndS (w : World) (e : Ending) (w' : World) : Prop := e = .returned (.bool true) ∧ Keeps (fun _ => False) w w'

set_option maxRecDepth 100000 in
set_option maxHeartbeats 16000000 in
theorem confSteps_law (v : Value) (ls : List LineD) (h : Int) (N F V : ByteArray) (w : World) (hv : Hid (RowsAt 4 lineVals w v ls)) (hl : ls.length ≤ 1000000000000) (hlt : Hid (LinesLt ls 8796093022000)) (hn : N.size ≤ 8796093022000) (hvs : V.size ≤ 8796093022000) :
    Calls Try.prog 6 #[v, .agg #[.int .i64 h, .string N, .string F, .string V]] w (lawEndS w) := by
  obtain ⟨p, c, rfl⟩ := hv.out.slice
  have hB : Hid (BlkAt (w.alloc (.cells #[.int .i64 h, .string N, .string F, .string V] 28)) w.heap.size 28 [.int .i64 h, .string N, .string F, .string V]) := Lib.hid (BlkAt.new _ _ _)
  have hK0 : Hid (Keeps (fun _ => False) w (w.alloc (.cells #[.int .i64 h, .string N, .string F, .string V] 28))) := Lib.hid ((Keeps.refl _ _).alloc _)
  go_enter Try.func6, Try.ntmps6
  go_upto_region 1 with fail
  generalize w.alloc (.cells #[.int .i64 h, .string N, .string F, .string V] 28) = w1 at hB hK0 ⊢
  generalize hgb : w.heap.size = gb at hB ⊢
  clear hgb
  go_wp2_with fail
  refine (build_any _ ls w1 (Lib.hid (hv.out.keep hK0.out)) hl hlt).mono ?_
  rintro e w2 ⟨q2, d2, rfl, hO2, k2⟩
  have hR2 := Lib.hid (hO2.at lineVals_len)
  have hr := Lib.hid (build_right ls)
  generalize buildC ls = B at hR2 hr ⊢
  have hlen := right_len hr.out
  have hBlt := Lib.hid (right_lt hr.out 8796093022000 (by omega))
  have hBlt2 := Lib.hid (hBlt.out.mono (n := 9223372036854775807) (by omega))
  have hK2 := Lib.hid (hK0.out.trans k2)
  have hB2 := Lib.hid (hB.out.keep k2 id)
  clear hO2 k2 hv hlt hl hK0 hB
  go_wp2_with fail
  refine (to_any _ B w2 hR2 (by omega)).mono ?_
  rintro e w3 ⟨q3, d3, rfl, hO3, k3⟩
  have hR3 := Lib.hid (hO3.at lineVals_len)
  have hK3 := Lib.hid (hK2.out.trans k3)
  have hB3 := Lib.hid (hB2.out.keep k3 id)
  clear hO3 k3 hR2 hK2 hB2
  go_wp2_with ((with_reducible refine at_slot 20 ?_); refine wpList_load_mid rfl 28 (.tmp 3) rfl gb 0 rfl [.int .i64 h, .string N, .string F, .string V] _ hB3.out.range Try.underlying28 rfl line5InfoG ?_)
  have hone4 : Hid (RowsAt 4 lineVals (w3.alloc (.cells #[.int .i64 h, .string N, .string F, .string V] 28)) (.slice (some ⟨w3.heap.size, 0, none⟩) 1 1) [(⟨h, N.data.toList, F.data.toList, V.data.toList⟩ : LineD)]) := Lib.hid (rows_one w3 ⟨h, N.data.toList, F.data.toList, V.data.toList⟩ [.int .i64 h, .string N, .string F, .string V] rfl)
  refine (to_any _ [(⟨h, N.data.toList, F.data.toList, V.data.toList⟩ : LineD)] _ hone4 (by simp)).mono ?_
  rintro e w4a ⟨q4a, d4a, rfl, hO4a, k4a⟩
  have k4 := Lib.hid ((((Keeps.refl (fun _ => False) w3).alloc (.cells #[.int .i64 h, .string N, .string F, .string V] 28)).trans k4a))
  obtain ⟨g4, o4, rfl, hrw4⟩ := (hO4a.at lineVals_len).open (by simp)
  have hrow4 : Hid (w4a.rangeAt g4 o4 [.int .i64 h, .string N, .string F, .string V]) := Lib.hid (by have := hrw4 0 _ rfl; rw [Nat.zero_mul, Nat.add_zero] at this; exact this)
  have hK4 := Lib.hid (hK3.out.trans k4.out)
  have hB4 := Lib.hid (hB3.out.keep k4.out id)
  have hR4 := Lib.hid (hR3.out.keep k4.out)
  clear hO4a k4a hrw4 hone4 k4
  go_wp2_with ((with_reducible refine at_slot 24 ?_); refine wpList_load_mid rfl 36 (.tmp 23) rfl g4 o4 rfl [.int .i64 h, .string N, .string F, .string V] _ hrow4.out Try.underlying36 rfl lineInfo ?_)
  cases hz : lineB ⟨h, N.data.toList, F.data.toList, V.data.toList⟩ with
  | false =>
    have hz' := Lib.hid hz; clear hz
    refine (set_no _ B h N F V _ hR4 hBlt2 (by omega) (by omega) hr hz' hlen).mono ?_
    rintro e w5 ⟨rfl, k5⟩
    have hK5 := Lib.hid (hK4.out.trans k5)
    have hB5 := Lib.hid (hB4.out.keep k5 id)
    clear k5
    go_wp2_with ((with_reducible refine at_slot 28 ?_); refine wpList_load_mid rfl 28 (.tmp 3) rfl gb 0 rfl [.int .i64 h, .string N, .string F, .string V] _ hB5.out.range Try.underlying28 rfl line5InfoG ?_)
    refine (rRightLine_any h N F V false _ hn hvs hz').mono ?_
    rintro e w6 ⟨rfl, k6⟩
    have hK6 := Lib.hid (hK5.out.trans k6)
    have hB6 := Lib.hid (hB5.out.keep k6 id)
    clear k6
    go_wp2_with fail
    refine (writes_any _).mono ?_
    rintro e w7 ⟨rfl, k7⟩
    have hK7 := Lib.hid (hK6.out.trans k7)
    have hB7 := Lib.hid (hB6.out.keep k7 id)
    clear k7
    go_wp2_with fail
    go_ret
    exact ⟨rfl, hK7.out⟩
  | true =>
    have hz' := Lib.hid hz; clear hz
    by_cases hfull : thereB ⟨h, N.data.toList, F.data.toList, V.data.toList⟩ B = false ∧ B.length = 64
    · have hf1 := Lib.hid hfull.1; have hf2 := Lib.hid hfull.2
      clear hfull
      refine (set_full _ B h N F V _ hR4 hBlt2 (by omega) (by omega) hr hz' hf1 hf2).mono ?_
      rintro e w5 ⟨rfl, k5⟩
      have hK5 := Lib.hid (hK4.out.trans k5)
      have hB5 := Lib.hid (hB4.out.keep k5 id)
      have hR5 := Lib.hid (hR4.out.keep k5)
      clear k5
      go_wp2_with ((with_reducible refine at_slot 28 ?_); refine wpList_load_mid rfl 28 (.tmp 3) rfl gb 0 rfl [.int .i64 h, .string N, .string F, .string V] _ hB5.out.range Try.underlying28 rfl line5InfoG ?_)
      refine (rRightLine_any h N F V true _ hn hvs hz').mono ?_
      rintro e w6 ⟨rfl, k6⟩
      have hK6 := Lib.hid (hK5.out.trans k6)
      have hB6 := Lib.hid (hB5.out.keep k6 id)
      clear k6
      go_wp2_with fail
      refine (writes_any _).mono ?_
      rintro e w7 ⟨rfl, k7⟩
      have hK7 := Lib.hid (hK6.out.trans k7)
      have hB7 := Lib.hid (hB6.out.keep k7 id)
      clear k7
      have hb64 : ((B.length : Int) == 64) = true := by have := hf2.out; simp; omega
      go_wp2_with fail
      go_ret
      exact ⟨rfl, hK7.out⟩
    · obtain ⟨zt, hzt⟩ : ∃ b, thereB ⟨h, N.data.toList, F.data.toList, V.data.toList⟩ B = b := ⟨_, rfl⟩
      have hzt' := Lib.hid hzt
      have hroom : zt = false → B.length < 64 := fun e => by subst e; exact Nat.lt_of_le_of_ne hlen (fun e => hfull ⟨hzt, e⟩)
      have hxl : Hid (lineB (⟨h, N.data.toList, F.data.toList, V.data.toList⟩ : LineD) = true) := hz'
      obtain ⟨x, hxe⟩ : ∃ x : LineD, x = ⟨h, N.data.toList, F.data.toList, V.data.toList⟩ := ⟨_, rfl⟩
      have hxe' := Lib.hid hxe
      have hDlen : (setC x B).length ≤ 64 := by
        rw [hxe, setC_len]
        cases zt with
        | true => rw [if_pos hzt]; omega
        | false => have := hroom rfl; split <;> omega
      have hDr := Lib.hid (right_setC (x := x) hr.out (by rw [hxe]; exact hz'.out) hDlen)
      have hDB := Lib.hid (show ∀ q ∈ B, ¬ (q.head = x.head ∧ q.name = x.name ∧ q.leaf = x.leaf) → q ∈ setC x B from fun q hq hk => mem_other hq hk)
      have hDm := Lib.hid (mem_self x B)
      have hDa := Lib.hid (setC_again (x := x) (right_rises hr.out))
      clear hfull hzt
      refine (set_ok _ B h N F V zt _ hR4 hBlt2 (by omega) (by omega) hr hz' hzt' hlen hroom).mono ?_
      rintro e w5 ⟨q5, d5, rfl, hO5, k5⟩
      have hK5 := Lib.hid (hK4.out.trans k5)
      have hB5 := Lib.hid (hB4.out.keep k5 id)
      have hC5 := Lib.hid (hR4.out.keep k5)
      rw [← hxe] at hO5 ⊢
      clear hxe
      have hR5 := Lib.hid (hO5.at lineVals_len)
      generalize setC x B = D at hR5 hDr hDB hDm hDa hDlen ⊢
      clear hO5 k5 hroom
      have hDlt := Lib.hid (right_lt hDr.out 9223372036854775807 (by omega))
      have hDthere : Hid (thereB ⟨h, N.data.toList, F.data.toList, V.data.toList⟩ D = true) := Lib.hid (by rw [← hxe'.out]; exact there_at (right_rises hDr.out) hDm.out)
      go_wp2_with ((with_reducible refine at_slot 28 ?_); refine wpList_load_mid rfl 28 (.tmp 3) rfl gb 0 rfl [.int .i64 h, .string N, .string F, .string V] _ hB5.out.range Try.underlying28 rfl line5InfoG ?_)
      refine (rRightLine_any h N F V true _ hn hvs hz').mono ?_
      rintro e w6 ⟨rfl, k6⟩
      have hK6 := Lib.hid (hK5.out.trans k6)
      have hB6 := Lib.hid (hB5.out.keep k6 id)
      have hR6 := Lib.hid (hR5.out.keep k6)
      have hC6 := Lib.hid (hC5.out.keep k6)
      clear k6 hR5 hC5 hK5 hB5
      go_wp2_with ((with_reducible refine at_slot 51 ?_); refine wpList_load_mid rfl 28 (.tmp 3) rfl gb 0 rfl [.int .i64 h, .string N, .string F, .string V] _ hB6.out.range Try.underlying28 rfl line5InfoG ?_)
      have hone7 : Hid (RowsAt 4 lineVals (w6.alloc (.cells #[.int .i64 h, .string N, .string F, .string V] 28)) (.slice (some ⟨w6.heap.size, 0, none⟩) 1 1) [(⟨h, N.data.toList, F.data.toList, V.data.toList⟩ : LineD)]) := Lib.hid (rows_one w6 ⟨h, N.data.toList, F.data.toList, V.data.toList⟩ [.int .i64 h, .string N, .string F, .string V] rfl)
      refine (to_any _ [(⟨h, N.data.toList, F.data.toList, V.data.toList⟩ : LineD)] _ hone7 (by simp)).mono ?_
      rintro e w7a ⟨q7a, d7a, rfl, hO7a, k7a⟩
      have k7 := Lib.hid ((((Keeps.refl (fun _ => False) w6).alloc (.cells #[.int .i64 h, .string N, .string F, .string V] 28)).trans k7a))
      obtain ⟨g7, o7, rfl, hrw7⟩ := (hO7a.at lineVals_len).open (by simp)
      have hrow7 : Hid (w7a.rangeAt g7 o7 [.int .i64 h, .string N, .string F, .string V]) := Lib.hid (by have := hrw7 0 _ rfl; rw [Nat.zero_mul, Nat.add_zero] at this; exact this)
      have hK7 := Lib.hid (hK6.out.trans k7.out)
      have hB7 := Lib.hid (hB6.out.keep k7.out id)
      have hR7 := Lib.hid (hR6.out.keep k7.out)
      have hC7 := Lib.hid (hC6.out.keep k7.out)
      clear hO7a k7a hrw7 hone7 k7
      go_wp2_with ((with_reducible refine at_slot 55 ?_); refine wpList_load_mid rfl 36 (.tmp 54) rfl g7 o7 rfl [.int .i64 h, .string N, .string F, .string V] _ hrow7.out Try.underlying36 rfl lineInfo ?_)
      refine (set_ok _ D h N F V true _ hR7 hDlt (by omega) (by omega) hDr hz' hDthere hDlen (fun e => by cases e)).mono ?_
      rintro e w8 ⟨q8, d8, rfl, hO8, k8⟩
      have hK8 := Lib.hid (hK7.out.trans k8)
      have hB8 := Lib.hid (hB7.out.keep k8 id)
      have hR8 := Lib.hid (hR7.out.keep k8)
      have hC8 := Lib.hid (hC7.out.keep k8)
      rw [← hxe'.out, hDa.out] at hO8 ⊢
      have hF8 := Lib.hid (hO8.at lineVals_len)
      clear hO8 k8 hR7 hC7 hK7 hB7 hDa
      go_upto_region 8 with fail
      have hval : Hid (D[posL (⟨h, N.data.toList, F.data.toList, []⟩ : LineD) D]? = some x) := Lib.hid (by
        have e : (⟨h, N.data.toList, F.data.toList, []⟩ : LineD) = bareL x := by rw [hxe'.out]; rfl
        rw [e, posL_bare]; exact find_at (right_rises hDr.out) hDm.out)
      have hthb : Hid (thereB (⟨h, N.data.toList, F.data.toList, []⟩ : LineD) D = true) := Lib.hid (by
        have e : (⟨h, N.data.toList, F.data.toList, []⟩ : LineD) = bareL x := by rw [hxe'.out]; rfl
        rw [e, thereB_bare]; exact there_at (right_rises hDr.out) hDm.out)
      have hVx : Hid (V = ⟨x.value.toArray⟩) := Lib.hid (by rw [hxe'.out])
      refine wp_region_noPanic ?_
      refine wp_region_held_drew (S := (fun W => Keeps (fun _ => False) w8 W)) (by kernel_rfl) (((Keeps.refl _ _).drew)) (fun hHeld => ?_)
      refine stepL 0 rfl (by kernel_rfl) (fun K hK => ?_)
      go_simp
      (refine (writes_any _).mono ?_; rintro e wa ⟨rfl, ka⟩; have ka' := Lib.hid ka; clear ka)
      go_wp2_with fail
      refine hK.out _ _ ((hHeld.trans ka'.out)) (fun hHeld => ?_)
      clear hK K
      try simp only [Act.put, sA, sZ, sS]
      refine tk 1 rfl ?_
      refine tk 2 rfl ?_
      refine tk 3 rfl ?_
      refine tk 4 rfl ?_
      refine tk 5 rfl ?_
      refine tk 6 rfl ?_
      refine tk 7 rfl ?_
      refine tk 8 rfl ?_
      refine tk 9 rfl ?_
      refine tk 10 rfl ?_
      refine tk 11 rfl ?_
      refine tk 12 rfl ?_
      refine stepL 13 rfl (by kernel_rfl) (fun K hK => ?_)
      go_simp
      (refine (same_c _ _ D D true _ (Lib.hid (hR8.out.keep hHeld)) (Lib.hid (hF8.out.keep hHeld)) hDr hDr (Lib.hid (by simp))).mono ?_; rintro e wb ⟨rfl, kb⟩; have kb' := Lib.hid kb; clear kb)
      go_wp2_with fail
      refine hK.out _ _ ((hHeld.trans kb'.out)) (fun hHeld => ?_)
      clear hK K
      try simp only [Act.put, sA, sZ, sS]
      refine tk 14 rfl ?_
      refine tk 15 rfl ?_
      refine tk 16 rfl ?_
      refine tk 17 rfl ?_
      refine tk 18 rfl ?_
      refine tkL 19 rfl (yieldsIf_load_cell (by rfl) 3 (.tmp 77) rfl gb 0 rfl _ (fun _ s => (hB8.out.keep s id).cell 0 _ rfl) (fun w s => load_int w _ _ _ s)) ?_
      refine tk 20 rfl ?_
      refine tkL 21 rfl (yieldsIf_load_cell (by rfl) 9 (.tmp 79) rfl gb 1 rfl _ (fun _ s => (hB8.out.keep s id).cell 1 _ rfl) (fun w s => load_str w _ _ _ s)) ?_
      refine tk 22 rfl ?_
      refine tkL 23 rfl (yieldsIf_load_cell (by rfl) 9 (.tmp 81) rfl gb 2 rfl _ (fun _ s => (hB8.out.keep s id).cell 2 _ rfl) (fun w s => load_str w _ _ _ s)) ?_
      refine tk 25 rfl ?_
      refine tkL 26 rfl (yieldsIf_load_cell (by rfl) 9 (.tmp 84) rfl gb 3 rfl _ (fun _ s => (hB8.out.keep s id).cell 3 _ rfl) (fun w s => load_str w _ _ _ s)) ?_
      refine stepL 24 rfl (by kernel_rfl) (fun K hK => ?_)
      go_simp
      (refine (value_there _ D x h N F V _ (Lib.hid (hR8.out.keep hHeld)) hDlen hDlt hDr hthb hval hVx).mono ?_; rintro e wd ⟨rfl, kd⟩; have kd' := Lib.hid kd; clear kd)
      go_wp2_with fail
      refine hK.out _ _ ((hHeld.trans kd'.out)) (fun hHeld => ?_)
      clear hK K
      try simp only [Act.put, sA, sZ, sS]
      refine tk 27 rfl ?_
      refine tk 28 rfl ?_
      refine wpAnyH_done (by kernel_rfl) (NoPanic.normal ?_) _
      have hK9 := Lib.hid (hK8.out.trans hHeld)
      have hB9 := Lib.hid (hB8.out.keep hHeld id)
      have hR9 := Lib.hid (hR8.out.keep hHeld)
      have hC9 := Lib.hid (hC8.out.keep hHeld)
      clear hHeld hK8 hB8 hR8 hC8 hF8 hval hthb hVx hDthere
      go_wp2_with fail
      go_loopw [10] (fun iv wr => ∃ (k : Nat), k ≤ B.length ∧ iv = .int .i64 k ∧ Hid (Keeps (fun _ => False) wd wr)) (fun iv _ => B.length - (intOf iv).toNat)
      case atStart => exact ⟨0, by omega, rfl, Lib.hid (Keeps.refl _ _)⟩
      case round =>
        obtain ⟨k, hk, rfl, hKw⟩ := hrel
        by_cases hlk : k < B.length
        · obtain ⟨g, o, rfl, hrows⟩ := hC9.out.open (by omega)
          obtain ⟨q, hq⟩ : ∃ q, B[k]? = some q := ⟨_, List.getElem?_eq_getElem hlk⟩
          obtain ⟨Nq, hN⟩ : ∃ N : ByteArray, N = ⟨q.name.toArray⟩ := ⟨_, rfl⟩
          obtain ⟨Fq, hF⟩ : ∃ N : ByteArray, N = ⟨q.leaf.toArray⟩ := ⟨_, rfl⟩
          obtain ⟨Vq, hV⟩ : ∃ N : ByteArray, N = ⟨q.value.toArray⟩ := ⟨_, rfl⟩
          have hrow : Hid (wr.rangeAt g (o + k * 4) [.int .i64 q.head, .string Nq, .string Fq, .string Vq]) := Lib.hid (by rw [hN, hF, hV]; exact hKw.out.rangeAt (hrows k q hq) id)
          have hqd : Hid (q = ⟨q.head, Nq.data.toList, Fq.data.toList, Vq.data.toList⟩) := Lib.hid (by rw [hN, hF, hV])
          have hqB := Lib.hid (List.mem_of_getElem? hq)
          have hVq : Hid (Vq = ⟨q.value.toArray⟩) := Lib.hid hV
          have m1 : (0 : Int) ≤ (k : Int) := by omega
          have m2 : (k : Int) < (B.length : Int) := by omega
          have hRr := Lib.hid (hR9.out.keep hKw.out)
          clear hrows hN hF hV hq
          by_cases a1 : q.head = h
          · have e1 : (q.head == h) = true := by simp [a1]
            have a1' := Lib.hid a1; clear a1
            by_cases a2 : Nq.data.toList = N.data.toList
            · have e2 := beq_list a2
              have a2' := Lib.hid a2; clear a2
              by_cases a3 : Fq.data.toList = F.data.toList
              · have e3 := beq_list a3
                clear a3
                go_upto_region 13 with fail
                refine wp_region_noPanic ?_
                refine wp_region_held_drew (S := (fun W => Keeps (fun _ => False) wr W)) (by kernel_rfl) (((Keeps.refl _ _).drew)) (fun hHeld => ?_)
                refine tk 0 rfl ?_
                refine tk 1 rfl ?_
                refine tk 2 rfl ?_
                refine tk 3 rfl ?_
                refine tkL 4 rfl (yieldsIf_load_cell (by rfl) 3 (.tmp 97) rfl g (o + k * 4 + 0) rfl _ (fun _ s => s.rangeAt hrow.out id 0 _ rfl) (fun w s => load_int w _ _ _ s)) ?_
                refine tk 5 rfl ?_
                refine tkL 6 rfl (yieldsIf_load_cell (by rfl) 3 (.tmp 99) rfl gb 0 rfl _ (fun _ s => (hB9.out.keep (hKw.out.trans s) id).cell 0 _ rfl) (fun w s => load_int w _ _ _ s)) ?_
                refine tk 7 rfl ?_
                refine tk 8 rfl ?_
                refine tk 9 rfl ?_
                refine tk 10 rfl ?_
                refine tk 11 rfl ?_
                refine tk 12 rfl ?_
                refine tkL 13 rfl (yieldsIf_load_cell (by rfl) 9 (.tmp 106) rfl g (o + k * 4 + 1) rfl _ (fun _ s => s.rangeAt hrow.out id 1 _ rfl) (fun w s => load_str w _ _ _ s)) ?_
                refine tk 14 rfl ?_
                refine tkL 15 rfl (yieldsIf_load_cell (by rfl) 9 (.tmp 108) rfl gb 1 rfl _ (fun _ s => (hB9.out.keep (hKw.out.trans s) id).cell 1 _ rfl) (fun w s => load_str w _ _ _ s)) ?_
                refine tk 16 rfl ?_
                refine tk 17 rfl ?_
                refine tk 18 rfl ?_
                refine tk 19 rfl ?_
                refine tk 20 rfl ?_
                refine tk 21 rfl ?_
                refine tk 22 rfl ?_
                refine tkL 23 rfl (yieldsIf_load_cell (by rfl) 9 (.tmp 116) rfl g (o + k * 4 + 2) rfl _ (fun _ s => s.rangeAt hrow.out id 2 _ rfl) (fun w s => load_str w _ _ _ s)) ?_
                refine tk 24 rfl ?_
                refine tkL 25 rfl (yieldsIf_load_cell (by rfl) 9 (.tmp 118) rfl gb 2 rfl _ (fun _ s => (hB9.out.keep (hKw.out.trans s) id).cell 2 _ rfl) (fun w s => load_str w _ _ _ s)) ?_
                refine tk 26 rfl ?_
                refine tk 27 rfl ?_
                refine wpAnyH_done (by kernel_rfl) (NoPanic.normal ?_) _
                have hKx := Lib.hid (hKw.out.trans hHeld)
                clear hHeld
                go_wp2_with fail
                exact ⟨⟨k + 1, by omega, by go_num, hKx⟩, by simp [intOf]; omega⟩
              · have e3 := bne_list a3
                have a3' := Lib.hid a3; clear a3
                have hnk : Hid (¬ (q.head = x.head ∧ q.name = x.name ∧ q.leaf = x.leaf)) := Lib.hid (fun e => a3'.out (by have := e.2.2; rw [hqd.out, hxe'.out] at this; exact this))
                go_upto_region 13 with fail
                refine wp_region_noPanic ?_
                refine wp_region_held_drew (S := (fun W => Keeps (fun _ => False) wr W)) (by kernel_rfl) (((Keeps.refl _ _).drew)) (fun hHeld => ?_)
                refine tk 0 rfl ?_
                refine tk 1 rfl ?_
                refine tk 2 rfl ?_
                refine tk 3 rfl ?_
                refine tkL 4 rfl (yieldsIf_load_cell (by rfl) 3 (.tmp 97) rfl g (o + k * 4 + 0) rfl _ (fun _ s => s.rangeAt hrow.out id 0 _ rfl) (fun w s => load_int w _ _ _ s)) ?_
                refine tk 5 rfl ?_
                refine tkL 6 rfl (yieldsIf_load_cell (by rfl) 3 (.tmp 99) rfl gb 0 rfl _ (fun _ s => (hB9.out.keep (hKw.out.trans s) id).cell 0 _ rfl) (fun w s => load_int w _ _ _ s)) ?_
                refine tk 7 rfl ?_
                refine tk 8 rfl ?_
                refine tk 9 rfl ?_
                refine tk 10 rfl ?_
                refine tk 11 rfl ?_
                refine tk 12 rfl ?_
                refine tkL 13 rfl (yieldsIf_load_cell (by rfl) 9 (.tmp 106) rfl g (o + k * 4 + 1) rfl _ (fun _ s => s.rangeAt hrow.out id 1 _ rfl) (fun w s => load_str w _ _ _ s)) ?_
                refine tk 14 rfl ?_
                refine tkL 15 rfl (yieldsIf_load_cell (by rfl) 9 (.tmp 108) rfl gb 1 rfl _ (fun _ s => (hB9.out.keep (hKw.out.trans s) id).cell 1 _ rfl) (fun w s => load_str w _ _ _ s)) ?_
                refine tk 16 rfl ?_
                refine tk 17 rfl ?_
                refine tk 18 rfl ?_
                refine tk 19 rfl ?_
                refine tk 20 rfl ?_
                refine tk 21 rfl ?_
                refine tk 22 rfl ?_
                refine tkL 23 rfl (yieldsIf_load_cell (by rfl) 9 (.tmp 116) rfl g (o + k * 4 + 2) rfl _ (fun _ s => s.rangeAt hrow.out id 2 _ rfl) (fun w s => load_str w _ _ _ s)) ?_
                refine tk 24 rfl ?_
                refine tkL 25 rfl (yieldsIf_load_cell (by rfl) 9 (.tmp 118) rfl gb 2 rfl _ (fun _ s => (hB9.out.keep (hKw.out.trans s) id).cell 2 _ rfl) (fun w s => load_str w _ _ _ s)) ?_
                refine tk 26 rfl ?_
                refine tk 27 rfl ?_
                refine wpAnyH_done (by kernel_rfl) (NoPanic.normal ?_) _
                have hKx := Lib.hid (hKw.out.trans hHeld)
                have hrow2 := Lib.hid (hHeld.rangeAt hrow.out id)
                have hRx := Lib.hid (hRr.out.keep hHeld)
                clear hHeld
                have hqD := Lib.hid (hDB.out q hqB.out hnk.out)
                have hv1 : Hid (thereB (⟨q.head, Nq.data.toList, Fq.data.toList, []⟩ : LineD) D = true) := Lib.hid (by
                  have e : (⟨q.head, Nq.data.toList, Fq.data.toList, []⟩ : LineD) = bareL q := by rw [hqd.out]; rfl
                  rw [e, thereB_bare]; exact there_at (right_rises hDr.out) hqD.out)
                have hv2 : Hid (D[posL (⟨q.head, Nq.data.toList, Fq.data.toList, []⟩ : LineD) D]? = some q) := Lib.hid (by
                  have e : (⟨q.head, Nq.data.toList, Fq.data.toList, []⟩ : LineD) = bareL q := by rw [hqd.out]; rfl
                  rw [e, posL_bare]; exact find_at (right_rises hDr.out) hqD.out)
                go_upto_region 14 with fail
                generalize wr.drew = Wr at hKx hrow2 hRx ⊢
                refine wp_region_noPanic ?_
                refine wp_region_held_drew (S := (fun W => Keeps (fun _ => False) Wr W)) (by kernel_rfl) (((Keeps.refl _ _).drew)) (fun hHeld => ?_)
                refine tk 0 rfl ?_
                refine tk 1 rfl ?_
                refine tk 2 rfl ?_
                refine tk 3 rfl ?_
                refine tk 4 rfl ?_
                refine tkL 5 rfl (yieldsIf_load_cell (by rfl) 3 (.tmp 126) rfl g (o + k * 4 + 0) rfl _ (fun _ s => s.rangeAt hrow2.out id 0 _ rfl) (fun w s => load_int w _ _ _ s)) ?_
                refine tk 6 rfl ?_
                refine tk 7 rfl ?_
                refine tk 8 rfl ?_
                refine tk 9 rfl ?_
                refine tkL 10 rfl (yieldsIf_load_cell (by rfl) 9 (.tmp 131) rfl g (o + k * 4 + 1) rfl _ (fun _ s => s.rangeAt hrow2.out id 1 _ rfl) (fun w s => load_str w _ _ _ s)) ?_
                refine tk 11 rfl ?_
                refine tk 12 rfl ?_
                refine tk 13 rfl ?_
                refine tk 14 rfl ?_
                refine tkL 15 rfl (yieldsIf_load_cell (by rfl) 9 (.tmp 136) rfl g (o + k * 4 + 2) rfl _ (fun _ s => s.rangeAt hrow2.out id 2 _ rfl) (fun w s => load_str w _ _ _ s)) ?_
                refine tk 17 rfl ?_
                refine tk 18 rfl ?_
                refine tk 19 rfl ?_
                refine tk 20 rfl ?_
                refine tkL 21 rfl (yieldsIf_load_cell (by rfl) 9 (.tmp 142) rfl g (o + k * 4 + 3) rfl _ (fun _ s => s.rangeAt hrow2.out id 3 _ rfl) (fun w s => load_str w _ _ _ s)) ?_
                refine stepL 16 rfl (by kernel_rfl) (fun K hK => ?_)
                go_simp
                (refine (value_there _ D q q.head Nq Fq Vq _ (Lib.hid (hRx.out.keep hHeld)) hDlen hDlt hDr hv1 hv2 hVq).mono ?_; rintro e wz ⟨rfl, kz⟩; have kz' := Lib.hid kz; clear kz)
                go_wp2_with fail
                refine hK.out _ _ ((hHeld.trans kz'.out)) (fun hHeld => ?_)
                clear hK K
                try simp only [Act.put, sA, sZ, sS]
                refine tk 22 rfl ?_
                refine wpAnyH_done (by kernel_rfl) (NoPanic.normal ?_) _
                have hKy := Lib.hid (hKx.out.trans hHeld)
                clear hHeld
                go_wp2_with fail
                exact ⟨⟨k + 1, by omega, by go_num, hKy⟩, by simp [intOf]; omega⟩
            · have e2 := bne_list a2
              have a2' := Lib.hid a2; clear a2
              have hnk : Hid (¬ (q.head = x.head ∧ q.name = x.name ∧ q.leaf = x.leaf)) := Lib.hid (fun e => a2'.out (by have := e.2.1; rw [hqd.out, hxe'.out] at this; exact this))
              go_upto_region 13 with fail
              refine wp_region_noPanic ?_
              refine wp_region_held_drew (S := (fun W => Keeps (fun _ => False) wr W)) (by kernel_rfl) (((Keeps.refl _ _).drew)) (fun hHeld => ?_)
              refine tk 0 rfl ?_
              refine tk 1 rfl ?_
              refine tk 2 rfl ?_
              refine tk 3 rfl ?_
              refine tkL 4 rfl (yieldsIf_load_cell (by rfl) 3 (.tmp 97) rfl g (o + k * 4 + 0) rfl _ (fun _ s => s.rangeAt hrow.out id 0 _ rfl) (fun w s => load_int w _ _ _ s)) ?_
              refine tk 5 rfl ?_
              refine tkL 6 rfl (yieldsIf_load_cell (by rfl) 3 (.tmp 99) rfl gb 0 rfl _ (fun _ s => (hB9.out.keep (hKw.out.trans s) id).cell 0 _ rfl) (fun w s => load_int w _ _ _ s)) ?_
              refine tk 7 rfl ?_
              refine tk 8 rfl ?_
              refine tk 9 rfl ?_
              refine tk 10 rfl ?_
              refine tk 11 rfl ?_
              refine tk 12 rfl ?_
              refine tkL 13 rfl (yieldsIf_load_cell (by rfl) 9 (.tmp 106) rfl g (o + k * 4 + 1) rfl _ (fun _ s => s.rangeAt hrow.out id 1 _ rfl) (fun w s => load_str w _ _ _ s)) ?_
              refine tk 14 rfl ?_
              refine tkL 15 rfl (yieldsIf_load_cell (by rfl) 9 (.tmp 108) rfl gb 1 rfl _ (fun _ s => (hB9.out.keep (hKw.out.trans s) id).cell 1 _ rfl) (fun w s => load_str w _ _ _ s)) ?_
              refine tk 16 rfl ?_
              refine tk 17 rfl ?_
              refine tk 18 rfl ?_
              refine tkS 19 rfl ?_
              refine tkS 20 rfl ?_
              refine tkS 21 rfl ?_
              refine tkS 22 rfl ?_
              refine tkS 23 rfl ?_
              refine tkS 24 rfl ?_
              refine tkS 25 rfl ?_
              refine tkS 26 rfl ?_
              refine tk 27 rfl ?_
              refine wpAnyH_done (by kernel_rfl) (NoPanic.normal ?_) _
              have hKx := Lib.hid (hKw.out.trans hHeld)
              have hrow2 := Lib.hid (hHeld.rangeAt hrow.out id)
              have hRx := Lib.hid (hRr.out.keep hHeld)
              clear hHeld
              have hqD := Lib.hid (hDB.out q hqB.out hnk.out)
              have hv1 : Hid (thereB (⟨q.head, Nq.data.toList, Fq.data.toList, []⟩ : LineD) D = true) := Lib.hid (by
                have e : (⟨q.head, Nq.data.toList, Fq.data.toList, []⟩ : LineD) = bareL q := by rw [hqd.out]; rfl
                rw [e, thereB_bare]; exact there_at (right_rises hDr.out) hqD.out)
              have hv2 : Hid (D[posL (⟨q.head, Nq.data.toList, Fq.data.toList, []⟩ : LineD) D]? = some q) := Lib.hid (by
                have e : (⟨q.head, Nq.data.toList, Fq.data.toList, []⟩ : LineD) = bareL q := by rw [hqd.out]; rfl
                rw [e, posL_bare]; exact find_at (right_rises hDr.out) hqD.out)
              go_upto_region 14 with fail
              generalize wr.drew = Wr at hKx hrow2 hRx ⊢
              refine wp_region_noPanic ?_
              refine wp_region_held_drew (S := (fun W => Keeps (fun _ => False) Wr W)) (by kernel_rfl) (((Keeps.refl _ _).drew)) (fun hHeld => ?_)
              refine tk 0 rfl ?_
              refine tk 1 rfl ?_
              refine tk 2 rfl ?_
              refine tk 3 rfl ?_
              refine tk 4 rfl ?_
              refine tkL 5 rfl (yieldsIf_load_cell (by rfl) 3 (.tmp 126) rfl g (o + k * 4 + 0) rfl _ (fun _ s => s.rangeAt hrow2.out id 0 _ rfl) (fun w s => load_int w _ _ _ s)) ?_
              refine tk 6 rfl ?_
              refine tk 7 rfl ?_
              refine tk 8 rfl ?_
              refine tk 9 rfl ?_
              refine tkL 10 rfl (yieldsIf_load_cell (by rfl) 9 (.tmp 131) rfl g (o + k * 4 + 1) rfl _ (fun _ s => s.rangeAt hrow2.out id 1 _ rfl) (fun w s => load_str w _ _ _ s)) ?_
              refine tk 11 rfl ?_
              refine tk 12 rfl ?_
              refine tk 13 rfl ?_
              refine tk 14 rfl ?_
              refine tkL 15 rfl (yieldsIf_load_cell (by rfl) 9 (.tmp 136) rfl g (o + k * 4 + 2) rfl _ (fun _ s => s.rangeAt hrow2.out id 2 _ rfl) (fun w s => load_str w _ _ _ s)) ?_
              refine tk 17 rfl ?_
              refine tk 18 rfl ?_
              refine tk 19 rfl ?_
              refine tk 20 rfl ?_
              refine tkL 21 rfl (yieldsIf_load_cell (by rfl) 9 (.tmp 142) rfl g (o + k * 4 + 3) rfl _ (fun _ s => s.rangeAt hrow2.out id 3 _ rfl) (fun w s => load_str w _ _ _ s)) ?_
              refine stepL 16 rfl (by kernel_rfl) (fun K hK => ?_)
              go_simp
              (refine (value_there _ D q q.head Nq Fq Vq _ (Lib.hid (hRx.out.keep hHeld)) hDlen hDlt hDr hv1 hv2 hVq).mono ?_; rintro e wz ⟨rfl, kz⟩; have kz' := Lib.hid kz; clear kz)
              go_wp2_with fail
              refine hK.out _ _ ((hHeld.trans kz'.out)) (fun hHeld => ?_)
              clear hK K
              try simp only [Act.put, sA, sZ, sS]
              refine tk 22 rfl ?_
              refine wpAnyH_done (by kernel_rfl) (NoPanic.normal ?_) _
              have hKy := Lib.hid (hKx.out.trans hHeld)
              clear hHeld
              go_wp2_with fail
              exact ⟨⟨k + 1, by omega, by go_num, hKy⟩, by simp [intOf]; omega⟩
          · have e1 : (q.head == h) = false := by simp [a1]
            have a1' := Lib.hid a1; clear a1
            have hnk : Hid (¬ (q.head = x.head ∧ q.name = x.name ∧ q.leaf = x.leaf)) := Lib.hid (fun e => a1'.out (by have := e.1; rw [hxe'.out] at this; exact this))
            go_upto_region 13 with fail
            refine wp_region_noPanic ?_
            refine wp_region_held_drew (S := (fun W => Keeps (fun _ => False) wr W)) (by kernel_rfl) (((Keeps.refl _ _).drew)) (fun hHeld => ?_)
            refine tk 0 rfl ?_
            refine tk 1 rfl ?_
            refine tk 2 rfl ?_
            refine tk 3 rfl ?_
            refine tkL 4 rfl (yieldsIf_load_cell (by rfl) 3 (.tmp 97) rfl g (o + k * 4 + 0) rfl _ (fun _ s => s.rangeAt hrow.out id 0 _ rfl) (fun w s => load_int w _ _ _ s)) ?_
            refine tk 5 rfl ?_
            refine tkL 6 rfl (yieldsIf_load_cell (by rfl) 3 (.tmp 99) rfl gb 0 rfl _ (fun _ s => (hB9.out.keep (hKw.out.trans s) id).cell 0 _ rfl) (fun w s => load_int w _ _ _ s)) ?_
            refine tk 7 rfl ?_
            refine tk 8 rfl ?_
            refine tkS 9 rfl ?_
            refine tkS 10 rfl ?_
            refine tkS 11 rfl ?_
            refine tkS 12 rfl ?_
            refine tkS 13 rfl ?_
            refine tkS 14 rfl ?_
            refine tkS 15 rfl ?_
            refine tkS 16 rfl ?_
            refine tk 17 rfl ?_
            refine tk 18 rfl ?_
            refine tkS 19 rfl ?_
            refine tkS 20 rfl ?_
            refine tkS 21 rfl ?_
            refine tkS 22 rfl ?_
            refine tkS 23 rfl ?_
            refine tkS 24 rfl ?_
            refine tkS 25 rfl ?_
            refine tkS 26 rfl ?_
            refine tk 27 rfl ?_
            refine wpAnyH_done (by kernel_rfl) (NoPanic.normal ?_) _
            have hKx := Lib.hid (hKw.out.trans hHeld)
            have hrow2 := Lib.hid (hHeld.rangeAt hrow.out id)
            have hRx := Lib.hid (hRr.out.keep hHeld)
            clear hHeld
            have hqD := Lib.hid (hDB.out q hqB.out hnk.out)
            have hv1 : Hid (thereB (⟨q.head, Nq.data.toList, Fq.data.toList, []⟩ : LineD) D = true) := Lib.hid (by
              have e : (⟨q.head, Nq.data.toList, Fq.data.toList, []⟩ : LineD) = bareL q := by rw [hqd.out]; rfl
              rw [e, thereB_bare]; exact there_at (right_rises hDr.out) hqD.out)
            have hv2 : Hid (D[posL (⟨q.head, Nq.data.toList, Fq.data.toList, []⟩ : LineD) D]? = some q) := Lib.hid (by
              have e : (⟨q.head, Nq.data.toList, Fq.data.toList, []⟩ : LineD) = bareL q := by rw [hqd.out]; rfl
              rw [e, posL_bare]; exact find_at (right_rises hDr.out) hqD.out)
            go_upto_region 14 with fail
            generalize wr.drew = Wr at hKx hrow2 hRx ⊢
            refine wp_region_noPanic ?_
            refine wp_region_held_drew (S := (fun W => Keeps (fun _ => False) Wr W)) (by kernel_rfl) (((Keeps.refl _ _).drew)) (fun hHeld => ?_)
            refine tk 0 rfl ?_
            refine tk 1 rfl ?_
            refine tk 2 rfl ?_
            refine tk 3 rfl ?_
            refine tk 4 rfl ?_
            refine tkL 5 rfl (yieldsIf_load_cell (by rfl) 3 (.tmp 126) rfl g (o + k * 4 + 0) rfl _ (fun _ s => s.rangeAt hrow2.out id 0 _ rfl) (fun w s => load_int w _ _ _ s)) ?_
            refine tk 6 rfl ?_
            refine tk 7 rfl ?_
            refine tk 8 rfl ?_
            refine tk 9 rfl ?_
            refine tkL 10 rfl (yieldsIf_load_cell (by rfl) 9 (.tmp 131) rfl g (o + k * 4 + 1) rfl _ (fun _ s => s.rangeAt hrow2.out id 1 _ rfl) (fun w s => load_str w _ _ _ s)) ?_
            refine tk 11 rfl ?_
            refine tk 12 rfl ?_
            refine tk 13 rfl ?_
            refine tk 14 rfl ?_
            refine tkL 15 rfl (yieldsIf_load_cell (by rfl) 9 (.tmp 136) rfl g (o + k * 4 + 2) rfl _ (fun _ s => s.rangeAt hrow2.out id 2 _ rfl) (fun w s => load_str w _ _ _ s)) ?_
            refine tk 17 rfl ?_
            refine tk 18 rfl ?_
            refine tk 19 rfl ?_
            refine tk 20 rfl ?_
            refine tkL 21 rfl (yieldsIf_load_cell (by rfl) 9 (.tmp 142) rfl g (o + k * 4 + 3) rfl _ (fun _ s => s.rangeAt hrow2.out id 3 _ rfl) (fun w s => load_str w _ _ _ s)) ?_
            refine stepL 16 rfl (by kernel_rfl) (fun K hK => ?_)
            go_simp
            (refine (value_there _ D q q.head Nq Fq Vq _ (Lib.hid (hRx.out.keep hHeld)) hDlen hDlt hDr hv1 hv2 hVq).mono ?_; rintro e wz ⟨rfl, kz⟩; have kz' := Lib.hid kz; clear kz)
            go_wp2_with fail
            refine hK.out _ _ ((hHeld.trans kz'.out)) (fun hHeld => ?_)
            clear hK K
            try simp only [Act.put, sA, sZ, sS]
            refine tk 22 rfl ?_
            refine wpAnyH_done (by kernel_rfl) (NoPanic.normal ?_) _
            have hKy := Lib.hid (hKx.out.trans hHeld)
            clear hHeld
            go_wp2_with fail
            exact ⟨⟨k + 1, by omega, by go_num, hKy⟩, by simp [intOf]; omega⟩
        · obtain rfl : k = B.length := by omega
          have hBz := Lib.hid (hB9.out.keep hKw.out id)
          have hRz := Lib.hid (hR9.out.keep hKw.out)
          have hKz := Lib.hid (hK9.out.trans hKw.out)
          have hEl : Hid ((delC h N.data.toList F.data.toList D).length + 1 = D.length) := Lib.hid (by
            have := del_len (x := x) (leaf_ne (right_line hDr.out x hDm.out)) (right_rises hDr.out) hDm.out
            rw [hxe'.out] at this; exact this)
          have hEr := Lib.hid (right_del (h := h) (n := N.data.toList) (l := F.data.toList) hDr.out)
          have hEa := Lib.hid (del_again h N.data.toList F.data.toList D)
          clear hk hlk hKw hB9 hR9 hK9 hC9 hDB
          have c0 := hBz.out.cell 0 _ rfl
          have c1 := hBz.out.cell 1 _ rfl
          have c2 := hBz.out.cell 2 _ rfl
          go_wp2_with fail
          refine (del_c _ D h N F _ hRz hDlt hDlen hDr).mono ?_
          rintro e we ⟨-, p2, ke⟩
          obtain ⟨qe, de, rfl, hOe⟩ := p2 (by have := hEl.out; omega)
          have hRe := Lib.hid (hOe.at lineVals_len)
          have hKe := Lib.hid (hKz.out.trans ke)
          have hBe := Lib.hid (hBz.out.keep ke id)
          generalize delC h N.data.toList F.data.toList D = E at hRe hEl hEr hEa ⊢
          clear hOe ke hKz hBz hRz c0 c1 c2 p2
          have c0 := hBe.out.cell 0 _ rfl
          have c1 := hBe.out.cell 1 _ rfl
          have c2 := hBe.out.cell 2 _ rfl
          have hE64 := right_len hEr.out
          have hElt := Lib.hid (right_lt hEr.out 9223372036854775807 (by omega))
          go_wp2_with fail
          refine (del_c _ E h N F _ hRe hElt hE64 hEr).mono ?_
          rintro e wf ⟨p1, -, kf⟩
          rw [hEa.out] at p1
          obtain rfl := p1 rfl
          have hKf := Lib.hid (hKe.out.trans kf)
          have e5 : ((E.length : Int) == (D.length : Int) - 1) = true := by have := hEl.out; simp; omega
          have hDl0 : (1 : Int) ≤ (D.length : Int) := by have := hEl.out; omega
          clear kf p1 c0 c1 c2
          go_wp2_with fail
          go_ret
          exact ⟨rfl, hKf.out⟩
end Go.Proofs.Ytdjmhjgfjbcdkaa
/- Lines of the document that came in, of a bulk that is bounded. -/
set_option linter.unusedVariables false
set_option linter.unusedSimpArgs false
namespace Go.Proofs.Ytdjmhjgfjbcdkaa
open Go.ChangeShapes Go.WideShapes Go.ChangeAt Go.RowKit Go.Deep

theorem bulk_part {H : Type} {d : DataW H} {l : List (DataW H)} (h : d ∈ l) : Rows.uptoBulk d ≤ Rows.uptoBulkAll l := by
  induction l with
  | nil => cases h
  | cons x r ih =>
    simp only [Rows.uptoBulkAll]
    rcases List.mem_cons.1 h with e | e
    · subst e; omega
    · have := ih e; omega
theorem bulk_len {H : Type} (l : List (DataW H)) : l.length ≤ Rows.uptoBulkAll l := by
  induction l with
  | nil => simp [Rows.uptoBulkAll]
  | cons x r ih =>
    have h1 : 1 ≤ Rows.uptoBulk x := by
      cases x with
      | lit l => cases l <;> simp [Rows.uptoBulk]
      | _ => simp [Rows.uptoBulk]
    simp only [Rows.uptoBulkAll, List.length_cons]; omega
theorem listX4 {α : Type} {l : List α} (h : l.length = 4) : ∃ a b c d, l = [a, b, c, d] := by
  match l, h with
  | [a, b, c, d], _ => exact ⟨a, b, c, d, rfl⟩
theorem cxInt : Try.prog.cellsOf 3 = 1 := by kernel_rfl
theorem cxStr : Try.prog.cellsOf 9 = 1 := by kernel_rfl
theorem cxLine : Try.prog.cellsOf 28 = 4 := by kernel_rfl
theorem choose_l {α : Type} (n : Nat) (P : Nat → α → Prop) (h : ∀ i, i < n → ∃ a, P i a) : ∃ l : List α, l.length = n ∧ ∀ i a, l[i]? = some a → P i a := by
  induction n with
  | zero => exact ⟨[], rfl, fun i a e => by simp at e⟩
  | succ n ih =>
    obtain ⟨l, hl, hP⟩ := ih (fun i hi => h i (by omega))
    obtain ⟨a, ha⟩ := h n (by omega)
    refine ⟨l ++ [a], by simp [hl], fun i b e => ?_⟩
    by_cases hi : i < l.length
    · rw [List.getElem?_append_left hi] at e; exact hP i b e
    · rw [List.getElem?_append_right (by omega)] at e
      have : i = n := by have := (List.getElem?_eq_some_iff.1 e).1; simp at this; omega
      subst this
      rw [hl, Nat.sub_self] at e
      injection e with e; subst e; exact ha
section
variable {H : Type} {enc : TypeId × Value → H} {W : World}
set_option maxRecDepth 100000 in
theorem line_came {fuel : Nat} {cs : List Value} {x : DataW H × List MemPlace} {M : Nat} (hl : cs.length = 4) (h : DataW.trod enc Try.prog W 0 (fun _ => true) true fuel 28 cs = some x) (hM : Rows.uptoBulk x.1 ≤ M) :
    ∃ l : LineD, (l.name.length ≤ M ∧ l.leaf.length ≤ M ∧ l.value.length ≤ M) ∧ cs = lineVals l := by
  obtain ⟨c0, c1, c2, c3, rfl⟩ := listX4 hl
  obtain ⟨xs, n, -, hx, -, hlen, hf⟩ := DataW.trod_struct Try.underlying28 h
  obtain ⟨y0, y1, y2, y3, rfl⟩ := listX4 hlen
  have f0 : DataW.trod enc Try.prog W 0 (fun _ => true) true n 3 ((([c0, c1, c2, c3] : List Value).drop 0).take (Try.prog.cellsOf 3)) = some y0 := hf 0 _ rfl
  rw [cxInt] at f0
  have f1 : DataW.trod enc Try.prog W 0 (fun _ => true) true n 9 ((([c0, c1, c2, c3] : List Value).drop 1).take (Try.prog.cellsOf 9)) = some y1 := hf 1 _ rfl
  rw [cxStr] at f1
  have f2 : DataW.trod enc Try.prog W 0 (fun _ => true) true n 9 ((([c0, c1, c2, c3] : List Value).drop 2).take (Try.prog.cellsOf 9)) = some y2 := hf 2 _ rfl
  rw [cxStr] at f2
  have f3 : DataW.trod enc Try.prog W 0 (fun _ => true) true n 9 ((([c0, c1, c2, c3] : List Value).drop 3).take (Try.prog.cellsOf 9)) = some y3 := hf 3 _ rfl
  rw [cxStr] at f3
  obtain ⟨n0, e0, -, w0⟩ := DataW.trod_int Try.underlying3 f0
  obtain ⟨N, e1, r1, -⟩ := DataW.trod_string Try.underlying9 f1
  obtain ⟨F, e2, r2, -⟩ := DataW.trod_string Try.underlying9 f2
  obtain ⟨V, e3, r3, -⟩ := DataW.trod_string Try.underlying9 f3
  injection e0 with e0 _; injection e1 with e1 _; injection e2 with e2 _; injection e3 with e3 _
  subst e0; subst e1; subst e2; subst e3
  subst r1; subst r2; subst r3
  subst hx
  simp only [List.map_cons, List.map_nil, Rows.uptoBulk, Rows.uptoBulkAll] at hM
  exact ⟨⟨n0, N.data.toList, F.data.toList, V.data.toList⟩, ⟨by show N.data.toList.length ≤ M; omega, by show F.data.toList.length ≤ M; omega, by show V.data.toList.length ≤ M; omega⟩, rfl⟩
theorem lines_came {fuel : Nat} {x0 : Value} {x : DataW H × List MemPlace} {M : Nat} (h : DataW.trod enc Try.prog W 0 (fun _ => true) true fuel 22 [x0] = some x) (hM : Rows.uptoBulk x.1 ≤ M) :
    ∃ (ls : List LineD) (p : Option Addr) (c : Nat), x0 = .slice p ls.length c ∧ RowsAt 4 lineVals W (.slice p ls.length c) ls ∧ LinesLt ls M ∧ ls.length ≤ M := by
  rcases Go.Deep.open_slice Try.underlying22 h with ⟨hcs, -⟩ | ⟨a, len, cap, m, n, D, Pl, hcs, -, hlc, hm, hmm, hx, hall⟩
  · injection hcs with hcs _; subst hcs
    exact ⟨[], none, 0, rfl, RowsAt.nil _, (fun l hl => by cases hl), by simp⟩
  · injection hcs with hcs _; subst hcs
    simp only [if_true] at hmm
    subst hmm
    subst hx
    simp only [Rows.uptoBulk] at hM
    have hex : ∀ i, i < len → ∃ l : LineD, (l.name.length ≤ M ∧ l.leaf.length ≤ M ∧ l.value.length ≤ M) ∧ ∀ j, j < 4 → W.cell? ((a.add (i * 4)).add j) = (lineVals l)[j]? := fun i hi => by
      obtain ⟨cs', h1, h2⟩ := hall i (by omega)
      rw [cxLine] at h1
      obtain ⟨-, hl, hc⟩ := World.cells?_some h1
      obtain ⟨l, hok, rfl⟩ := line_came (M := M) hl h2 (Nat.le_trans (bulk_part (List.mem_map.2 ⟨i, List.mem_range.2 hi, rfl⟩)) (by omega))
      exact ⟨l, hok, hc⟩
    have hlenM : len ≤ M := by
      have h1 := bulk_len ((List.range len).map D)
      rw [List.length_map, List.length_range] at h1
      omega
    obtain ⟨ls, hlen2, hls⟩ := choose_l len _ hex
    refine ⟨ls, some a, m, by rw [hlen2], ⟨some a, m, rfl, (fun e => nomatch e), by rw [hlen2]; exact hlc, fun h0 => ?_⟩, fun l hl => ?_, by rw [hlen2]; exact hlenM⟩
    · obtain ⟨b, o, s⟩ := a
      have h00 := (hls 0 ls[0] (List.getElem?_eq_getElem h0)).2 0 (by omega)
      have hsn : s = none := by simpa [Addr.add] using World.cell?_spot (h00.trans (show (lineVals ls[0])[0]? = some (.int .i64 ls[0].head) from rfl))
      subst hsn
      refine ⟨b, o, rfl, fun i l hl j u hu => ?_⟩
      have hj : j < 4 := by have := (List.getElem?_eq_some_iff.1 hu).1; simpa [lineVals] using this
      have := (hls i l hl).2 j hj
      rw [hu, Addr.add_mid, Addr.add_mid] at this
      exact this
    · obtain ⟨i, hi, rfl⟩ := List.mem_iff_getElem.1 hl
      exact (hls i _ (List.getElem?_eq_getElem hi)).1
end
end Go.Proofs.Ytdjmhjgfjbcdkaa
/- ConfGets, proved in its second form: of all bytes, bent ones among them, the configuration is told, or the error; for every input whose bulk is at most 1048576. -/
set_option linter.unusedVariables false
namespace Go.Proofs.Ytdjmhjgfjbcdkaa
open Go.ChangeShapes Go.WideShapes Go.ChangeAt Go.RowKit Go.WideMaps Go.Deep
open Go.ChangeMaps (open_string)
theorem cArr2 : Try.prog.cellsOf 61 = 2 := by kernel_rfl
section
variable {H : Type} {enc : TypeId × Value → H} {W : World}
set_option maxRecDepth 100000 in
theorem arr2_came {base : Nat} {v : Value} {d : DataW H} {ps : List MemPlace} (hval : Value.okWide Try.prog W .any base 61 v) (h : DataW.Trod enc Try.prog W 0 (fun _ => true) true 61 v d ps) :
    ∃ a b : Int, v = .agg #[.int .i64 a, .int .i64 b] ∧ (-9223372036854775808 ≤ a ∧ a ≤ 9223372036854775807) ∧ (-9223372036854775808 ≤ b ∧ b ≤ 9223372036854775807) := by
  obtain ⟨cs, rfl, hsz, _⟩ : ∃ cs, v = .agg cs ∧ cs.size = Try.prog.cellsOf 61 ∧ Row.okWide Try.prog W .any base 61 cs := by
    have h2 := hval
    simp only [Value.okWide, Try.underlying61] at h2
    exact h2
  rw [cArr2] at hsz
  obtain ⟨l⟩ := cs
  match l, hsz with
  | [x0, x1], _ =>
    obtain ⟨fuel, hfu⟩ := h
    obtain ⟨xs, n, -, -, -, hlen, hf⟩ := DataW.trod_array Try.underlying61 hfu
    have f0 : DataW.trod enc Try.prog W 0 (fun _ => true) true n 3 ((([x0, x1] : List Value).drop (0 * Try.prog.cellsOf 3)).take (Try.prog.cellsOf 3)) = xs[0]? := hf 0 (by omega)
    have f1 : DataW.trod enc Try.prog W 0 (fun _ => true) true n 3 ((([x0, x1] : List Value).drop (1 * Try.prog.cellsOf 3)).take (Try.prog.cellsOf 3)) = xs[1]? := hf 1 (by omega)
    rw [cxInt] at f0 f1
    rw [List.getElem?_eq_getElem (by omega)] at f0 f1
    obtain ⟨a, ea, -, wa⟩ := DataW.trod_int Try.underlying3 f0
    obtain ⟨b, eb, -, wb⟩ := DataW.trod_int Try.underlying3 f1
    simp at ea eb
    subst ea; subst eb
    simp [Lit.wf, IntKind.min, IntKind.max, IntKind.signed, IntKind.bits] at wa wb
    exact ⟨a, b, rfl, by omega, by omega⟩
end
namespace confGetsProof
theorem own : ownKnob Try.prog.godebug = none := by kernel_rfl
theorem laidOut : laidOutB Try.prog = true := by kernel_rfl
theorem bound {H : Type} {l : List (DataW H)} (hk : Rows.uptoSmall H l = true) : Rows.uptoBulkAll l ≤ 1048576 := by
  simpa [Rows.uptoSmall] using hk
set_option maxRecDepth 100000 in
theorem contract (H : Type) (enc : TypeId × Value → H) (W : World) (base : Nat) (args : Array Value) (ds gs : List (DataW H)) (before : List MemPlace)
    (hval : ∀ (j : Nat) t v, Try.f5.params[j]? = some t → args[j]? = some v → Value.okWide Try.prog W .any base t v)
    (hW : DataW.Whole enc Try.prog Try.f5.params.toList Rows.confGetsSpec.vars false W args.toList ds gs before) (hk : Rows.uptoSmall H (ds ++ gs) = true) :
    Calls Try.prog 5 args W fun e W' => ∃ v, e = .returned v ∧ Rows.confGetsSpec.post enc Try.prog Try.f5 false true false false W args v W' := by
  have hW' := hW
  obtain ⟨p, q, hA0, hV, rfl, hfz, hnd⟩ := hW
  have hA : DataW.TrodAll enc Try.prog W 0 (fun _ => true) true Try.f5.params.toList args.toList ds p := hA0
  rw [Try.params5] at hA hval
  obtain ⟨v0, vs0, d0, ds0, p0, q0, hargs, rfl, rfl, h0, r0⟩ := trodAll_cons hA
  obtain ⟨v1, vs1, d1, ds1, p1, q1, rfl, rfl, rfl, h1, r1⟩ := trodAll_cons r0
  obtain ⟨rfl, rfl, rfl⟩ := trodAll_nil r1
  obtain rfl : args = #[v0, v1] := by cases args; simp_all
  obtain ⟨rfl, rfl⟩ := trodVars_none hV
  have k0 := h0
  have k1 := h1
  have hb := bound hk
  simp only [List.append_nil, Rows.uptoBulkAll] at hb
  have lt0 : ∀ x ∈ p0, x.block < W.heap.size := by obtain ⟨m, hm⟩ := k0; exact DataW.trod_lt m _ _ _ hm
  have lt1 : ∀ x ∈ p1, x.block < W.heap.size := by obtain ⟨m, hm⟩ := k1; exact DataW.trod_lt m _ _ _ hm
  obtain ⟨sa, sl, sc, rfl⟩ := okWide_slice Try.underlying22 (hval 0 22 v0 rfl rfl)
  obtain ⟨m0, hm0⟩ := h0
  obtain ⟨ls, pz, cz, hvz, hrows, hlt, hlen⟩ := lines_came (M := 1048576) (show DataW.trod enc Try.prog W 0 (fun _ => true) true m0 22 [.slice sa sl sc] = some (d0, p0) from hm0) (by simp only; omega)
  rw [hvz] at hW' k0 hA0 ⊢
  obtain ⟨xa1, xb1, rfl, wa1, wb1⟩ := arr2_came (hval 1 61 v1 rfl rfl) h1
  clear hA0
  simp only [List.append_nil] at hW'
  refine (confGets_law _ ls xa1 xb1 W (Lib.hid hrows) (by omega) (Lib.hid (hlt.mono (by omega))) wa1.1 wa1.2 wb1.1 wb1.2).mono fun e W' ⟨he, hke⟩ => ?_
  have bel := hke.below (Nat.le_refl _) (fun _ f => f.elim)
  subst he
  exact ⟨_, rfl, _, _, _, [], _, [], hW', trodAll_mk1 (shut_bool Try.underlying4 _), (trodAll_cons_mk (Below.trod laidOut (by kernel_rfl) (of_decide_eq_true (by kernel_rfl)) k0 bel lt0) (trodAll_cons_mk (Below.trod laidOut (by kernel_rfl) (of_decide_eq_true (by kernel_rfl)) k1 bel lt1) trodAll_mk0)), rfl, bel.frame _, fun h => by cases h⟩
set_option maxRecDepth 100000 in
theorem lifted (os : Os) (started : os.Started) (H : Type) (enc : TypeId × Value → H) (F : Stop.Interp) :
    ReturnsInHanded {} Try.checked os 5 .any ((Rows.OpenSpec.upto Rows.confGetsSpec).pre6 enc Try.prog Try.f5 Rows.confGetsUptoRow.domain false) (((Rows.OpenSpec.upto Rows.confGetsSpec).at F).post enc Try.prog Try.f5 false true false false) := by
  refine returnsInHanded_of_cond (C := Try.checked) (s := Rows.OpenSpec.upto Rows.confGetsSpec) (k := Rows.uptoSmall) rfl own started (by kernel_rfl) Try.func5
    (OpenSpec.witness (enc := enc) (C := Try.checked) (s := Rows.OpenSpec.upto Rows.confGetsSpec) (k := Rows.uptoSmall) rfl false ⟨#[], #[.slice none 0 0, .agg #[.int .i64 0, .int .i64 0]], []⟩ 8 (by kernel_rfl) (by kernel_rfl) (by kernel_rfl)
      (x := ([.nil, .agg [.lit (.int .i64 0), .lit (.int .i64 0)]], [], [])) (by kernel_rfl) rfl (by kernel_rfl)) ?_
  intro W base args ds gs before hval hW _ hk _
  exact contract H enc W base args ds gs before hval hW hk
theorem over : Rows.confGetsUptoRow.holds Try.pinned (Rows.OpenSpec.upto Rows.confGetsSpec) :=
  OpenClaim.holds_of_cond 5 Try.f5 rfl rfl rfl rfl rfl rfl rfl ⟨rfl, rfl, rfl, rfl, rfl⟩ rfl rfl rfl rfl rfl (by kernel_rfl) Try.func5 (by kernel_rfl)
    (of_decide_eq_true (by kernel_rfl)) (by unfold Func.isWrapper; first | (rw [if_pos (by decide +kernel)]; kernel_rfl) | (rw [if_neg (by decide +kernel)]; exact ⟨rfl, rfl⟩))
    (fun os started H enc _ F => lifted os started H enc F)
end confGetsProof
theorem confGetsUpto_holds : Rows.ConfGetsUptoSaid := confGetsProof.over
end Go.Proofs.Ytdjmhjgfjbcdkaa
