/- ConfRaw, walked (gen_cho.py). -/
import Derived.Test.YtdjmhjgfjbcdkaaU15
import Derived.Test.YtdjmhjgfjbcdkaaU09
set_option linter.unusedVariables false
set_option linter.unusedSimpArgs false
set_option linter.unusedVariables false
set_option linter.unusedSimpArgs false
namespace Go.Proofs.Ytdjmhjgfjbcdkaa
open Go.RowKit

theorem conv_any {W : World} {v : Value} {x : List UInt8} (h : BytesAt W v x) : (convert 50 9 v).run Try.prog W = .ok (.string ⟨x.toArray⟩) W := by
  obtain ⟨p, c, rfl, hp, hc, hr⟩ := h
  rcases Nat.eq_zero_or_pos x.length with h0 | h0
  · obtain rfl : x = [] := List.length_eq_zero_iff.1 h0
    cases p with
    | none =>
      have := hp rfl
      subst this
      exact conv_nil W
    | some a => exact run_convert_bytes_back W 50 9 5 a c [] Try.underlying50 Try.underlying5 Try.underlying9 (fun j hj => by simp at hj)
  · obtain ⟨b, o, rfl, hr2⟩ := hr h0
    exact conv_str b o c x W hr2
theorem wp_conv {P : Program} {op : Oper} {a : Act} {w : World} {K : Act → World → Prop} {Q : Exit → Act → World → Prop} (ft tt : TypeId) (x : Operand) (ho : op.op = .convert ft tt x) (xv v : Value) (hx : a.eval x = xv)
    (hc : (convert ft tt xv).run P w = .ok v w) (h : K (a.put op.dst v) w) : op.wp P a w K Q := by
  unfold Oper.wp execOp
  simp only [ho, hx, Sem.run_bind, hc, Result.andThen_ok]
  exact h
theorem row_of_blk {W : World} {g : Nat} {h : Int} {N F V : ByteArray} {c : Nat} (hc : 1 ≤ c) (hb : BlkAt W g 28 [.int .i64 h, .string N, .string F, .string V]) : RowsAt 4 lineVals W (.slice (some ⟨g, 0, none⟩) 1 c) [⟨h, N.data.toList, F.data.toList, V.data.toList⟩] :=
  ⟨_, _, rfl, (fun e => by cases e), hc, fun _ => ⟨g, 0, rfl, fun i x hx => by
    cases i with
    | zero =>
      simp at hx; subst hx
      rw [Nat.zero_mul, Nat.add_zero]
      exact hb.range
    | succ i => simp at hx⟩⟩

set_option maxRecDepth 100000 in
set_option maxHeartbeats 16000000 in
theorem confRaw_law (v : Value) (ls : List LineD) (d0 : Int) (w : World) (hv : Hid (RowsAt 4 lineVals w v ls)) (hl : ls.length ≤ 1000000000000) (hlt : Hid (LinesLt ls 8796093022000)) (hd0 : -9223372036854775808 ≤ d0) (hd0' : d0 ≤ 9223372036854775807) :
    Calls Try.prog 4 #[v, .int .i64 d0] w (lawEndG w) := by
  obtain ⟨p, c, rfl⟩ := hv.out.slice
  have hcap : ls.length ≤ c := by
    obtain ⟨p9, c9, e9, -, h9, -⟩ := hv.out
    injection e9 with e1 e2 e3
    subst e3; exact h9
  go_enter Try.func4, Try.ntmps4
  go_upto_region 1 with fail
  go_cut [0] (fun lv wx => (∃ L, lv = .slice p L.length c ∧ L.length ≤ 70 ∧ Hid (RowsAt 4 lineVals w (.slice p L.length c) L) ∧ Hid (LinesLt L 8796093022000)) ∧ wx = w)
  case first =>
    by_cases h70 : ls.length ≤ 70
    · have m1 : (ls.length : Int) ≤ 70 := by omega
      have m2 : (ls.length : Int) ≤ (c : Int) := by omega
      go_wp2_with fail
      go_meet
      case rel => exact ⟨⟨ls, by rw [show (min (ls.length : Int) 70).toNat = ls.length by omega], h70, hv, hlt⟩, rfl⟩
    · have m1 : ¬ (ls.length : Int) ≤ 70 := by omega
      have m2 : (70 : Int) ≤ (c : Int) := by omega
      have htk : (ls.take 70).length = 70 := by rw [List.length_take]; omega
      have hR := Lib.hid (hv.out.take 70 (by omega))
      have htk' := Lib.hid htk
      clear htk
      go_wp2_with fail
      go_meet
      case rel => exact ⟨⟨ls.take 70, by rw [htk'.out, show (min (ls.length : Int) 70).toNat = 70 by omega], by rw [htk'.out]; omega, by rw [htk'.out]; exact hR, Lib.hid (small_take hlt.out 70)⟩, rfl⟩
  case rest =>
    obtain ⟨⟨L, rfl, hL, hR, hlt1⟩, rfl⟩ := hcut
    have hlt2 := Lib.hid (small_mono hlt1.out (show 8796093022000 ≤ 9223372036854775807 by omega))
    clear hv hlt hcap hl
    go_wp2_with fail
    refine (to_any _ L _ hR (by omega)).mono ?_
    rintro e w1 ⟨p1, c1, rfl, hO1, k1⟩
    have hC1 := Lib.hid (hO1.at lineVals_len)
    have hR1 := Lib.hid (hR.out.keep k1)
    have hk1 := Lib.hid k1
    clear hO1 k1 hR
    go_wp2_with fail
    refine (put_any _ L _ hC1 (by omega) hlt2).mono ?_
    rintro e w2 ⟨p2, c2, rfl, hO2, k2⟩
    obtain ⟨x, ex, hx⟩ : ∃ x ex, putR L = (x, ex) := ⟨_, _, rfl⟩
    rw [hx] at hO2 ⊢
    simp only at hO2 ⊢
    have hx' := Lib.hid hx
    have hB2 := Lib.hid hO2.bytes
    have hC2 := Lib.hid (hC1.out.keep k2)
    have hR2 := Lib.hid (hR1.out.keep k2)
    have hk2 := Lib.hid (hk1.out.trans k2)
    clear hO2 k2 hC1 hR1 hk1 hx
    have hX : Hid (BlkAt (w2.alloc (.cells #[.int .i64 0, .string ⟨#[]⟩, .string ⟨#[]⟩, .string ⟨#[]⟩] 28)) w2.heap.size 28 [.int .i64 0, .string ⟨#[]⟩, .string ⟨#[]⟩, .string ⟨#[]⟩]) := Lib.hid (BlkAt.new _ _ _)
    have ka := Lib.hid (show Keeps (fun _ => False) w2 (w2.alloc (.cells #[.int .i64 0, .string ⟨#[]⟩, .string ⟨#[]⟩, .string ⟨#[]⟩] 28)) from (Keeps.refl _ _).alloc _)
    have hR3 := Lib.hid (hR2.out.keep ka.out)
    have hge := Lib.hid (Nat.le_refl w2.heap.size)
    go_upto_region 5 with ((with_reducible refine at_store 8 ?_); refine wpList_store_new rfl 28 (.tmp 8) (.tmp 27) rfl _ #[.int .i64 0, .string ⟨#[]⟩, .string ⟨#[]⟩, .string ⟨#[]⟩] rfl rfl line5InfoG rfl (line_one _ _ _ _) ?_)
    generalize w2.alloc (.cells #[.int .i64 0, .string ⟨#[]⟩, .string ⟨#[]⟩, .string ⟨#[]⟩] 28) = Wa at hX hR3 ka ⊢
    generalize hgxd : w2.heap.size = gx at hX ⊢
    rw [hgxd] at hge
    have hge2 : Hid (w2.heap.size ≤ gx) := Lib.hid (by rw [hgxd]; exact Nat.le_refl _)
    clear hgxd hge
    go_upto_if 30 with fail
    go_cut [8] (fun pv wx => (∃ h N F V, pv = .pointer (some ⟨gx, 0, none⟩) ∧ N.size ≤ 8796093022000 ∧ F.size ≤ 8796093022000 ∧ V.size ≤ 8796093022000 ∧ Hid (wx.rangeAt gx 0 [.int .i64 h, .string N, .string F, .string V])) ∧ Hid (Keeps (fun k => k = gx) Wa wx))
    case first =>
      by_cases h0 : 0 < L.length
      · obtain ⟨g, o, rfl, hrows⟩ := hR3.out.open h0
        obtain ⟨U, hU⟩ := u64_nata d0
        obtain ⟨kk, hkk, hkl⟩ : ∃ kk : Nat, (U : Int) % (L.length : Int) = kk ∧ kk < L.length := ⟨U % L.length, by omega, Nat.mod_lt _ h0⟩
        obtain ⟨q, hq⟩ : ∃ q, L[kk]? = some q := ⟨_, List.getElem?_eq_getElem hkl⟩
        have hsz := hlt1.out q (List.mem_of_getElem? hq)
        obtain ⟨N, hN⟩ : ∃ N : ByteArray, N = ⟨q.name.toArray⟩ := ⟨_, rfl⟩
        obtain ⟨F, hF⟩ : ∃ N : ByteArray, N = ⟨q.leaf.toArray⟩ := ⟨_, rfl⟩
        obtain ⟨V, hV⟩ : ∃ N : ByteArray, N = ⟨q.value.toArray⟩ := ⟨_, rfl⟩
        have sN : N.size ≤ 8796093022000 := by rw [hN]; exact hsz.1
        have sF : F.size ≤ 8796093022000 := by rw [hF]; exact hsz.2.1
        have sV : V.size ≤ 8796093022000 := by rw [hV]; exact hsz.2.2
        have hrow : Hid (Wa.rangeAt g (o + kk * 4) [.int .i64 q.head, .string N, .string F, .string V]) := Lib.hid (by rw [hN, hF, hV]; exact hrows kk q hq)
        have hnz : ¬ (L.length : Int) = 0 := by omega
        have hkli : (kk : Int) < L.length := by omega
        have h0i : (0 : Int) < L.length := by omega
        clear hrows hN hF hV hq hsz
        go_wp2_with (first | ((with_reducible refine at_slot 40 ?_); refine wpList_load_mid rfl 28 (.tmp 39) rfl g (o + kk * 4) rfl [.int .i64 q.head, .string N, .string F, .string V] _ hrow.out Try.underlying28 rfl line5InfoG ?_) | ((with_reducible refine at_store 8 ?_); refine wpList_store_blk rfl 28 (.tmp 8) (.tmp 40) rfl gx #[.int .i64 q.head, .string N, .string F, .string V] rfl rfl (hX.out.there 0 4 (by decide)) line5InfoG (line_one _ _ _ _) ?_; intro w9 hr9 hs9))
        go_meet
        case rel => exact ⟨⟨q.head, N, F, V, rfl, sN, sF, sV, hr9⟩, hs9⟩
      · have h0i : ¬ (0 : Int) < L.length := by omega
        go_wp2_with fail
        go_meet
        case rel => exact ⟨⟨0, ⟨#[]⟩, ⟨#[]⟩, ⟨#[]⟩, rfl, by decide, by decide, by decide, Lib.hid hX.out.range⟩, Lib.hid (Keeps.refl _ _)⟩
    case rest =>
      obtain ⟨⟨h, N, F, V, rfl, sN, sF, sV, hXc⟩, hKc⟩ := hcut
      have hk2c := Lib.hid (ka.out.trans' hKc.out (fun i e => .inr (by rw [e]; exact hge2.out)))
      have hCc := Lib.hid (hC2.out.keep hk2c.out)
      have hRc := Lib.hid (hR2.out.keep hk2c.out)
      have hBc := Lib.hid (hB2.out.keep hk2c.out)
      have hkc := Lib.hid (hk2.out.trans hk2c.out)
      clear hX hR3 ka hKc hk2c hC2 hR2 hB2 hk2 hge2
      have e0 := rangeAt_cell hXc.out 0 _ rfl
      have e1 := rangeAt_cell hXc.out 1 _ rfl
      have e2 := rangeAt_cell hXc.out 2 _ rfl
      obtain ⟨D, de, hD⟩ : ∃ D de, delW h N.data.toList F.data.toList L = (D, de) := ⟨_, _, rfl⟩
      have hD' := Lib.hid hD
      clear hD
      go_wp2_with fail
      refine (del_w _ L h N F _ hCc (by omega) hlt1).mono ?_
      rintro e w3 hp3
      rw [hD'.out] at hp3
      obtain ⟨p3, c3, rfl, -, k3⟩ := hp3
      simp only
      have hX3 := Lib.hid (k3.rangeAt hXc.out id)
      have hC3 := Lib.hid (hCc.out.keep k3)
      have hR3 := Lib.hid (hRc.out.keep k3)
      have hB3 := Lib.hid (hBc.out.keep k3)
      have hk3 := Lib.hid (hkc.out.trans k3)
      clear k3 e0 e1 e2 hXc hCc hRc hBc hkc
      have e0 := rangeAt_cell hX3.out 0 _ rfl
      have e1 := rangeAt_cell hX3.out 1 _ rfl
      have e2 := rangeAt_cell hX3.out 2 _ rfl
      go_wp2_with fail
      refine (rDel_w _ L h N F _ hR3 (by omega) hlt1).mono ?_
      rintro e w4 hp4
      rw [hD'.out] at hp4
      obtain ⟨p4, c4, rfl, -, k4⟩ := hp4
      simp only
      have hX4 := Lib.hid (k4.rangeAt hX3.out id)
      have hC4 := Lib.hid (hC3.out.keep k4)
      have hR4 := Lib.hid (hR3.out.keep k4)
      have hB4 := Lib.hid (hB3.out.keep k4)
      have hk4 := Lib.hid (hk3.out.trans k4)
      clear k4 e0 e1 e2 hX3 hC3 hR3 hB3 hk3 hD'
      obtain ⟨z, hz0⟩ : ∃ z, rightC L = z := ⟨_, rfl⟩
      have hz := Lib.hid hz0
      obtain ⟨T, hT0⟩ : ∃ T : ByteArray, T = ⟨(textW L).toArray⟩ := ⟨_, rfl⟩
      have hT := Lib.hid hT0
      obtain ⟨V2, hV0⟩ : ∃ T : ByteArray, T = ⟨(valueW L h N.data.toList F.data.toList).toArray⟩ := ⟨_, rfl⟩
      have hV2 := Lib.hid hV0
      obtain ⟨rl, hrl0⟩ : ∃ r, lessB ⟨h, N.data.toList, F.data.toList, V.data.toList⟩ ⟨0, (⟨#[]⟩ : ByteArray).data.toList, (⟨#[]⟩ : ByteArray).data.toList, (⟨#[]⟩ : ByteArray).data.toList⟩ = r := ⟨_, rfl⟩
      have hrl := Lib.hid hrl0
      clear hz0 hT0 hV0 hrl0
      go_upto_region 9 with fail
      refine wp_region_noPanic ?_
      refine wp_region_held_drew (S := (fun W => Keeps (fun _ => False) w4 W)) (by kernel_rfl) (((Keeps.refl _ _).drew)) (fun hHeld => ?_)
      refine stepL 0 rfl (by kernel_rfl) (fun K hK => ?_)
      go_simp
      (refine (writes_any _).mono ?_; rintro e wa ⟨rfl, ka⟩; have ka' := Lib.hid ka; clear ka)
      go_wp2_with fail
      refine hK.out _ _ ((hHeld.trans ka'.out)) (fun hHeld => ?_)
      clear hK K
      try simp only [Act.put, sA, sZ, sS]
      refine tk 1 rfl ?_
      refine tk 2 rfl ?_
      refine tk 3 rfl ?_
      refine tk 5 rfl ?_
      refine stepL 4 rfl (by kernel_rfl) (fun K hK => ?_)
      go_simp
      (refine (right_c _ L z _ (Lib.hid (hC4.out.keep hHeld).lines) (by omega) hlt2 hz).mono ?_; rintro e wb ⟨rfl, kb⟩; have kb' := Lib.hid kb; clear kb)
      go_wp2_with fail
      refine hK.out _ _ ((hHeld.trans kb'.out)) (fun hHeld => ?_)
      clear hK K
      try simp only [Act.put, sA, sZ, sS]
      refine stepL 6 rfl (by kernel_rfl) (fun K hK => ?_)
      go_simp
      (refine (rRight_c _ L z _ (Lib.hid (hR4.out.keep hHeld).lines) (by omega) hlt1 hz).mono ?_; rintro e wd ⟨rfl, kd⟩; have kd' := Lib.hid kd; clear kd)
      go_wp2_with fail
      refine hK.out _ _ ((hHeld.trans kd'.out)) (fun hHeld => ?_)
      clear hK K
      try simp only [Act.put, sA, sZ, sS]
      refine tk 7 rfl ?_
      refine tk 8 rfl ?_
      refine tk 9 rfl ?_
      refine tk 10 rfl ?_
      refine tk 12 rfl ?_
      refine stepL 11 rfl (by kernel_rfl) (fun K hK => ?_)
      go_simp
      (refine (text_w _ L T _ (Lib.hid (hC4.out.keep hHeld)) (by omega) hlt1 hT).mono ?_; rintro e wf ⟨rfl, kf⟩; have kf' := Lib.hid kf; clear kf)
      go_wp2_with fail
      refine hK.out _ _ ((hHeld.trans kf'.out)) (fun hHeld => ?_)
      clear hK K
      try simp only [Act.put, sA, sZ, sS]
      refine stepL 13 rfl (by kernel_rfl) (fun K hK => ?_)
      go_simp
      (refine (rText_w _ L T _ (Lib.hid (hR4.out.keep hHeld)) (by omega) hlt1 hT).mono ?_; rintro e wg ⟨rfl, kg⟩; have kg' := Lib.hid kg; clear kg)
      go_wp2_with fail
      refine hK.out _ _ ((hHeld.trans kg'.out)) (fun hHeld => ?_)
      clear hK K
      try simp only [Act.put, sA, sZ, sS]
      refine tk 14 rfl ?_
      refine tk 15 rfl ?_
      refine tk 16 rfl ?_
      refine tk 17 rfl ?_
      refine tk 18 rfl ?_
      refine tk 19 rfl ?_
      refine tk 20 rfl ?_
      refine tk 21 rfl ?_
      refine tk 22 rfl ?_
      refine tk 23 rfl ?_
      refine tkL 24 rfl (yieldsIf_load_cell (by rfl) 3 (.tmp 86) rfl gx 0 rfl _ (fun _ s => s.rangeAt hX4.out id 0 _ rfl) (fun w s => load_int w _ _ _ s)) ?_
      refine tk 25 rfl ?_
      refine tkL 26 rfl (yieldsIf_load_cell (by rfl) 9 (.tmp 88) rfl gx 1 rfl _ (fun _ s => s.rangeAt hX4.out id 1 _ rfl) (fun w s => load_str w _ _ _ s)) ?_
      refine tk 27 rfl ?_
      refine tkL 28 rfl (yieldsIf_load_cell (by rfl) 9 (.tmp 90) rfl gx 2 rfl _ (fun _ s => s.rangeAt hX4.out id 2 _ rfl) (fun w s => load_str w _ _ _ s)) ?_
      refine tk 30 rfl ?_
      refine tk 31 rfl ?_
      refine tkL 32 rfl (yieldsIf_load_cell (by rfl) 3 (.tmp 94) rfl gx 0 rfl _ (fun _ s => s.rangeAt hX4.out id 0 _ rfl) (fun w s => load_int w _ _ _ s)) ?_
      refine tk 33 rfl ?_
      refine tkL 34 rfl (yieldsIf_load_cell (by rfl) 9 (.tmp 96) rfl gx 1 rfl _ (fun _ s => s.rangeAt hX4.out id 1 _ rfl) (fun w s => load_str w _ _ _ s)) ?_
      refine tk 35 rfl ?_
      refine tkL 36 rfl (yieldsIf_load_cell (by rfl) 9 (.tmp 98) rfl gx 2 rfl _ (fun _ s => s.rangeAt hX4.out id 2 _ rfl) (fun w s => load_str w _ _ _ s)) ?_
      refine stepL 29 rfl (by kernel_rfl) (fun K hK => ?_)
      go_simp
      (refine (value_w _ L h N F V2 _ (Lib.hid (hC4.out.keep hHeld)) (by omega) hlt1 hV2).mono ?_; rintro e wh ⟨rfl, kh⟩; have kh' := Lib.hid kh; clear kh)
      go_wp2_with fail
      refine hK.out _ _ ((hHeld.trans kh'.out)) (fun hHeld => ?_)
      clear hK K
      try simp only [Act.put, sA, sZ, sS]
      refine stepL 37 rfl (by kernel_rfl) (fun K hK => ?_)
      go_simp
      (refine (rValue_w _ L h N F V2 _ (Lib.hid (hR4.out.keep hHeld)) (by omega) hlt1 hV2).mono ?_; rintro e wv ⟨rfl, kv⟩; have kv' := Lib.hid kv; clear kv)
      go_wp2_with fail
      refine hK.out _ _ ((hHeld.trans kv'.out)) (fun hHeld => ?_)
      clear hK K
      try simp only [Act.put, sA, sZ, sS]
      refine tk 38 rfl ?_
      refine tk 39 rfl ?_
      refine tk 40 rfl ?_
      refine tk 46 rfl ?_
      refine tk 49 rfl ?_
      refine tkL 41 rfl (yieldsIf_load_mid (by rfl) 28 (.tmp 8) rfl gx 0 rfl [.int .i64 h, .string N, .string F, .string V] _ (fun _ s => s.rangeAt hX4.out id) Try.underlying28 rfl line5InfoG) ?_
      refine tkL 48 rfl (yieldsIf_load_mid (by rfl) 28 (.tmp 8) rfl gx 0 rfl [.int .i64 h, .string N, .string F, .string V] _ (fun _ s => s.rangeAt hX4.out id) Try.underlying28 rfl line5InfoG) ?_
      have hone := Lib.hid (row_of_blk (Nat.le_refl 1) (BlkAt.new wv 28 [.int .i64 h, .string N, .string F, .string V]))
      refine stepL 42 rfl (by kernel_rfl) (fun K hK => ?_)
      go_simp
      refine hK.out _ _ ((hHeld.alloc _)) (fun hHeld => ?_)
      clear hK K
      try simp only [Act.put, sA, sZ, sS]
      refine stepL 43 rfl (by kernel_rfl) (fun K hK => ?_)
      go_simp
      (refine (to_any _ [⟨h, N.data.toList, F.data.toList, V.data.toList⟩] _ hone (by simp)).mono ?_; rintro e wt ⟨pt, ct, rfl, hOt, kt⟩; have hRt := hOt.at lineVals_len; have kt' := Lib.hid kt; obtain ⟨gt, ot, rfl, hrt⟩ := hRt.open (by simp); have hrt' := Lib.hid (hrt 0 _ rfl); clear kt hOt hRt hrt)
      go_wp2_with fail
      refine hK.out _ _ ((hHeld.trans kt'.out)) (fun hHeld => ?_)
      clear hK K
      try simp only [Act.put, sA, sZ, sS]
      refine tk 44 rfl ?_
      refine stepL 45 rfl (by kernel_rfl) (fun K hK => ?_)
      rw [if_pos (by rfl)]
      (refine wp_load_mid 36 (.tmp 107) rfl gt ot rfl [.int .i64 h, .string N, .string F, .string V] _ (by have := hrt'.out; rw [Nat.zero_mul, Nat.add_zero] at this; exact this) Try.underlying36 rfl lineInfo ?_)
      refine hK.out _ _ (hHeld) (fun hHeld => ?_)
      clear hK K
      try simp only [Act.put, sA, sZ, sS]
      refine stepL 47 rfl (by kernel_rfl) (fun K hK => ?_)
      go_simp
      (refine (less_any h 0 N F V ⟨#[]⟩ ⟨#[]⟩ ⟨#[]⟩ rl _ hrl).mono ?_; rintro e wl ⟨rfl, kl⟩; have kl' := Lib.hid kl; clear kl)
      go_wp2_with fail
      refine hK.out _ _ ((hHeld.trans kl'.out)) (fun hHeld => ?_)
      clear hK K
      try simp only [Act.put, sA, sZ, sS]
      refine stepL 50 rfl (by kernel_rfl) (fun K hK => ?_)
      go_simp
      (refine (rLess_any h 0 N F V ⟨#[]⟩ ⟨#[]⟩ ⟨#[]⟩ rl _ hrl).mono ?_; rintro e wm ⟨rfl, km⟩; have km' := Lib.hid km; clear km)
      go_wp2_with fail
      refine hK.out _ _ ((hHeld.trans km'.out)) (fun hHeld => ?_)
      clear hK K
      try simp only [Act.put, sA, sZ, sS]
      refine tk 51 rfl ?_
      refine tk 52 rfl ?_
      refine wpAnyH_done (by kernel_rfl) (NoPanic.normal ?_) _
      have hC5 := Lib.hid (hC4.out.keep hHeld)
      have hR5 := Lib.hid (hR4.out.keep hHeld)
      have hB5 := Lib.hid (hB4.out.keep hHeld)
      have hk5 := Lib.hid (hk4.out.trans hHeld)
      clear hHeld hC4 hR4 hB4 hk4 hX4 hone hrt' hT hV2 hrl ka' kb' kd' kf' kg' kh' kv' kt' kl' km'
      go_wp2_with fail
      refine (rRight_c _ L z _ (Lib.hid hR5.out.lines) (by omega) hlt1 hz).mono ?_
      rintro e w5 ⟨rfl, k5⟩
      have hC6 := Lib.hid (hC5.out.keep k5)
      have hR6 := Lib.hid (hR5.out.keep k5)
      have hB6 := Lib.hid (hB5.out.keep k5)
      have hk6 := Lib.hid (hk5.out.trans k5)
      clear k5 hC5 hR5 hB5 hk5
      cases z with
      | false =>
        have hxe : x = [] ∧ ex = 1 := by
          have h1 := hx'.out
          unfold putR at h1
          rw [if_neg (by rw [hz.out]; simp)] at h1
          injection h1 with h1 h2
          exact ⟨h1.symm, h2.symm⟩
        obtain ⟨rfl, rfl⟩ := hxe
        clear hx'
        go_wp2_with fail
        go_ret
        exact ⟨rfl, hk6.out⟩
      | true =>
        have hxe : putAll L = x ∧ ex = 0 := by
          have h1 := hx'.out
          unfold putR at h1
          rw [if_pos hz.out] at h1
          injection h1 with h1 h2
          exact ⟨h1, h2.symm⟩
        obtain ⟨hxL, rfl⟩ := hxe
        have hans : ansC x = (L, 0) := by rw [← hxL]; exact ans_put hz.out
        have hxl : x.length ≤ 20000 := by
          have h1 := putAll_len (ls := L) (fun q hq => line_small (right_line hz.out q hq))
          have h2 := right_len hz.out
          rw [hxL] at h1
          omega
        have hxL' := Lib.hid hxL
        have hans' := Lib.hid hans
        clear hx' hxL hans
        go_wp2_with fail
        refine (get_any _ x _ hB6 (by omega)).mono ?_
        rintro e w6 hp6
        rw [hans'.out] at hp6
        obtain ⟨p6, c6, rfl, hG6, k6⟩ := hp6
        simp only at hG6 ⊢
        have hG7 := Lib.hid hG6
        have hC7 := Lib.hid (hC6.out.keep k6)
        have hR7 := Lib.hid (hR6.out.keep k6)
        have hB7 := Lib.hid (hB6.out.keep k6)
        have hk7 := Lib.hid (hk6.out.trans k6)
        clear k6 hG6 hC6 hR6 hB6 hk6
        obtain ⟨S, hS0⟩ : ∃ S : ByteArray, (⟨x.toArray⟩ : ByteArray) = S := ⟨_, rfl⟩
        have hS := Lib.hid hS0
        clear hS0
        go_upto_region 14 with fail
        refine wp_region_noPanic ?_
        refine wp_region_held_drew (S := (fun W => Keeps (fun _ => False) w6 W)) (by kernel_rfl) (((Keeps.refl _ _).drew)) (fun hHeld => ?_)
        refine tk 0 rfl ?_
        refine tk 1 rfl ?_
        refine tk 2 rfl ?_
        refine tk 3 rfl ?_
        refine tkL 4 rfl (yieldsIf_conv (by rfl) 50 9 (.tmp 134) rfl _ (.string S) rfl (fun W' s => by rw [← hS.out]; exact conv_any (hB7.out.keep s))) ?_
        refine tk 5 rfl ?_
        refine stepL 6 rfl (by kernel_rfl) (fun K hK => ?_)
        go_simp
        (refine (rPut_c _ L _ (Lib.hid (hR7.out.keep hHeld)) hz).mono ?_; rintro e wa ⟨pa, ca, rfl, hOa, ka⟩; rw [hxL'.out] at hOa ⊢; have hBa := Lib.hid hOa.bytes; have ka' := Lib.hid ka; clear ka hOa)
        go_wp2_with fail
        refine hK.out _ _ ((hHeld.trans ka'.out)) (fun hHeld => ?_)
        clear hK K
        try simp only [Act.put, sA, sZ, sS]
        refine stepL 7 rfl (by kernel_rfl) (fun K hK => ?_)
        rw [if_pos (by rfl)]
        (refine wp_conv 50 9 (.tmp 137) rfl _ (.string S) rfl (by rw [← hS.out]; exact conv_any hBa.out) ?_)
        refine hK.out _ _ (hHeld) (fun hHeld => ?_)
        clear hK K
        try simp only [Act.put, sA, sZ, sS]
        refine tk 8 rfl ?_
        refine tk 9 rfl ?_
        refine tk 10 rfl ?_
        refine tk 11 rfl ?_
        refine tk 12 rfl ?_
        refine tk 13 rfl ?_
        refine tk 14 rfl ?_
        refine tk 15 rfl ?_
        refine tk 16 rfl ?_
        refine stepL 17 rfl (by kernel_rfl) (fun K hK => ?_)
        go_simp
        (refine (same_c _ _ L L true _ (Lib.hid (hG7.out.keep hHeld)) (Lib.hid (hC7.out.keep hHeld)) hz hz (Lib.hid (by simp))).mono ?_; rintro e wb ⟨rfl, kb⟩; have kb' := Lib.hid kb; clear kb)
        go_wp2_with fail
        refine hK.out _ _ ((hHeld.trans kb'.out)) (fun hHeld => ?_)
        clear hK K
        try simp only [Act.put, sA, sZ, sS]
        refine tk 18 rfl ?_
        refine tk 19 rfl ?_
        refine tk 20 rfl ?_
        refine tk 22 rfl ?_
        refine stepL 21 rfl (by kernel_rfl) (fun K hK => ?_)
        go_simp
        (refine (from_any _ L _ (Lib.hid (hG7.out.keep hHeld)) (by omega)).mono ?_; rintro e wd ⟨pd, cd, rfl, hOd, kd⟩; have hRd := Lib.hid (hOd.at lineVals_len); have kd' := Lib.hid kd; clear kd hOd)
        go_wp2_with fail
        refine hK.out _ _ ((hHeld.trans kd'.out)) (fun hHeld => ?_)
        clear hK K
        try simp only [Act.put, sA, sZ, sS]
        refine stepL 23 rfl (by kernel_rfl) (fun K hK => ?_)
        go_simp
        (refine (rSame_c _ _ L L true _ hRd (Lib.hid (hR7.out.keep hHeld)) (by omega) (by omega) (Lib.hid (by simp))).mono ?_; rintro e we ⟨rfl, ke⟩; have ke' := Lib.hid ke; clear ke)
        go_wp2_with fail
        refine hK.out _ _ ((hHeld.trans ke'.out)) (fun hHeld => ?_)
        clear hK K
        try simp only [Act.put, sA, sZ, sS]
        refine tk 24 rfl ?_
        refine tk 25 rfl ?_
        refine wpAnyH_done (by kernel_rfl) (NoPanic.normal ?_) _
        have hk8 := Lib.hid (hk7.out.trans hHeld)
        clear hHeld
        go_wp2_with fail
        go_ret
        exact ⟨rfl, hk8.out⟩
end Go.Proofs.Ytdjmhjgfjbcdkaa
/- ConfSteps' walk (gen_cgk.py). -/
set_option linter.unusedVariables false
set_option linter.unusedSimpArgs false
namespace Go.Proofs.Ytdjmhjgfjbcdkaa
open Go.RowKit

theorem rows_one {t : TypeId} (W : World) (l : LineD) (cs : List Value) (hc : cs = lineVals l) : RowsAt 4 lineVals (W.alloc (.cells cs.toArray t)) (.slice (some ⟨W.heap.size, 0, none⟩) 1 1) [l] := by
  subst hc
  refine ⟨_, 1, rfl, fun h => (by cases h), Nat.le_refl _, fun _ => ⟨W.heap.size, 0, rfl, fun i x hx => ?_⟩⟩
  cases i with
  | zero => simp at hx; subst hx; rw [Nat.zero_mul, Nat.add_zero]; exact new_rangeb W _ t
  | succ i => simp at hx
theorem LinesLt.mono {ls : List LineD} {m n : Nat} (h : LinesLt ls m) (hmn : m ≤ n) : LinesLt ls n := fun l hl => by have := h l hl; omega
def lawEndS (w : World) (e : Ending) (w' : World) : Prop := e = .returned (.bool true) ∧ Keeps (fun _ => False) w w'

set_option maxRecDepth 100000 in
set_option maxHeartbeats 16000000 in
theorem confSteps_law (v : Value) (ls : List LineD) (h : Int) (N F V : ByteArray) (w : World) (hv : Hid (RowsAt 4 lineVals w v ls)) (hl : ls.length ≤ 1000000000000) (hlt : Hid (LinesLt ls 8796093022000)) (hn : N.size ≤ 8796093022000) (hvs : V.size ≤ 8796093022000) :
    Calls Try.prog 6 #[v, .agg #[.int .i64 h, .string N, .string F, .string V]] w (lawEndS w) := by
  obtain ⟨p, c, rfl⟩ := hv.out.slice
  have hB : Hid (BlkAt (w.alloc (.cells #[.int .i64 h, .string N, .string F, .string V] 28)) w.heap.size 28 [.int .i64 h, .string N, .string F, .string V]) := Lib.hid (BlkAt.new _ _ _)
  have hK0 : Hid (Keeps (fun _ => False) w (w.alloc (.cells #[.int .i64 h, .string N, .string F, .string V] 28))) := Lib.hid ((Keeps.refl _ _).alloc _)
  go_enter Try.func6, Try.ntmps6
  go_upto_region 1 with fail
  generalize w.alloc (.cells #[.int .i64 h, .string N, .string F, .string V] 28) = w1 at hB hK0 ⊢
  generalize hgb : w.heap.size = gb at hB ⊢
  clear hgb
  go_wp2_with fail
  refine (build_any _ ls w1 (Lib.hid (hv.out.keep hK0.out)) hl hlt).mono ?_
  rintro e w2 ⟨q2, d2, rfl, hO2, k2⟩
  have hR2 := Lib.hid (hO2.at lineVals_len)
  have hr := Lib.hid (build_right ls)
  generalize buildC ls = B at hR2 hr ⊢
  have hlen := right_len hr.out
  have hBlt := Lib.hid (right_lt hr.out 8796093022000 (by omega))
  have hBlt2 := Lib.hid (hBlt.out.mono (n := 9223372036854775807) (by omega))
  have hK2 := Lib.hid (hK0.out.trans k2)
  have hB2 := Lib.hid (hB.out.keep k2 id)
  clear hO2 k2 hv hlt hl hK0 hB
  go_wp2_with fail
  refine (to_any _ B w2 hR2 (by omega)).mono ?_
  rintro e w3 ⟨q3, d3, rfl, hO3, k3⟩
  have hR3 := Lib.hid (hO3.at lineVals_len)
  have hK3 := Lib.hid (hK2.out.trans k3)
  have hB3 := Lib.hid (hB2.out.keep k3 id)
  clear hO3 k3 hR2 hK2 hB2
  go_wp2_with ((with_reducible refine at_slot 20 ?_); refine wpList_load_mid rfl 28 (.tmp 3) rfl gb 0 rfl [.int .i64 h, .string N, .string F, .string V] _ hB3.out.range Try.underlying28 rfl line5InfoG ?_)
  have hone4 : Hid (RowsAt 4 lineVals (w3.alloc (.cells #[.int .i64 h, .string N, .string F, .string V] 28)) (.slice (some ⟨w3.heap.size, 0, none⟩) 1 1) [(⟨h, N.data.toList, F.data.toList, V.data.toList⟩ : LineD)]) := Lib.hid (rows_one w3 ⟨h, N.data.toList, F.data.toList, V.data.toList⟩ [.int .i64 h, .string N, .string F, .string V] rfl)
  refine (to_any _ [(⟨h, N.data.toList, F.data.toList, V.data.toList⟩ : LineD)] _ hone4 (by simp)).mono ?_
  rintro e w4a ⟨q4a, d4a, rfl, hO4a, k4a⟩
  have k4 := Lib.hid ((((Keeps.refl (fun _ => False) w3).alloc (.cells #[.int .i64 h, .string N, .string F, .string V] 28)).trans k4a))
  obtain ⟨g4, o4, rfl, hrw4⟩ := (hO4a.at lineVals_len).open (by simp)
  have hrow4 : Hid (w4a.rangeAt g4 o4 [.int .i64 h, .string N, .string F, .string V]) := Lib.hid (by have := hrw4 0 _ rfl; rw [Nat.zero_mul, Nat.add_zero] at this; exact this)
  have hK4 := Lib.hid (hK3.out.trans k4.out)
  have hB4 := Lib.hid (hB3.out.keep k4.out id)
  have hR4 := Lib.hid (hR3.out.keep k4.out)
  clear hO4a k4a hrw4 hone4 k4
  go_wp2_with ((with_reducible refine at_slot 24 ?_); refine wpList_load_mid rfl 36 (.tmp 23) rfl g4 o4 rfl [.int .i64 h, .string N, .string F, .string V] _ hrow4.out Try.underlying36 rfl lineInfo ?_)
  cases hz : lineB ⟨h, N.data.toList, F.data.toList, V.data.toList⟩ with
  | false =>
    have hz' := Lib.hid hz; clear hz
    refine (set_no _ B h N F V _ hR4 hBlt2 (by omega) (by omega) hr hz' hlen).mono ?_
    rintro e w5 ⟨rfl, k5⟩
    have hK5 := Lib.hid (hK4.out.trans k5)
    have hB5 := Lib.hid (hB4.out.keep k5 id)
    clear k5
    go_wp2_with ((with_reducible refine at_slot 28 ?_); refine wpList_load_mid rfl 28 (.tmp 3) rfl gb 0 rfl [.int .i64 h, .string N, .string F, .string V] _ hB5.out.range Try.underlying28 rfl line5InfoG ?_)
    refine (rRightLine_any h N F V false _ hn hvs hz').mono ?_
    rintro e w6 ⟨rfl, k6⟩
    have hK6 := Lib.hid (hK5.out.trans k6)
    have hB6 := Lib.hid (hB5.out.keep k6 id)
    clear k6
    go_wp2_with fail
    refine (writes_any _).mono ?_
    rintro e w7 ⟨rfl, k7⟩
    have hK7 := Lib.hid (hK6.out.trans k7)
    have hB7 := Lib.hid (hB6.out.keep k7 id)
    clear k7
    go_wp2_with fail
    go_ret
    exact ⟨rfl, hK7.out⟩
  | true =>
    have hz' := Lib.hid hz; clear hz
    by_cases hfull : thereB ⟨h, N.data.toList, F.data.toList, V.data.toList⟩ B = false ∧ B.length = 64
    · have hf1 := Lib.hid hfull.1; have hf2 := Lib.hid hfull.2
      clear hfull
      refine (set_full _ B h N F V _ hR4 hBlt2 (by omega) (by omega) hr hz' hf1 hf2).mono ?_
      rintro e w5 ⟨rfl, k5⟩
      have hK5 := Lib.hid (hK4.out.trans k5)
      have hB5 := Lib.hid (hB4.out.keep k5 id)
      have hR5 := Lib.hid (hR4.out.keep k5)
      clear k5
      go_wp2_with ((with_reducible refine at_slot 28 ?_); refine wpList_load_mid rfl 28 (.tmp 3) rfl gb 0 rfl [.int .i64 h, .string N, .string F, .string V] _ hB5.out.range Try.underlying28 rfl line5InfoG ?_)
      refine (rRightLine_any h N F V true _ hn hvs hz').mono ?_
      rintro e w6 ⟨rfl, k6⟩
      have hK6 := Lib.hid (hK5.out.trans k6)
      have hB6 := Lib.hid (hB5.out.keep k6 id)
      clear k6
      go_wp2_with fail
      refine (writes_any _).mono ?_
      rintro e w7 ⟨rfl, k7⟩
      have hK7 := Lib.hid (hK6.out.trans k7)
      have hB7 := Lib.hid (hB6.out.keep k7 id)
      clear k7
      have hb64 : ((B.length : Int) == 64) = true := by have := hf2.out; simp; omega
      go_wp2_with fail
      go_ret
      exact ⟨rfl, hK7.out⟩
    · obtain ⟨zt, hzt⟩ : ∃ b, thereB ⟨h, N.data.toList, F.data.toList, V.data.toList⟩ B = b := ⟨_, rfl⟩
      have hzt' := Lib.hid hzt
      have hroom : zt = false → B.length < 64 := fun e => by subst e; exact Nat.lt_of_le_of_ne hlen (fun e => hfull ⟨hzt, e⟩)
      have hxl : Hid (lineB (⟨h, N.data.toList, F.data.toList, V.data.toList⟩ : LineD) = true) := hz'
      obtain ⟨x, hxe⟩ : ∃ x : LineD, x = ⟨h, N.data.toList, F.data.toList, V.data.toList⟩ := ⟨_, rfl⟩
      have hxe' := Lib.hid hxe
      have hDlen : (setC x B).length ≤ 64 := by
        rw [hxe, setC_len]
        cases zt with
        | true => rw [if_pos hzt]; omega
        | false => have := hroom rfl; split <;> omega
      have hDr := Lib.hid (right_setC (x := x) hr.out (by rw [hxe]; exact hz'.out) hDlen)
      have hDB := Lib.hid (show ∀ q ∈ B, ¬ (q.head = x.head ∧ q.name = x.name ∧ q.leaf = x.leaf) → q ∈ setC x B from fun q hq hk => mem_other hq hk)
      have hDm := Lib.hid (mem_self x B)
      have hDa := Lib.hid (setC_again (x := x) (right_rises hr.out))
      clear hfull hzt
      refine (set_ok _ B h N F V zt _ hR4 hBlt2 (by omega) (by omega) hr hz' hzt' hlen hroom).mono ?_
      rintro e w5 ⟨q5, d5, rfl, hO5, k5⟩
      have hK5 := Lib.hid (hK4.out.trans k5)
      have hB5 := Lib.hid (hB4.out.keep k5 id)
      have hC5 := Lib.hid (hR4.out.keep k5)
      rw [← hxe] at hO5 ⊢
      clear hxe
      have hR5 := Lib.hid (hO5.at lineVals_len)
      generalize setC x B = D at hR5 hDr hDB hDm hDa hDlen ⊢
      clear hO5 k5 hroom
      have hDlt := Lib.hid (right_lt hDr.out 9223372036854775807 (by omega))
      have hDthere : Hid (thereB ⟨h, N.data.toList, F.data.toList, V.data.toList⟩ D = true) := Lib.hid (by rw [← hxe'.out]; exact there_at (right_rises hDr.out) hDm.out)
      go_wp2_with ((with_reducible refine at_slot 28 ?_); refine wpList_load_mid rfl 28 (.tmp 3) rfl gb 0 rfl [.int .i64 h, .string N, .string F, .string V] _ hB5.out.range Try.underlying28 rfl line5InfoG ?_)
      refine (rRightLine_any h N F V true _ hn hvs hz').mono ?_
      rintro e w6 ⟨rfl, k6⟩
      have hK6 := Lib.hid (hK5.out.trans k6)
      have hB6 := Lib.hid (hB5.out.keep k6 id)
      have hR6 := Lib.hid (hR5.out.keep k6)
      have hC6 := Lib.hid (hC5.out.keep k6)
      clear k6 hR5 hC5 hK5 hB5
      go_wp2_with ((with_reducible refine at_slot 51 ?_); refine wpList_load_mid rfl 28 (.tmp 3) rfl gb 0 rfl [.int .i64 h, .string N, .string F, .string V] _ hB6.out.range Try.underlying28 rfl line5InfoG ?_)
      have hone7 : Hid (RowsAt 4 lineVals (w6.alloc (.cells #[.int .i64 h, .string N, .string F, .string V] 28)) (.slice (some ⟨w6.heap.size, 0, none⟩) 1 1) [(⟨h, N.data.toList, F.data.toList, V.data.toList⟩ : LineD)]) := Lib.hid (rows_one w6 ⟨h, N.data.toList, F.data.toList, V.data.toList⟩ [.int .i64 h, .string N, .string F, .string V] rfl)
      refine (to_any _ [(⟨h, N.data.toList, F.data.toList, V.data.toList⟩ : LineD)] _ hone7 (by simp)).mono ?_
      rintro e w7a ⟨q7a, d7a, rfl, hO7a, k7a⟩
      have k7 := Lib.hid ((((Keeps.refl (fun _ => False) w6).alloc (.cells #[.int .i64 h, .string N, .string F, .string V] 28)).trans k7a))
      obtain ⟨g7, o7, rfl, hrw7⟩ := (hO7a.at lineVals_len).open (by simp)
      have hrow7 : Hid (w7a.rangeAt g7 o7 [.int .i64 h, .string N, .string F, .string V]) := Lib.hid (by have := hrw7 0 _ rfl; rw [Nat.zero_mul, Nat.add_zero] at this; exact this)
      have hK7 := Lib.hid (hK6.out.trans k7.out)
      have hB7 := Lib.hid (hB6.out.keep k7.out id)
      have hR7 := Lib.hid (hR6.out.keep k7.out)
      have hC7 := Lib.hid (hC6.out.keep k7.out)
      clear hO7a k7a hrw7 hone7 k7
      go_wp2_with ((with_reducible refine at_slot 55 ?_); refine wpList_load_mid rfl 36 (.tmp 54) rfl g7 o7 rfl [.int .i64 h, .string N, .string F, .string V] _ hrow7.out Try.underlying36 rfl lineInfo ?_)
      refine (set_ok _ D h N F V true _ hR7 hDlt (by omega) (by omega) hDr hz' hDthere hDlen (fun e => by cases e)).mono ?_
      rintro e w8 ⟨q8, d8, rfl, hO8, k8⟩
      have hK8 := Lib.hid (hK7.out.trans k8)
      have hB8 := Lib.hid (hB7.out.keep k8 id)
      have hR8 := Lib.hid (hR7.out.keep k8)
      have hC8 := Lib.hid (hC7.out.keep k8)
      rw [← hxe'.out, hDa.out] at hO8 ⊢
      have hF8 := Lib.hid (hO8.at lineVals_len)
      clear hO8 k8 hR7 hC7 hK7 hB7 hDa
      go_upto_region 8 with fail
      have hval : Hid (D[posL (⟨h, N.data.toList, F.data.toList, []⟩ : LineD) D]? = some x) := Lib.hid (by
        have e : (⟨h, N.data.toList, F.data.toList, []⟩ : LineD) = bareL x := by rw [hxe'.out]; rfl
        rw [e, posL_bare]; exact find_at (right_rises hDr.out) hDm.out)
      have hthb : Hid (thereB (⟨h, N.data.toList, F.data.toList, []⟩ : LineD) D = true) := Lib.hid (by
        have e : (⟨h, N.data.toList, F.data.toList, []⟩ : LineD) = bareL x := by rw [hxe'.out]; rfl
        rw [e, thereB_bare]; exact there_at (right_rises hDr.out) hDm.out)
      have hVx : Hid (V = ⟨x.value.toArray⟩) := Lib.hid (by rw [hxe'.out])
      refine wp_region_noPanic ?_
      refine wp_region_held_drew (S := (fun W => Keeps (fun _ => False) w8 W)) (by kernel_rfl) (((Keeps.refl _ _).drew)) (fun hHeld => ?_)
      refine stepL 0 rfl (by kernel_rfl) (fun K hK => ?_)
      go_simp
      (refine (writes_any _).mono ?_; rintro e wa ⟨rfl, ka⟩; have ka' := Lib.hid ka; clear ka)
      go_wp2_with fail
      refine hK.out _ _ ((hHeld.trans ka'.out)) (fun hHeld => ?_)
      clear hK K
      try simp only [Act.put, sA, sZ, sS]
      refine tk 1 rfl ?_
      refine tk 2 rfl ?_
      refine tk 3 rfl ?_
      refine tk 4 rfl ?_
      refine tk 5 rfl ?_
      refine tk 6 rfl ?_
      refine tk 7 rfl ?_
      refine tk 8 rfl ?_
      refine tk 9 rfl ?_
      refine tk 10 rfl ?_
      refine tk 11 rfl ?_
      refine tk 12 rfl ?_
      refine stepL 13 rfl (by kernel_rfl) (fun K hK => ?_)
      go_simp
      (refine (same_c _ _ D D true _ (Lib.hid (hR8.out.keep hHeld)) (Lib.hid (hF8.out.keep hHeld)) hDr hDr (Lib.hid (by simp))).mono ?_; rintro e wb ⟨rfl, kb⟩; have kb' := Lib.hid kb; clear kb)
      go_wp2_with fail
      refine hK.out _ _ ((hHeld.trans kb'.out)) (fun hHeld => ?_)
      clear hK K
      try simp only [Act.put, sA, sZ, sS]
      refine tk 14 rfl ?_
      refine tk 15 rfl ?_
      refine tk 16 rfl ?_
      refine tk 17 rfl ?_
      refine tk 18 rfl ?_
      refine tkL 19 rfl (yieldsIf_load_cell (by rfl) 3 (.tmp 77) rfl gb 0 rfl _ (fun _ s => (hB8.out.keep s id).cell 0 _ rfl) (fun w s => load_int w _ _ _ s)) ?_
      refine tk 20 rfl ?_
      refine tkL 21 rfl (yieldsIf_load_cell (by rfl) 9 (.tmp 79) rfl gb 1 rfl _ (fun _ s => (hB8.out.keep s id).cell 1 _ rfl) (fun w s => load_str w _ _ _ s)) ?_
      refine tk 22 rfl ?_
      refine tkL 23 rfl (yieldsIf_load_cell (by rfl) 9 (.tmp 81) rfl gb 2 rfl _ (fun _ s => (hB8.out.keep s id).cell 2 _ rfl) (fun w s => load_str w _ _ _ s)) ?_
      refine tk 25 rfl ?_
      refine tkL 26 rfl (yieldsIf_load_cell (by rfl) 9 (.tmp 84) rfl gb 3 rfl _ (fun _ s => (hB8.out.keep s id).cell 3 _ rfl) (fun w s => load_str w _ _ _ s)) ?_
      refine stepL 24 rfl (by kernel_rfl) (fun K hK => ?_)
      go_simp
      (refine (value_there _ D x h N F V _ (Lib.hid (hR8.out.keep hHeld)) hDlen hDlt hDr hthb hval hVx).mono ?_; rintro e wd ⟨rfl, kd⟩; have kd' := Lib.hid kd; clear kd)
      go_wp2_with fail
      refine hK.out _ _ ((hHeld.trans kd'.out)) (fun hHeld => ?_)
      clear hK K
      try simp only [Act.put, sA, sZ, sS]
      refine tk 27 rfl ?_
      refine tk 28 rfl ?_
      refine wpAnyH_done (by kernel_rfl) (NoPanic.normal ?_) _
      have hK9 := Lib.hid (hK8.out.trans hHeld)
      have hB9 := Lib.hid (hB8.out.keep hHeld id)
      have hR9 := Lib.hid (hR8.out.keep hHeld)
      have hC9 := Lib.hid (hC8.out.keep hHeld)
      clear hHeld hK8 hB8 hR8 hC8 hF8 hval hthb hVx hDthere
      go_wp2_with fail
      go_loopw [10] (fun iv wr => ∃ (k : Nat), k ≤ B.length ∧ iv = .int .i64 k ∧ Hid (Keeps (fun _ => False) wd wr)) (fun iv _ => B.length - (intOf iv).toNat)
      case atStart => exact ⟨0, by omega, rfl, Lib.hid (Keeps.refl _ _)⟩
      case round =>
        obtain ⟨k, hk, rfl, hKw⟩ := hrel
        by_cases hlk : k < B.length
        · obtain ⟨g, o, rfl, hrows⟩ := hC9.out.open (by omega)
          obtain ⟨q, hq⟩ : ∃ q, B[k]? = some q := ⟨_, List.getElem?_eq_getElem hlk⟩
          obtain ⟨Nq, hN⟩ : ∃ N : ByteArray, N = ⟨q.name.toArray⟩ := ⟨_, rfl⟩
          obtain ⟨Fq, hF⟩ : ∃ N : ByteArray, N = ⟨q.leaf.toArray⟩ := ⟨_, rfl⟩
          obtain ⟨Vq, hV⟩ : ∃ N : ByteArray, N = ⟨q.value.toArray⟩ := ⟨_, rfl⟩
          have hrow : Hid (wr.rangeAt g (o + k * 4) [.int .i64 q.head, .string Nq, .string Fq, .string Vq]) := Lib.hid (by rw [hN, hF, hV]; exact hKw.out.rangeAt (hrows k q hq) id)
          have hqd : Hid (q = ⟨q.head, Nq.data.toList, Fq.data.toList, Vq.data.toList⟩) := Lib.hid (by rw [hN, hF, hV])
          have hqB := Lib.hid (List.mem_of_getElem? hq)
          have hVq : Hid (Vq = ⟨q.value.toArray⟩) := Lib.hid hV
          have m1 : (0 : Int) ≤ (k : Int) := by omega
          have m2 : (k : Int) < (B.length : Int) := by omega
          have hRr := Lib.hid (hR9.out.keep hKw.out)
          clear hrows hN hF hV hq
          by_cases a1 : q.head = h
          · have e1 : (q.head == h) = true := by simp [a1]
            have a1' := Lib.hid a1; clear a1
            by_cases a2 : Nq.data.toList = N.data.toList
            · have e2 := beq_list a2
              have a2' := Lib.hid a2; clear a2
              by_cases a3 : Fq.data.toList = F.data.toList
              · have e3 := beq_list a3
                clear a3
                go_upto_region 13 with fail
                refine wp_region_noPanic ?_
                refine wp_region_held_drew (S := (fun W => Keeps (fun _ => False) wr W)) (by kernel_rfl) (((Keeps.refl _ _).drew)) (fun hHeld => ?_)
                refine tk 0 rfl ?_
                refine tk 1 rfl ?_
                refine tk 2 rfl ?_
                refine tk 3 rfl ?_
                refine tkL 4 rfl (yieldsIf_load_cell (by rfl) 3 (.tmp 97) rfl g (o + k * 4 + 0) rfl _ (fun _ s => s.rangeAt hrow.out id 0 _ rfl) (fun w s => load_int w _ _ _ s)) ?_
                refine tk 5 rfl ?_
                refine tkL 6 rfl (yieldsIf_load_cell (by rfl) 3 (.tmp 99) rfl gb 0 rfl _ (fun _ s => (hB9.out.keep (hKw.out.trans s) id).cell 0 _ rfl) (fun w s => load_int w _ _ _ s)) ?_
                refine tk 7 rfl ?_
                refine tk 8 rfl ?_
                refine tk 9 rfl ?_
                refine tk 10 rfl ?_
                refine tk 11 rfl ?_
                refine tk 12 rfl ?_
                refine tkL 13 rfl (yieldsIf_load_cell (by rfl) 9 (.tmp 106) rfl g (o + k * 4 + 1) rfl _ (fun _ s => s.rangeAt hrow.out id 1 _ rfl) (fun w s => load_str w _ _ _ s)) ?_
                refine tk 14 rfl ?_
                refine tkL 15 rfl (yieldsIf_load_cell (by rfl) 9 (.tmp 108) rfl gb 1 rfl _ (fun _ s => (hB9.out.keep (hKw.out.trans s) id).cell 1 _ rfl) (fun w s => load_str w _ _ _ s)) ?_
                refine tk 16 rfl ?_
                refine tk 17 rfl ?_
                refine tk 18 rfl ?_
                refine tk 19 rfl ?_
                refine tk 20 rfl ?_
                refine tk 21 rfl ?_
                refine tk 22 rfl ?_
                refine tkL 23 rfl (yieldsIf_load_cell (by rfl) 9 (.tmp 116) rfl g (o + k * 4 + 2) rfl _ (fun _ s => s.rangeAt hrow.out id 2 _ rfl) (fun w s => load_str w _ _ _ s)) ?_
                refine tk 24 rfl ?_
                refine tkL 25 rfl (yieldsIf_load_cell (by rfl) 9 (.tmp 118) rfl gb 2 rfl _ (fun _ s => (hB9.out.keep (hKw.out.trans s) id).cell 2 _ rfl) (fun w s => load_str w _ _ _ s)) ?_
                refine tk 26 rfl ?_
                refine tk 27 rfl ?_
                refine wpAnyH_done (by kernel_rfl) (NoPanic.normal ?_) _
                have hKx := Lib.hid (hKw.out.trans hHeld)
                clear hHeld
                go_wp2_with fail
                exact ⟨⟨k + 1, by omega, by go_num, hKx⟩, by simp [intOf]; omega⟩
              · have e3 := bne_list a3
                have a3' := Lib.hid a3; clear a3
                have hnk : Hid (¬ (q.head = x.head ∧ q.name = x.name ∧ q.leaf = x.leaf)) := Lib.hid (fun e => a3'.out (by have := e.2.2; rw [hqd.out, hxe'.out] at this; exact this))
                go_upto_region 13 with fail
                refine wp_region_noPanic ?_
                refine wp_region_held_drew (S := (fun W => Keeps (fun _ => False) wr W)) (by kernel_rfl) (((Keeps.refl _ _).drew)) (fun hHeld => ?_)
                refine tk 0 rfl ?_
                refine tk 1 rfl ?_
                refine tk 2 rfl ?_
                refine tk 3 rfl ?_
                refine tkL 4 rfl (yieldsIf_load_cell (by rfl) 3 (.tmp 97) rfl g (o + k * 4 + 0) rfl _ (fun _ s => s.rangeAt hrow.out id 0 _ rfl) (fun w s => load_int w _ _ _ s)) ?_
                refine tk 5 rfl ?_
                refine tkL 6 rfl (yieldsIf_load_cell (by rfl) 3 (.tmp 99) rfl gb 0 rfl _ (fun _ s => (hB9.out.keep (hKw.out.trans s) id).cell 0 _ rfl) (fun w s => load_int w _ _ _ s)) ?_
                refine tk 7 rfl ?_
                refine tk 8 rfl ?_
                refine tk 9 rfl ?_
                refine tk 10 rfl ?_
                refine tk 11 rfl ?_
                refine tk 12 rfl ?_
                refine tkL 13 rfl (yieldsIf_load_cell (by rfl) 9 (.tmp 106) rfl g (o + k * 4 + 1) rfl _ (fun _ s => s.rangeAt hrow.out id 1 _ rfl) (fun w s => load_str w _ _ _ s)) ?_
                refine tk 14 rfl ?_
                refine tkL 15 rfl (yieldsIf_load_cell (by rfl) 9 (.tmp 108) rfl gb 1 rfl _ (fun _ s => (hB9.out.keep (hKw.out.trans s) id).cell 1 _ rfl) (fun w s => load_str w _ _ _ s)) ?_
                refine tk 16 rfl ?_
                refine tk 17 rfl ?_
                refine tk 18 rfl ?_
                refine tk 19 rfl ?_
                refine tk 20 rfl ?_
                refine tk 21 rfl ?_
                refine tk 22 rfl ?_
                refine tkL 23 rfl (yieldsIf_load_cell (by rfl) 9 (.tmp 116) rfl g (o + k * 4 + 2) rfl _ (fun _ s => s.rangeAt hrow.out id 2 _ rfl) (fun w s => load_str w _ _ _ s)) ?_
                refine tk 24 rfl ?_
                refine tkL 25 rfl (yieldsIf_load_cell (by rfl) 9 (.tmp 118) rfl gb 2 rfl _ (fun _ s => (hB9.out.keep (hKw.out.trans s) id).cell 2 _ rfl) (fun w s => load_str w _ _ _ s)) ?_
                refine tk 26 rfl ?_
                refine tk 27 rfl ?_
                refine wpAnyH_done (by kernel_rfl) (NoPanic.normal ?_) _
                have hKx := Lib.hid (hKw.out.trans hHeld)
                have hrow2 := Lib.hid (hHeld.rangeAt hrow.out id)
                have hRx := Lib.hid (hRr.out.keep hHeld)
                clear hHeld
                have hqD := Lib.hid (hDB.out q hqB.out hnk.out)
                have hv1 : Hid (thereB (⟨q.head, Nq.data.toList, Fq.data.toList, []⟩ : LineD) D = true) := Lib.hid (by
                  have e : (⟨q.head, Nq.data.toList, Fq.data.toList, []⟩ : LineD) = bareL q := by rw [hqd.out]; rfl
                  rw [e, thereB_bare]; exact there_at (right_rises hDr.out) hqD.out)
                have hv2 : Hid (D[posL (⟨q.head, Nq.data.toList, Fq.data.toList, []⟩ : LineD) D]? = some q) := Lib.hid (by
                  have e : (⟨q.head, Nq.data.toList, Fq.data.toList, []⟩ : LineD) = bareL q := by rw [hqd.out]; rfl
                  rw [e, posL_bare]; exact find_at (right_rises hDr.out) hqD.out)
                go_upto_region 14 with fail
                generalize wr.drew = Wr at hKx hrow2 hRx ⊢
                refine wp_region_noPanic ?_
                refine wp_region_held_drew (S := (fun W => Keeps (fun _ => False) Wr W)) (by kernel_rfl) (((Keeps.refl _ _).drew)) (fun hHeld => ?_)
                refine tk 0 rfl ?_
                refine tk 1 rfl ?_
                refine tk 2 rfl ?_
                refine tk 3 rfl ?_
                refine tk 4 rfl ?_
                refine tkL 5 rfl (yieldsIf_load_cell (by rfl) 3 (.tmp 126) rfl g (o + k * 4 + 0) rfl _ (fun _ s => s.rangeAt hrow2.out id 0 _ rfl) (fun w s => load_int w _ _ _ s)) ?_
                refine tk 6 rfl ?_
                refine tk 7 rfl ?_
                refine tk 8 rfl ?_
                refine tk 9 rfl ?_
                refine tkL 10 rfl (yieldsIf_load_cell (by rfl) 9 (.tmp 131) rfl g (o + k * 4 + 1) rfl _ (fun _ s => s.rangeAt hrow2.out id 1 _ rfl) (fun w s => load_str w _ _ _ s)) ?_
                refine tk 11 rfl ?_
                refine tk 12 rfl ?_
                refine tk 13 rfl ?_
                refine tk 14 rfl ?_
                refine tkL 15 rfl (yieldsIf_load_cell (by rfl) 9 (.tmp 136) rfl g (o + k * 4 + 2) rfl _ (fun _ s => s.rangeAt hrow2.out id 2 _ rfl) (fun w s => load_str w _ _ _ s)) ?_
                refine tk 17 rfl ?_
                refine tk 18 rfl ?_
                refine tk 19 rfl ?_
                refine tk 20 rfl ?_
                refine tkL 21 rfl (yieldsIf_load_cell (by rfl) 9 (.tmp 142) rfl g (o + k * 4 + 3) rfl _ (fun _ s => s.rangeAt hrow2.out id 3 _ rfl) (fun w s => load_str w _ _ _ s)) ?_
                refine stepL 16 rfl (by kernel_rfl) (fun K hK => ?_)
                go_simp
                (refine (value_there _ D q q.head Nq Fq Vq _ (Lib.hid (hRx.out.keep hHeld)) hDlen hDlt hDr hv1 hv2 hVq).mono ?_; rintro e wz ⟨rfl, kz⟩; have kz' := Lib.hid kz; clear kz)
                go_wp2_with fail
                refine hK.out _ _ ((hHeld.trans kz'.out)) (fun hHeld => ?_)
                clear hK K
                try simp only [Act.put, sA, sZ, sS]
                refine tk 22 rfl ?_
                refine wpAnyH_done (by kernel_rfl) (NoPanic.normal ?_) _
                have hKy := Lib.hid (hKx.out.trans hHeld)
                clear hHeld
                go_wp2_with fail
                exact ⟨⟨k + 1, by omega, by go_num, hKy⟩, by simp [intOf]; omega⟩
            · have e2 := bne_list a2
              have a2' := Lib.hid a2; clear a2
              have hnk : Hid (¬ (q.head = x.head ∧ q.name = x.name ∧ q.leaf = x.leaf)) := Lib.hid (fun e => a2'.out (by have := e.2.1; rw [hqd.out, hxe'.out] at this; exact this))
              go_upto_region 13 with fail
              refine wp_region_noPanic ?_
              refine wp_region_held_drew (S := (fun W => Keeps (fun _ => False) wr W)) (by kernel_rfl) (((Keeps.refl _ _).drew)) (fun hHeld => ?_)
              refine tk 0 rfl ?_
              refine tk 1 rfl ?_
              refine tk 2 rfl ?_
              refine tk 3 rfl ?_
              refine tkL 4 rfl (yieldsIf_load_cell (by rfl) 3 (.tmp 97) rfl g (o + k * 4 + 0) rfl _ (fun _ s => s.rangeAt hrow.out id 0 _ rfl) (fun w s => load_int w _ _ _ s)) ?_
              refine tk 5 rfl ?_
              refine tkL 6 rfl (yieldsIf_load_cell (by rfl) 3 (.tmp 99) rfl gb 0 rfl _ (fun _ s => (hB9.out.keep (hKw.out.trans s) id).cell 0 _ rfl) (fun w s => load_int w _ _ _ s)) ?_
              refine tk 7 rfl ?_
              refine tk 8 rfl ?_
              refine tk 9 rfl ?_
              refine tk 10 rfl ?_
              refine tk 11 rfl ?_
              refine tk 12 rfl ?_
              refine tkL 13 rfl (yieldsIf_load_cell (by rfl) 9 (.tmp 106) rfl g (o + k * 4 + 1) rfl _ (fun _ s => s.rangeAt hrow.out id 1 _ rfl) (fun w s => load_str w _ _ _ s)) ?_
              refine tk 14 rfl ?_
              refine tkL 15 rfl (yieldsIf_load_cell (by rfl) 9 (.tmp 108) rfl gb 1 rfl _ (fun _ s => (hB9.out.keep (hKw.out.trans s) id).cell 1 _ rfl) (fun w s => load_str w _ _ _ s)) ?_
              refine tk 16 rfl ?_
              refine tk 17 rfl ?_
              refine tk 18 rfl ?_
              refine tkS 19 rfl ?_
              refine tkS 20 rfl ?_
              refine tkS 21 rfl ?_
              refine tkS 22 rfl ?_
              refine tkS 23 rfl ?_
              refine tkS 24 rfl ?_
              refine tkS 25 rfl ?_
              refine tkS 26 rfl ?_
              refine tk 27 rfl ?_
              refine wpAnyH_done (by kernel_rfl) (NoPanic.normal ?_) _
              have hKx := Lib.hid (hKw.out.trans hHeld)
              have hrow2 := Lib.hid (hHeld.rangeAt hrow.out id)
              have hRx := Lib.hid (hRr.out.keep hHeld)
              clear hHeld
              have hqD := Lib.hid (hDB.out q hqB.out hnk.out)
              have hv1 : Hid (thereB (⟨q.head, Nq.data.toList, Fq.data.toList, []⟩ : LineD) D = true) := Lib.hid (by
                have e : (⟨q.head, Nq.data.toList, Fq.data.toList, []⟩ : LineD) = bareL q := by rw [hqd.out]; rfl
                rw [e, thereB_bare]; exact there_at (right_rises hDr.out) hqD.out)
              have hv2 : Hid (D[posL (⟨q.head, Nq.data.toList, Fq.data.toList, []⟩ : LineD) D]? = some q) := Lib.hid (by
                have e : (⟨q.head, Nq.data.toList, Fq.data.toList, []⟩ : LineD) = bareL q := by rw [hqd.out]; rfl
                rw [e, posL_bare]; exact find_at (right_rises hDr.out) hqD.out)
              go_upto_region 14 with fail
              generalize wr.drew = Wr at hKx hrow2 hRx ⊢
              refine wp_region_noPanic ?_
              refine wp_region_held_drew (S := (fun W => Keeps (fun _ => False) Wr W)) (by kernel_rfl) (((Keeps.refl _ _).drew)) (fun hHeld => ?_)
              refine tk 0 rfl ?_
              refine tk 1 rfl ?_
              refine tk 2 rfl ?_
              refine tk 3 rfl ?_
              refine tk 4 rfl ?_
              refine tkL 5 rfl (yieldsIf_load_cell (by rfl) 3 (.tmp 126) rfl g (o + k * 4 + 0) rfl _ (fun _ s => s.rangeAt hrow2.out id 0 _ rfl) (fun w s => load_int w _ _ _ s)) ?_
              refine tk 6 rfl ?_
              refine tk 7 rfl ?_
              refine tk 8 rfl ?_
              refine tk 9 rfl ?_
              refine tkL 10 rfl (yieldsIf_load_cell (by rfl) 9 (.tmp 131) rfl g (o + k * 4 + 1) rfl _ (fun _ s => s.rangeAt hrow2.out id 1 _ rfl) (fun w s => load_str w _ _ _ s)) ?_
              refine tk 11 rfl ?_
              refine tk 12 rfl ?_
              refine tk 13 rfl ?_
              refine tk 14 rfl ?_
              refine tkL 15 rfl (yieldsIf_load_cell (by rfl) 9 (.tmp 136) rfl g (o + k * 4 + 2) rfl _ (fun _ s => s.rangeAt hrow2.out id 2 _ rfl) (fun w s => load_str w _ _ _ s)) ?_
              refine tk 17 rfl ?_
              refine tk 18 rfl ?_
              refine tk 19 rfl ?_
              refine tk 20 rfl ?_
              refine tkL 21 rfl (yieldsIf_load_cell (by rfl) 9 (.tmp 142) rfl g (o + k * 4 + 3) rfl _ (fun _ s => s.rangeAt hrow2.out id 3 _ rfl) (fun w s => load_str w _ _ _ s)) ?_
              refine stepL 16 rfl (by kernel_rfl) (fun K hK => ?_)
              go_simp
              (refine (value_there _ D q q.head Nq Fq Vq _ (Lib.hid (hRx.out.keep hHeld)) hDlen hDlt hDr hv1 hv2 hVq).mono ?_; rintro e wz ⟨rfl, kz⟩; have kz' := Lib.hid kz; clear kz)
              go_wp2_with fail
              refine hK.out _ _ ((hHeld.trans kz'.out)) (fun hHeld => ?_)
              clear hK K
              try simp only [Act.put, sA, sZ, sS]
              refine tk 22 rfl ?_
              refine wpAnyH_done (by kernel_rfl) (NoPanic.normal ?_) _
              have hKy := Lib.hid (hKx.out.trans hHeld)
              clear hHeld
              go_wp2_with fail
              exact ⟨⟨k + 1, by omega, by go_num, hKy⟩, by simp [intOf]; omega⟩
          · have e1 : (q.head == h) = false := by simp [a1]
            have a1' := Lib.hid a1; clear a1
            have hnk : Hid (¬ (q.head = x.head ∧ q.name = x.name ∧ q.leaf = x.leaf)) := Lib.hid (fun e => a1'.out (by have := e.1; rw [hxe'.out] at this; exact this))
            go_upto_region 13 with fail
            refine wp_region_noPanic ?_
            refine wp_region_held_drew (S := (fun W => Keeps (fun _ => False) wr W)) (by kernel_rfl) (((Keeps.refl _ _).drew)) (fun hHeld => ?_)
            refine tk 0 rfl ?_
            refine tk 1 rfl ?_
            refine tk 2 rfl ?_
            refine tk 3 rfl ?_
            refine tkL 4 rfl (yieldsIf_load_cell (by rfl) 3 (.tmp 97) rfl g (o + k * 4 + 0) rfl _ (fun _ s => s.rangeAt hrow.out id 0 _ rfl) (fun w s => load_int w _ _ _ s)) ?_
            refine tk 5 rfl ?_
            refine tkL 6 rfl (yieldsIf_load_cell (by rfl) 3 (.tmp 99) rfl gb 0 rfl _ (fun _ s => (hB9.out.keep (hKw.out.trans s) id).cell 0 _ rfl) (fun w s => load_int w _ _ _ s)) ?_
            refine tk 7 rfl ?_
            refine tk 8 rfl ?_
            refine tkS 9 rfl ?_
            refine tkS 10 rfl ?_
            refine tkS 11 rfl ?_
            refine tkS 12 rfl ?_
            refine tkS 13 rfl ?_
            refine tkS 14 rfl ?_
            refine tkS 15 rfl ?_
            refine tkS 16 rfl ?_
            refine tk 17 rfl ?_
            refine tk 18 rfl ?_
            refine tkS 19 rfl ?_
            refine tkS 20 rfl ?_
            refine tkS 21 rfl ?_
            refine tkS 22 rfl ?_
            refine tkS 23 rfl ?_
            refine tkS 24 rfl ?_
            refine tkS 25 rfl ?_
            refine tkS 26 rfl ?_
            refine tk 27 rfl ?_
            refine wpAnyH_done (by kernel_rfl) (NoPanic.normal ?_) _
            have hKx := Lib.hid (hKw.out.trans hHeld)
            have hrow2 := Lib.hid (hHeld.rangeAt hrow.out id)
            have hRx := Lib.hid (hRr.out.keep hHeld)
            clear hHeld
            have hqD := Lib.hid (hDB.out q hqB.out hnk.out)
            have hv1 : Hid (thereB (⟨q.head, Nq.data.toList, Fq.data.toList, []⟩ : LineD) D = true) := Lib.hid (by
              have e : (⟨q.head, Nq.data.toList, Fq.data.toList, []⟩ : LineD) = bareL q := by rw [hqd.out]; rfl
              rw [e, thereB_bare]; exact there_at (right_rises hDr.out) hqD.out)
            have hv2 : Hid (D[posL (⟨q.head, Nq.data.toList, Fq.data.toList, []⟩ : LineD) D]? = some q) := Lib.hid (by
              have e : (⟨q.head, Nq.data.toList, Fq.data.toList, []⟩ : LineD) = bareL q := by rw [hqd.out]; rfl
              rw [e, posL_bare]; exact find_at (right_rises hDr.out) hqD.out)
            go_upto_region 14 with fail
            generalize wr.drew = Wr at hKx hrow2 hRx ⊢
            refine wp_region_noPanic ?_
            refine wp_region_held_drew (S := (fun W => Keeps (fun _ => False) Wr W)) (by kernel_rfl) (((Keeps.refl _ _).drew)) (fun hHeld => ?_)
            refine tk 0 rfl ?_
            refine tk 1 rfl ?_
            refine tk 2 rfl ?_
            refine tk 3 rfl ?_
            refine tk 4 rfl ?_
            refine tkL 5 rfl (yieldsIf_load_cell (by rfl) 3 (.tmp 126) rfl g (o + k * 4 + 0) rfl _ (fun _ s => s.rangeAt hrow2.out id 0 _ rfl) (fun w s => load_int w _ _ _ s)) ?_
            refine tk 6 rfl ?_
            refine tk 7 rfl ?_
            refine tk 8 rfl ?_
            refine tk 9 rfl ?_
            refine tkL 10 rfl (yieldsIf_load_cell (by rfl) 9 (.tmp 131) rfl g (o + k * 4 + 1) rfl _ (fun _ s => s.rangeAt hrow2.out id 1 _ rfl) (fun w s => load_str w _ _ _ s)) ?_
            refine tk 11 rfl ?_
            refine tk 12 rfl ?_
            refine tk 13 rfl ?_
            refine tk 14 rfl ?_
            refine tkL 15 rfl (yieldsIf_load_cell (by rfl) 9 (.tmp 136) rfl g (o + k * 4 + 2) rfl _ (fun _ s => s.rangeAt hrow2.out id 2 _ rfl) (fun w s => load_str w _ _ _ s)) ?_
            refine tk 17 rfl ?_
            refine tk 18 rfl ?_
            refine tk 19 rfl ?_
            refine tk 20 rfl ?_
            refine tkL 21 rfl (yieldsIf_load_cell (by rfl) 9 (.tmp 142) rfl g (o + k * 4 + 3) rfl _ (fun _ s => s.rangeAt hrow2.out id 3 _ rfl) (fun w s => load_str w _ _ _ s)) ?_
            refine stepL 16 rfl (by kernel_rfl) (fun K hK => ?_)
            go_simp
            (refine (value_there _ D q q.head Nq Fq Vq _ (Lib.hid (hRx.out.keep hHeld)) hDlen hDlt hDr hv1 hv2 hVq).mono ?_; rintro e wz ⟨rfl, kz⟩; have kz' := Lib.hid kz; clear kz)
            go_wp2_with fail
            refine hK.out _ _ ((hHeld.trans kz'.out)) (fun hHeld => ?_)
            clear hK K
            try simp only [Act.put, sA, sZ, sS]
            refine tk 22 rfl ?_
            refine wpAnyH_done (by kernel_rfl) (NoPanic.normal ?_) _
            have hKy := Lib.hid (hKx.out.trans hHeld)
            clear hHeld
            go_wp2_with fail
            exact ⟨⟨k + 1, by omega, by go_num, hKy⟩, by simp [intOf]; omega⟩
        · obtain rfl : k = B.length := by omega
          have hBz := Lib.hid (hB9.out.keep hKw.out id)
          have hRz := Lib.hid (hR9.out.keep hKw.out)
          have hKz := Lib.hid (hK9.out.trans hKw.out)
          have hEl : Hid ((delC h N.data.toList F.data.toList D).length + 1 = D.length) := Lib.hid (by
            have := del_len (x := x) (leaf_ne (right_line hDr.out x hDm.out)) (right_rises hDr.out) hDm.out
            rw [hxe'.out] at this; exact this)
          have hEr := Lib.hid (right_del (h := h) (n := N.data.toList) (l := F.data.toList) hDr.out)
          have hEa := Lib.hid (del_again h N.data.toList F.data.toList D)
          clear hk hlk hKw hB9 hR9 hK9 hC9 hDB
          have c0 := hBz.out.cell 0 _ rfl
          have c1 := hBz.out.cell 1 _ rfl
          have c2 := hBz.out.cell 2 _ rfl
          go_wp2_with fail
          refine (del_c _ D h N F _ hRz hDlt hDlen hDr).mono ?_
          rintro e we ⟨-, p2, ke⟩
          obtain ⟨qe, de, rfl, hOe⟩ := p2 (by have := hEl.out; omega)
          have hRe := Lib.hid (hOe.at lineVals_len)
          have hKe := Lib.hid (hKz.out.trans ke)
          have hBe := Lib.hid (hBz.out.keep ke id)
          generalize delC h N.data.toList F.data.toList D = E at hRe hEl hEr hEa ⊢
          clear hOe ke hKz hBz hRz c0 c1 c2 p2
          have c0 := hBe.out.cell 0 _ rfl
          have c1 := hBe.out.cell 1 _ rfl
          have c2 := hBe.out.cell 2 _ rfl
          have hE64 := right_len hEr.out
          have hElt := Lib.hid (right_lt hEr.out 9223372036854775807 (by omega))
          go_wp2_with fail
          refine (del_c _ E h N F _ hRe hElt hE64 hEr).mono ?_
          rintro e wf ⟨p1, -, kf⟩
          rw [hEa.out] at p1
          obtain rfl := p1 rfl
          have hKf := Lib.hid (hKe.out.trans kf)
          have e5 : ((E.length : Int) == (D.length : Int) - 1) = true := by have := hEl.out; simp; omega
          have hDl0 : (1 : Int) ≤ (D.length : Int) := by have := hEl.out; omega
          clear kf p1 c0 c1 c2
          go_wp2_with fail
          go_ret
          exact ⟨rfl, hKf.out⟩
end Go.Proofs.Ytdjmhjgfjbcdkaa
