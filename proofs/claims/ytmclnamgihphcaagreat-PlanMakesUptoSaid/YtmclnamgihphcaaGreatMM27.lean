/- The document's diff, walked: the first loop. -/
import Derived.Test.YtmclnamgihphcaaGreatMM25
set_option linter.unusedVariables false
set_option linter.unusedSimpArgs false
set_option linter.unusedVariables false
set_option linter.unusedSimpArgs false
namespace Go.Proofs.YtmclnamgihphcaaGreat
open Go.RowKit

theorem change7All : ∃ i, Tryz.prog.info? 69 = some i ∧ i.zero = some (.agg #[.int .i64 0, .string ⟨#[]⟩, .string ⟨#[]⟩, .string ⟨#[]⟩, .string ⟨#[]⟩, .string ⟨#[]⟩]) ∧ i.size = 6 ∧ i.bytes = 88 := by
  have h : (Tryz.prog.info? 69).map (fun i => (i.zero, i.size, i.bytes)) = some (some (.agg #[.int .i64 0, .string ⟨#[]⟩, .string ⟨#[]⟩, .string ⟨#[]⟩, .string ⟨#[]⟩, .string ⟨#[]⟩]), 6, 88) := by kernel_rfl
  obtain ⟨i, hi, e⟩ := Option.map_eq_some_iff.1 h
  injection e with e1 e; injection e with e2 e3
  exact ⟨i, hi, e1, e2, e3⟩
def Ch7Res (L : List ChD) (w : World) (e : Ending) (w' : World) : Prop :=
  ∃ p c, e = .returned (.slice p L.length c) ∧ RowsAt 6 cVals w' (.slice p L.length c) L ∧ Keeps (fun _ => False) w w'
set_option maxRecDepth 100000 in
set_option maxHeartbeats 16000000 in
theorem r7Lines_any (v u : Value) (a b : List LineD) (w : World) (hv : Hid (RowsAt 4 lineVals w v a)) (hu : Hid (RowsAt 4 lineVals w u b)) (hla : a.length ≤ 64) (hlb : b.length ≤ 64) :
    Calls Tryz.prog 25 #[v, u] w (Ch7Res (docCh a b) w) := by
  obtain ⟨p, c, rfl⟩ := hv.out.slice
  obtain ⟨q, d, rfl⟩ := hu.out.slice
  obtain ⟨i5, hi5, hj5, hk5, hm5⟩ := line5All
  obtain ⟨i0, hi0, hi1, hi2, hi3⟩ := change7All
  go_enter Tryz.func25, Tryz.ntmps25
  go_wp2_with fail
  go_loopw [6, 5] (fun iv lv wr => ∃ (k : Nat) (X : List LineD) (pl : Option Addr) (cl : Nat), k ≤ a.length + b.length ∧ iv = .int .i64 k ∧ lv = .slice pl X.length cl ∧ X.length ≤ k ∧ Hid (X = allT (a ++ b) k) ∧ Hid (OwnR 48 4 lineVals w wr lv X) ∧ Hid (Keeps (fun _ => False) w wr)) (fun iv _ _ => a.length + b.length - (intOf iv).toNat)
  case atStart => exact ⟨0, [], none, 0, by omega, rfl, rfl, by simp, Lib.hid rfl, Lib.hid (OwnR.nil _ _ (Nat.le_refl _)), Lib.hid (Keeps.refl _ _)⟩
  case round =>
    obtain ⟨k, X, pl, cl, hk, rfl, rfl, hXl, hX, hO, hK⟩ := hrel
    have hsum : Hid (True) := Lib.hid trivial
    by_cases hlk : k < a.length + b.length
    · obtain ⟨x, hx⟩ : ∃ x, (a ++ b)[k]? = some x := ⟨_, List.getElem?_eq_getElem (by rw [List.length_append]; exact hlk)⟩
      have hst := Lib.hid (allT_step hx)
      obtain ⟨N, hN⟩ : ∃ N : ByteArray, N = ⟨x.name.toArray⟩ := ⟨_, rfl⟩
      obtain ⟨F, hF⟩ : ∃ N : ByteArray, N = ⟨x.leaf.toArray⟩ := ⟨_, rfl⟩
      obtain ⟨V, hV⟩ : ∃ N : ByteArray, N = ⟨x.value.toArray⟩ := ⟨_, rfl⟩
      have m1 : (k : Int) < (a.length : Int) + (b.length : Int) := by omega
      have m2 : (0 : Int) ≤ (k : Int) := by omega
      obtain ⟨W, hW⟩ : ∃ W, W = wr.alloc (.cells #[.int .i64 0, .string ⟨#[]⟩, .string ⟨#[]⟩, .string ⟨#[]⟩] 48) := ⟨_, rfl⟩
      have hB0 : Hid (BlkAt W wr.heap.size 48 [.int .i64 0, .string ⟨#[]⟩, .string ⟨#[]⟩, .string ⟨#[]⟩]) := Lib.hid (by rw [hW]; exact BlkAt.new _ _ _)
      have hKW : Hid (Keeps (fun _ => False) wr W) := Lib.hid (by rw [hW]; exact (Keeps.refl _ _).alloc _)
      have hbs : Hid (w.heap.size ≤ wr.heap.size) := Lib.hid hK.out.size
      have hgL : Hid (∀ i, (Value.slice pl X.length cl).ownBlock = some i → ¬ i = wr.heap.size) := Lib.hid (fun i e => by have := hO.out.own_ltP i e; omega)
      have hrowA : Hid (k < a.length → ∃ g o, p = some ⟨g, o, none⟩ ∧ W.rangeAt g (o + k * 4) [.int .i64 x.head, .string N, .string F, .string V]) := Lib.hid (fun h => by
        obtain ⟨g, o, e, hr⟩ := hv.out.open (by omega)
        have hxa : a[k]? = some x := by rw [← hx, List.getElem?_append_left h]
        exact ⟨g, o, e, by rw [hN, hF, hV]; exact (hK.out.trans hKW.out).rangeAt (hr k x hxa) id⟩)
      have hrowB : Hid (¬ k < a.length → ∃ g o, q = some ⟨g, o, none⟩ ∧ W.rangeAt g (o + (k - a.length) * 4) [.int .i64 x.head, .string N, .string F, .string V]) := Lib.hid (fun h => by
        obtain ⟨g, o, e, hr⟩ := hu.out.open (by omega)
        have hxb : b[k - a.length]? = some x := by rw [← hx, List.getElem?_append_right (by omega)]
        exact ⟨g, o, e, by rw [hN, hF, hV]; exact (hK.out.trans hKW.out).rangeAt (hr _ x hxb) id⟩)
      have hkl : Hid (kL x = ⟨x.head, N.data.toList, F.data.toList, []⟩) := Lib.hid (by rw [hN, hF]; rfl)
      have hOW := Lib.hid (hO.out.keep hKW.out (fun _ _ f => f))
      have hKw := Lib.hid (hK.out.trans hKW.out)
      clear hN hF hV hx hO hK hKW
      go_upto_if 26 with fail
      rw [← hW]
      clear hW
      generalize wr.heap.size = bs at hB0 hbs hgL ⊢
      go_cut [] (fun wx => Hid (BlkAt wx bs 48 [.int .i64 x.head, .string N, .string F, .string ⟨#[]⟩]) ∧ Hid (Keeps (fun i => i = bs) W wx))
      case first =>
        by_cases hka : k < a.length
        · obtain ⟨g, o, rfl, hr⟩ := hrowA.out hka
          have hr' := Lib.hid hr
          have m3 : (k : Int) < (a.length : Int) := by omega
          have e26 : decide ((k : Int) < (a.length : Int)) = true := decide_eq_true m3
          clear hr hka hrowA hrowB
          go_wp2_with ((with_reducible refine at_slot 30 ?_); refine wpList_load_mid rfl 48 (.tmp 29) rfl g (o + k * 4) rfl [.int .i64 x.head, .string N, .string F, .string V] _ hr'.out Tryz.underlying48 rfl lineInfo5 ?_)
          refine (r7Key_any x.head N F V _).mono ?_
          rintro e w3 ⟨rfl, k3⟩
          have hB3 := Lib.hid (hB0.out.keep k3 id)
          have hth : Hid (w3.there bs 0 4) := Lib.hid (hB3.out.there 0 4 (Nat.le_refl 4))
          have hK3 : Hid (Keeps (fun i => i = bs) W w3) := Lib.hid (k3.mono (fun _ f => f.elim))
          clear k3 hr'
          go_wp2_with ((with_reducible refine at_store 7 ?_); refine wpList_store_mid rfl 48 (.tmp 7) (.tmp 31) rfl bs 0 #[.int .i64 x.head, .string N, .string F, .string ⟨#[]⟩] rfl rfl hth.out lineInfo5 (line_one _ _ _ _) ?_)
          go_meet
          case rel => exact ⟨Lib.hid (BlkAt.four hB3.out _ _ _ _), Lib.hid (hK3.out.trans (Keeps.setCells (F := fun i => i = bs) (.inl rfl) _ _ _ (Keeps.refl _ _)))⟩
        · obtain ⟨g, o, rfl, hr⟩ := hrowB.out hka
          have hr' := Lib.hid hr
          have m3 : ¬ (k : Int) < (a.length : Int) := by omega
          have e26 : decide ((k : Int) < (a.length : Int)) = false := decide_eq_false m3
          have m4 : (0 : Int) ≤ (k : Int) - (a.length : Int) := by omega
          have m5 : (k : Int) - (a.length : Int) < (b.length : Int) := by omega
          have m6 : ((k : Int) - (a.length : Int)).toNat = k - a.length := by omega
          clear hr hka hrowA hrowB
          go_wp2_with ((with_reducible refine at_slot 38 ?_); refine wpList_load_mid rfl 48 (.tmp 37) rfl g (o + (k - a.length) * 4) rfl [.int .i64 x.head, .string N, .string F, .string V] _ hr'.out Tryz.underlying48 rfl lineInfo5 ?_)
          refine (r7Key_any x.head N F V _).mono ?_
          rintro e w3 ⟨rfl, k3⟩
          have hB3 := Lib.hid (hB0.out.keep k3 id)
          have hth : Hid (w3.there bs 0 4) := Lib.hid (hB3.out.there 0 4 (Nat.le_refl 4))
          have hK3 : Hid (Keeps (fun i => i = bs) W w3) := Lib.hid (k3.mono (fun _ f => f.elim))
          clear k3 hr'
          go_wp2_with ((with_reducible refine at_store 7 ?_); refine wpList_store_mid rfl 48 (.tmp 7) (.tmp 39) rfl bs 0 #[.int .i64 x.head, .string N, .string F, .string ⟨#[]⟩] rfl rfl hth.out lineInfo5 (line_one _ _ _ _) ?_)
          go_meet
          case rel => exact ⟨Lib.hid (BlkAt.four hB3.out _ _ _ _), Lib.hid (hK3.out.trans (Keeps.setCells (F := fun i => i = bs) (.inl rfl) _ _ _ (Keeps.refl _ _)))⟩
      case rest =>
        obtain ⟨hB4, hK4⟩ := hcut
        have hO4 := Lib.hid (hOW.out.keep hK4.out (fun k e f => hgL.out k e f))
        have hKw4 := Lib.hid (hKw.out.trans' hK4.out (fun i e => .inr (by rw [e]; exact hbs.out)))
        generalize hgz : wc = w4 at hB4 hO4 hKw4 ⊢
        clear hgz hK4 hOW hKw hB0 hrowA hrowB
        obtain ⟨y, hy⟩ : ∃ y, kL x = y := ⟨_, rfl⟩
        rw [hy] at hst hkl
        obtain ⟨P, hP⟩ : ∃ P, posK y X = P := ⟨_, rfl⟩
        have hPl : P ≤ X.length := by rw [← hP]; exact posK_le _ _
        have hP' := Lib.hid hP
        have hyh : Hid (x.head = y.head) := Lib.hid (by rw [← hy]; rfl)
        have hyk : Hid (kL y = y) := Lib.hid (by rw [← hy]; rfl)
        clear hP hy
        go_upto_block 2 with fail
        go_cut [8] (fun jv wx => jv = .int .i64 (P : Nat) ∧ Hid (Keeps (fun _ => False) w4 wx))
        case first =>
          go_wp2_with fail
          go_loopw [8] (fun jv wx => ∃ (m : Nat), m ≤ P ∧ jv = .int .i64 m ∧ Hid (Keeps (fun _ => False) w4 wx)) (fun jv _ => P - (intOf jv).toNat)
          case atStart => exact ⟨0, by omega, rfl, Lib.hid (Keeps.refl _ _)⟩
          case round =>
            obtain ⟨m, hm, rfl, hKm⟩ := hrel
            by_cases hmX : m < X.length
            · obtain ⟨q2, hq⟩ : ∃ q, X[m]? = some q := ⟨_, List.getElem?_eq_getElem hmX⟩
              obtain ⟨g, o, rfl, hrr⟩ := (hO4.out.at lineVals_len).open (by omega)
              obtain ⟨QN, hQN⟩ : ∃ N : ByteArray, N = ⟨q2.name.toArray⟩ := ⟨_, rfl⟩
              obtain ⟨QF, hQF⟩ : ∃ N : ByteArray, N = ⟨q2.leaf.toArray⟩ := ⟨_, rfl⟩
              obtain ⟨QV, hQV⟩ : ∃ N : ByteArray, N = ⟨q2.value.toArray⟩ := ⟨_, rfl⟩
              have hrq : Hid (wr.rangeAt g (o + m * 4) [.int .i64 q2.head, .string QN, .string QF, .string QV]) := Lib.hid (by rw [hQN, hQF, hQV]; exact hKm.out.rangeAt (hrr m q2 hq) id)
              have hbm := Lib.hid (hB4.out.keep hKm.out id)
              obtain ⟨z, hz⟩ : ∃ z, lessB q2 y = z := ⟨_, rfl⟩
              have hz' : Hid (lessB ⟨q2.head, QN.data.toList, QF.data.toList, QV.data.toList⟩ ⟨x.head, N.data.toList, F.data.toList, (⟨#[]⟩ : ByteArray).data.toList⟩ = z) := Lib.hid (by
                rw [hQN, hQF, hQV, ← hz, hkl.out])
              have hzm1 : z = true → m < P := fun e => (by
                rcases Nat.lt_or_ge m P with h | h
                · exact h
                · have hmp : P = m := by omega
                  have h5 : X[posK y X]? = some q2 := by rw [hP'.out, hmp]; exact hq
                  have h6 := posK_at h5
                  rw [hz, e] at h6
                  cases h6)
              have hzm2 : z = false → m = P := fun e => (by
                rcases Nat.lt_or_ge m P with h | h
                · have h5 : m < posK y X := by rw [hP'.out]; exact h
                  have h6 := posK_lt h5 hq
                  rw [hz, e] at h6
                  cases h6
                · omega)
              have hzm : Hid ((z = true → m < P) ∧ (z = false → m = P)) := Lib.hid ⟨hzm1, hzm2⟩
              clear hzm1 hzm2
              have q1 : (0 : Int) ≤ (m : Int) := by omega
              have q3 : (m : Int) < (X.length : Int) := by omega
              clear hQN hQF hQV hrr hq hz
              go_upto_region 10 with fail
              refine wp_region_noPanic ?_
              refine wp_region_held_drew (S := (fun W => Keeps (fun _ => False) wr W)) (by kernel_rfl) (((Keeps.refl _ _).drew)) (fun hHeld => ?_)
              refine tk 0 rfl ?_
              refine tk 1 rfl ?_
              refine tk 2 rfl ?_
              refine tk 3 rfl ?_
              refine tk 4 rfl ?_
              refine tk 5 rfl ?_
              refine tk 6 rfl ?_
              refine tk 7 rfl ?_
              refine tkL 8 rfl (yieldsIf_load_mid (by rfl) 48 (.tmp 47) rfl g (o + m * 4) rfl [.int .i64 q2.head, .string QN, .string QF, .string QV] _ (fun _ s => s.rangeAt hrq.out id) Tryz.underlying48 rfl lineInfo5) ?_
              refine tkL 9 rfl (yieldsIf_load_mid (by rfl) 48 (.tmp 7) rfl bs 0 rfl [.int .i64 x.head, .string N, .string F, .string ⟨#[]⟩] _ (fun _ s => (hbm.out.keep s id).range) Tryz.underlying48 rfl lineInfo5) ?_
              refine stepL 10 rfl (by kernel_rfl) (fun K hK => ?_)
              go_simp
              (refine (rLess_any q2.head x.head QN QF QV N F ⟨#[]⟩ z _ hz').mono ?_; rintro e w6 ⟨rfl, hk6⟩)
              go_wp2_with fail
              refine hK.out _ _ (hHeld.trans hk6) (fun hHeld => ?_)
              clear hK K
              try simp only [Act.put, sA, sZ, sS]
              refine tk 11 rfl ?_
              refine wpAnyH_done (by kernel_rfl) (NoPanic.normal ?_) _
              have hKz := Lib.hid (hKm.out.trans hHeld)
              clear hHeld hrq hbm hz' hKm
              cases z with
              | true =>
                have hmP := hzm.out.1 rfl
                have hmP' := Lib.hid hmP
                clear hzm hmP
                go_wp2_with fail
                exact ⟨⟨m + 1, hmP'.out, by go_num, hKz⟩, by have := hmP'.out; simp [intOf]; omega⟩
              | false =>
                obtain rfl : m = P := hzm.out.2 rfl
                clear hzm
                go_wp2_with fail
                go_meet
                case rel => exact ⟨rfl, hKz⟩
            · have hmP : m = P := by omega
              subst hmP
              have q3 : ¬ (m : Int) < (X.length : Int) := by omega
              go_upto_region 10 with fail
              refine wp_region_noPanic ?_
              refine wp_region_held_drew (S := (fun W => Keeps (fun _ => False) wr W)) (by kernel_rfl) (((Keeps.refl _ _).drew)) (fun hHeld => ?_)
              refine tk 0 rfl ?_
              refine tk 1 rfl ?_
              refine tk 2 rfl ?_
              refine tk 3 rfl ?_
              refine tk 4 rfl ?_
              refine tkS 5 rfl ?_
              refine tkS 6 rfl ?_
              refine tkS 7 rfl ?_
              refine tkS 8 rfl ?_
              refine tkS 9 rfl ?_
              refine tkS 10 rfl ?_
              refine tk 11 rfl ?_
              refine wpAnyH_done (by kernel_rfl) (NoPanic.normal ?_) _
              have hKz := Lib.hid (hKm.out.trans hHeld)
              clear hHeld
              go_wp2_with fail
              go_meet
              case rel => exact ⟨rfl, hKz⟩
        case rest =>
          obtain ⟨rfl, hK5⟩ := hcut
          have hB5 := Lib.hid (hB4.out.keep hK5.out id)
          have hO5 := Lib.hid (hO4.out.keep hK5.out (fun _ _ f => f))
          have hKw5 := Lib.hid (hKw4.out.trans hK5.out)
          generalize hgz : wc = w5 at hB5 hO5 hKw5 ⊢
          clear hgz hK5 hB4 hO4 hKw4
          have hrows5 : Hid (∀ q2, X[P]? = some q2 → ∃ g o, pl = some ⟨g, o, none⟩ ∧ w5.rangeAt g (o + P * 4) [.int .i64 q2.head, strv q2.name, strv q2.leaf, strv q2.value]) := Lib.hid (fun q2 hq => by
            have hlt := (List.getElem?_eq_some_iff.1 hq).1
            obtain ⟨g, o, e, h⟩ := (hO5.out.at lineVals_len).open (by omega)
            exact ⟨g, o, e, h P q2 hq⟩)
          obtain ⟨j1, j2⟩ := insK_pos hyk.out (X := X) (by rw [hX.out]; exact allT_facts _ _)
          rw [hP'.out] at j1 j2
          by_cases hin : X[P]? = some y
          · have hst2 : Hid (X = allT (a ++ b) (k + 1)) := Lib.hid (by rw [hst.out, ← hX.out]; exact (j1 hin).symm)
            have hPX : P < X.length := (List.getElem?_eq_some_iff.1 hin).1
            obtain ⟨g, o, rfl, hrr⟩ := hrows5.out y hin
            have hyv : y = ⟨x.head, N.data.toList, F.data.toList, []⟩ := hkl.out
            have hrq : Hid (w5.rangeAt g (o + P * 4) [.int .i64 x.head, .string N, .string F, .string ⟨#[]⟩]) := Lib.hid (by
              rw [hyv] at hrr
              simpa [strv] using hrr)
            have q1 : (0 : Int) ≤ (P : Int) := by omega
            have q3 : (P : Int) < (X.length : Int) := by omega
            have q4 : ((P : Int) == (X.length : Int)) = false := by simp; omega
            clear hyv hrr hin j1 j2 hrows5
            go_upto_region 12 with fail
            refine wp_region_noPanic ?_
            refine wp_region_held_drew (S := (fun W => Keeps (fun _ => False) w5 W)) (by kernel_rfl) (((Keeps.refl _ _).drew)) (fun hHeld => ?_)
            refine tk 0 rfl ?_
            refine tk 1 rfl ?_
            refine tk 2 rfl ?_
            refine tk 3 rfl ?_
            refine tk 4 rfl ?_
            refine tk 5 rfl ?_
            refine tk 6 rfl ?_
            refine tk 7 rfl ?_
            refine tkL 8 rfl (yieldsIf_load_mid (by rfl) 48 (.tmp 61) rfl g (o + P * 4) rfl [.int .i64 x.head, .string N, .string F, .string ⟨#[]⟩] _ (fun _ s => s.rangeAt hrq.out id) Tryz.underlying48 rfl lineInfo5) ?_
            refine tkL 9 rfl (yieldsIf_load_mid (by rfl) 48 (.tmp 7) rfl bs 0 rfl [.int .i64 x.head, .string N, .string F, .string ⟨#[]⟩] _ (fun _ s => (hB5.out.keep s id).range) Tryz.underlying48 rfl lineInfo5) ?_
            refine tk 10 (v := .bool false) (hy := fun wS hSw => by
              have hl := line_neq wS x.head x.head N F ⟨#[]⟩ N F ⟨#[]⟩ false (by simp)
              unfold execOp
              simp only [Act.eval, Array.getD_eq_getD_getElem?, List.getElem?_toArray, List.getElem?_cons_zero, List.getElem?_cons_succ, Option.getD_some, Sem.run_bind, Sem.run_pure, Result.andThen_ok, guardLine5, hl]) rfl ?_
            refine tk 11 rfl ?_
            refine wpAnyH_done (by kernel_rfl) (NoPanic.normal ?_) _
            have hO6 := Lib.hid (hO5.out.keep hHeld (fun _ _ f => f))
            have hK6 := Lib.hid (hKw5.out.trans hHeld)
            clear hHeld hrq
            go_wp2_with fail
            exact ⟨⟨k + 1, X, _, cl, by omega, by go_num, rfl, by omega, hst2, hO6, hK6⟩, by simp [intOf]; omega⟩
          · have hst2 : Hid (X.take P ++ (y :: X.drop P) = allT (a ++ b) (k + 1)) := Lib.hid (by rw [hst.out, ← hX.out]; exact (j2 hin).symm)
            have hXk : ∀ q2 ∈ X, kL q2 = q2 := by rw [hX.out]; exact allT_facts _ _
            have hXk' := Lib.hid hXk
            have hin' := Lib.hid hin
            clear j1 j2 hXk hin
            go_upto_region 12 with fail
            go_cut [65] (fun tv wx => tv = .bool true ∧ Hid (Keeps (fun _ => False) w5 wx))
            case first =>
              by_cases hPX : P < X.length
              · obtain ⟨q2, hq⟩ : ∃ q, X[P]? = some q := ⟨_, List.getElem?_eq_getElem hPX⟩
                obtain ⟨g, o, rfl, hrr⟩ := hrows5.out q2 hq
                have hqv : q2.value = [] := by
                  have := hXk'.out q2 (List.mem_of_getElem? hq)
                  rw [← this]; rfl
                obtain ⟨QN, hQN⟩ : ∃ N : ByteArray, N = ⟨q2.name.toArray⟩ := ⟨_, rfl⟩
                obtain ⟨QF, hQF⟩ : ∃ N : ByteArray, N = ⟨q2.leaf.toArray⟩ := ⟨_, rfl⟩
                have hrq : Hid (w5.rangeAt g (o + P * 4) [.int .i64 q2.head, .string QN, .string QF, .string ⟨#[]⟩]) := Lib.hid (by
                  rw [hqv] at hrr
                  rw [hQN, hQF]; exact hrr)
                have hzz : Hid ((true = false) ↔ (q2.head = x.head ∧ QN.toList = N.toList ∧ QF.toList = F.toList ∧ (⟨#[]⟩ : ByteArray).toList = (⟨#[]⟩ : ByteArray).toList)) := Lib.hid ⟨fun h => (by cases h), fun h => (by
                  exfalso
                  refine hin'.out ?_
                  rw [hq, hkl.out]
                  have e2 := h.2.1
                  have e3 := h.2.2.1
                  rw [Lib.toList_data, Lib.toList_data, hQN] at e2
                  rw [Lib.toList_data, Lib.toList_data, hQF] at e3
                  have e1 := h.1
                  have e4 : q2 = ⟨q2.head, q2.name, q2.leaf, q2.value⟩ := rfl
                  rw [e4, e1, hqv, ← e2, ← e3])⟩
                have q1 : (0 : Int) ≤ (P : Int) := by omega
                have q3 : (P : Int) < (X.length : Int) := by omega
                have q4 : ((P : Int) == (X.length : Int)) = false := by simp; omega
                have hzz' : Hid (∀ wS : World, (binOp .neq 48 (.agg #[.int .i64 q2.head, .string QN, .string QF, .string ⟨#[]⟩]) (.agg #[.int .i64 x.head, .string N, .string F, .string ⟨#[]⟩])).run Tryz.prog wS = .ok (.bool true) wS) := Lib.hid (fun wS => line_neq wS q2.head x.head QN QF ⟨#[]⟩ N F ⟨#[]⟩ true hzz.out)
                clear hrr hq hqv hQN hQF hzz hPX hrows5
                refine wp_region_noPanic ?_
                refine wp_region_held_drew (S := (fun W => Keeps (fun _ => False) w5 W)) (by kernel_rfl) (((Keeps.refl _ _).drew)) (fun hHeld => ?_)
                refine tk 0 rfl ?_
                refine tk 1 rfl ?_
                refine tk 2 rfl ?_
                refine tk 3 rfl ?_
                refine tk 4 rfl ?_
                refine tk 5 rfl ?_
                refine tk 6 rfl ?_
                refine tk 7 rfl ?_
                refine tkL 8 rfl (yieldsIf_load_mid (by rfl) 48 (.tmp 61) rfl g (o + P * 4) rfl [.int .i64 q2.head, .string QN, .string QF, .string ⟨#[]⟩] _ (fun _ s => s.rangeAt hrq.out id) Tryz.underlying48 rfl lineInfo5) ?_
                refine tkL 9 rfl (yieldsIf_load_mid (by rfl) 48 (.tmp 7) rfl bs 0 rfl [.int .i64 x.head, .string N, .string F, .string ⟨#[]⟩] _ (fun _ s => (hB5.out.keep s id).range) Tryz.underlying48 rfl lineInfo5) ?_
                refine tk 10 (v := .bool true) (hy := fun wS hSw => by
                  have hl := hzz'.out wS
                  unfold execOp
                  simp only [Act.eval, Array.getD_eq_getD_getElem?, List.getElem?_toArray, List.getElem?_cons_zero, List.getElem?_cons_succ, Option.getD_some, Sem.run_bind, Sem.run_pure, Result.andThen_ok, guardLine5, hl]) rfl ?_
                refine tk 11 rfl ?_
                refine wpAnyH_done (by kernel_rfl) (NoPanic.normal ?_) _
                have hKz := Lib.hid hHeld
                clear hHeld
                go_wp2_with fail
                go_meet
                case rel => exact ⟨rfl, hKz⟩
              · have q4 : ((P : Int) == (X.length : Int)) = true := by simp; omega
                refine wp_region_noPanic ?_
                refine wp_region_held_drew (S := (fun W => Keeps (fun _ => False) w5 W)) (by kernel_rfl) (((Keeps.refl _ _).drew)) (fun hHeld => ?_)
                refine tk 0 rfl ?_
                refine tk 1 rfl ?_
                refine tk 2 rfl ?_
                refine tk 3 rfl ?_
                refine tk 4 rfl ?_
                refine tkS 5 rfl ?_
                refine tkS 6 rfl ?_
                refine tkS 7 rfl ?_
                refine tkS 8 rfl ?_
                refine tkS 9 rfl ?_
                refine tkS 10 rfl ?_
                refine tk 11 rfl ?_
                refine wpAnyH_done (by kernel_rfl) (NoPanic.normal ?_) _
                have hKz := Lib.hid hHeld
                clear hHeld
                go_wp2_with fail
                go_meet
                case rel => exact ⟨rfl, hKz⟩
            case rest =>
              obtain ⟨rfl, hK6⟩ := hcut
              have hB6 := Lib.hid (hB5.out.keep hK6.out id)
              have hO6 := Lib.hid (hO5.out.keep hK6.out (fun _ _ f => f))
              have hKw6 := Lib.hid (hKw5.out.trans hK6.out)
              generalize hgz : wc = w6 at hB6 hO6 hKw6 ⊢
              clear hgz hK6 hB5 hO5 hKw5 hrows5
              have hcap : P ≤ cl := by obtain ⟨p9, c9, e9, -, h9, -⟩ := hO6.out.at lineVals_len; injection e9 with e1 e2 e3; subst e3; omega
              have hR69 := Lib.hid (rows_full (hO6.out.at lineVals_len) P hPl)
              have hR74 := Lib.hid ((hO6.out.at lineVals_len).from P hPl)
              have t1 : (0 : Int) ≤ (P : Int) := by omega
              have t2 : (P : Int) ≤ (cl : Int) := by omega
              have t3 : (P : Int) ≤ (X.length : Int) := by omega
              clear hcap
              have h7a := own_new5 w6 y
              rw [show lineVals y = [.int .i64 x.head, .string N, .string F, .string ⟨#[]⟩] by rw [hkl.out]; simp [lineVals, strv]] at h7a
              have hO7 : Hid (OwnR 48 4 lineVals w6 ((w6.alloc (.cells #[.int .i64 x.head, .string N, .string F, .string ⟨#[]⟩] 48)).drew) (.slice (some ⟨w6.heap.size, 0, none⟩) 1 1) [y]) := Lib.hid (h7a.keep ((Keeps.refl (fun _ => False) _).drew) (fun _ _ f => f))
              have k67 : Hid (Keeps (fun _ => False) w6 ((w6.alloc (.cells #[.int .i64 x.head, .string N, .string F, .string ⟨#[]⟩] 48)).drew)) := Lib.hid (((Keeps.refl (fun _ => False) w6).alloc _).drew)
              have hl74 : (X.drop P).length = X.length - P := List.length_drop
              have hl69 : (X.take P).length = P := by rw [List.length_take]; omega
              have hR69' : Hid (RowsAt 4 lineVals w6 (.slice pl (X.take P).length (X.take P).length) (X.take P)) := Lib.hid (by rw [hl69]; exact hR69.out)
              have hl69' := Lib.hid hl69
              have hl74' := Lib.hid hl74
              clear h7a hl69 hl74 hR69
              go_upto_region 13 with fail
              refine wp_region_noPanic ?_
              refine wp_region_held_drew (S := (fun W => Keeps (fun _ => False) w6 W)) (by kernel_rfl) (((Keeps.refl _ _).drew)) (fun hHeld => ?_)
              refine tk 0 rfl ?_
              refine tk 1 rfl ?_
              refine tk 2 rfl ?_
              refine tk 3 rfl ?_
              refine tkL 4 rfl (yieldsIf_load_mid (by rfl) 48 (.tmp 7) rfl bs 0 rfl [.int .i64 x.head, .string N, .string F, .string ⟨#[]⟩] _ (fun _ s => (hB6.out.keep s id).range) Tryz.underlying48 rfl lineInfo5) ?_
              refine tk 6 rfl ?_
              refine tk 7 rfl ?_
              refine tk 8 rfl ?_
              refine stepL 5 rfl (by kernel_rfl) (fun K hK => ?_)
              go_simp
              refine hK.out _ _ ((hHeld.alloc _)) (fun hHeld => ?_)
              clear hK K
              try simp only [Act.put, sA, sZ, sS]
              refine stepL 9 rfl (by kernel_rfl) (fun K hK => ?_)
              rw [if_pos (by rfl)]
              (refine wp_append_rows (.tmp 71) (.tmp 74) 22 48 rfl i5 _ 56 Tryz.underlying22 hi5 hj5 hk5 hm5 rfl (by decide) (by decide) lineVals_len lineVals_one w6 _ [y] rfl hO7.out _ rfl (X.drop P) (hR74.out.keep k67.out) (by rw [hl74'.out]; simp; omega) ?_; intro q8 d8 w8 hO8 hg8; have hO8' := Lib.hid hO8; have hK8 := Lib.hid (OwnR.keeps hO7.out k67.out hg8); clear hO8 hg8)
              refine hK.out _ _ (hK8.out) (fun hHeld => ?_)
              clear hK K
              try simp only [Act.put, sA, sZ, sS]
              have hR8 : Hid (RowsAt 4 lineVals w8 (.slice q8 ([y] ++ X.drop P).length d8) ([y] ++ X.drop P)) := Lib.hid (by rw [List.length_append]; exact hO8'.out.at lineVals_len)
              have hx75 : Hid ((Value.slice q8 ([y].length + (X.drop P).length) d8) = .slice q8 ([y] ++ X.drop P).length d8) := Lib.hid (by rw [List.length_append])
              refine stepL 10 rfl (by kernel_rfl) (fun K hK => ?_)
              rw [if_pos (by rfl)]
              (refine wp_append_full (.tmp 69) (.tmp 75) 22 48 rfl i5 _ 56 Tryz.underlying22 hi5 hj5 hk5 hm5 rfl (by decide) (by decide) lineVals_len lineVals_one pl (X.take P) (by rw [hl69'.out]; rfl) (hR69'.out.keep hK8.out) q8 ([y] ++ X.drop P) d8 (by rw [← hx75.out]; rfl) hR8.out (by simp) (by rw [hl69'.out, List.length_append, hl74'.out]; simp; omega) ?_; intro q9 d9 w9 hO9 hk9; have hO9' := Lib.hid hO9; have hK9 := Lib.hid (hK8.out.trans hk9); clear hO9 hk9)
              refine hK.out _ _ (hK9.out) (fun hHeld => ?_)
              clear hK K
              try simp only [Act.put, sA, sZ, sS]
              refine tk 11 rfl ?_
              refine wpAnyH_done (by kernel_rfl) (NoPanic.normal ?_) _
              have hO10 : Hid (OwnR 48 4 lineVals w w9 (.slice q9 (X.take P ++ (y :: X.drop P)).length d9) (X.take P ++ (y :: X.drop P))) := Lib.hid (by
                have h := hO9'.out.older (w0 := w) (hKw6.out.trans hK8.out).size
                rw [← List.length_append] at h
                exact h)
              have hK10 := Lib.hid (hKw6.out.trans hK9.out)
              have hL10 : Hid ((X.take P ++ (y :: X.drop P)).length = X.length + 1) := Lib.hid (by rw [List.length_append, List.length_cons, hl69'.out, hl74'.out]; omega)
              have hN10 : Hid ((X.take P ++ (y :: X.drop P)).length = P + (X.length - P + 1)) := Lib.hid (by rw [List.length_append, List.length_cons, hl69'.out, hl74'.out])
              have hO11 : Hid (OwnR 48 4 lineVals w w9 (.slice q9 (P + (X.length - P + 1)) d9) (X.take P ++ (y :: X.drop P))) := Lib.hid (by rw [← hN10.out]; exact hO10.out)
              clear hO9' hK9 hO8' hK8 hR8 hx75 hl69' hl74' hR69' hR74 hHeld
              go_wp2_with fail
              exact ⟨⟨k + 1, X.take P ++ (y :: X.drop P), q9, d9, by omega, by go_num, by rw [hN10.out], by rw [hL10.out]; omega, hst2, hO11, hK10⟩, by simp [intOf]; omega⟩
    · have hXa : X = allK (a ++ b) := by rw [hX.out, allT, List.take_of_length_le (by rw [List.length_append]; omega)]
      have m1 : ¬ (k : Int) < (a.length : Int) + (b.length : Int) := by omega
      have hdoc : Hid (docCh a b = X.flatMap (fun q => oneCh q (valK a q) (valK b q))) := Lib.hid (by rw [hXa]; rfl)
      have hXk : Hid (∀ q ∈ X, kL q = q) := Lib.hid (by rw [hX.out]; exact allT_facts _ _)
      have hX64 : X.length ≤ 128 := by omega
      clear hX hXa hsum hlk hXl hk
      obtain ⟨wq, rfl⟩ : ∃ x, x = wr := ⟨_, rfl⟩
      have hbs := Lib.hid hK.out.size
      have hKq := hK
      clear hK
      go_wp2_with fail
      go_loopw [10, 9] (fun iv ov w2 => ∃ (m : Nat) (Y : List ChD) (po : Option Addr) (co : Nat), m ≤ X.length ∧ iv = .int .i64 m ∧ ov = .slice po Y.length co ∧ Hid (Y = (X.take m).flatMap (fun q => oneCh q (valK a q) (valK b q))) ∧ Hid (OwnR 69 6 cVals wq w2 ov Y) ∧ Hid (Keeps (fun _ => False) wq w2)) (fun iv _ _ => X.length - (intOf iv).toNat)
      case atStart => exact ⟨0, [], none, 0, by omega, rfl, rfl, Lib.hid rfl, Lib.hid (OwnR.nil _ _ (Nat.le_refl _)), Lib.hid (Keeps.refl _ _)⟩
      case round =>
        obtain ⟨m, Y, po, co, hm, rfl, rfl, hY, hOY, hKY⟩ := hrel
        by_cases hmX : m < X.length
        · obtain ⟨q2, hq⟩ : ∃ q, X[m]? = some q := ⟨_, List.getElem?_eq_getElem hmX⟩
          have hqv : q2.value = [] := by
            have := hXk.out q2 (List.mem_of_getElem? hq)
            rw [← this]; rfl
          have hYl : Hid (Y.length ≤ m) := Lib.hid (by
            rw [hY.out]
            have h1 := flat_len (f := fun q => oneCh q (valK a q) (valK b q)) (fun x => oneCh_len _ _ _) (X.take m)
            rw [List.length_take] at h1; omega)
          have hstep : Hid ((X.take (m + 1)).flatMap (fun q => oneCh q (valK a q) (valK b q)) = Y ++ oneCh q2 (valK a q2) (valK b q2)) := Lib.hid (by rw [flat_take _ hq, hY.out])
          obtain ⟨g, o, rfl, hrr⟩ := (hO.out.at lineVals_len).open (by omega)
          obtain ⟨QN, hQN⟩ : ∃ N : ByteArray, N = ⟨q2.name.toArray⟩ := ⟨_, rfl⟩
          obtain ⟨QF, hQF⟩ : ∃ N : ByteArray, N = ⟨q2.leaf.toArray⟩ := ⟨_, rfl⟩
          have hrow : Hid (wr.rangeAt g (o + m * 4) [.int .i64 q2.head, .string QN, .string QF, .string ⟨#[]⟩]) := Lib.hid (by
            have h := hKY.out.rangeAt (hrr m q2 hq) id
            rw [lineVals, hqv] at h
            rw [hQN, hQF]; exact h)
          obtain ⟨VA, hVA⟩ : ∃ N : ByteArray, N = ⟨(valueK a q2.head QN.data.toList QF.data.toList).toArray⟩ := ⟨_, rfl⟩
          obtain ⟨VB, hVB⟩ : ∃ N : ByteArray, N = ⟨(valueK b q2.head QN.data.toList QF.data.toList).toArray⟩ := ⟨_, rfl⟩
          have hVA' := Lib.hid hVA
          have hVB' := Lib.hid hVB
          have hone : Hid (oneCh q2 (valK a q2) (valK b q2) = oneCh ⟨q2.head, QN.data.toList, QF.data.toList, []⟩ VA.data.toList VB.data.toList) := Lib.hid (by
            rw [hVA, hVB, hQN, hQF]; rfl)
          have hv3 : Hid (RowsAt 4 lineVals wr (.slice p a.length c) a) := Lib.hid (hv.out.keep (hKq.out.trans hKY.out))
          have hu3 : Hid (RowsAt 4 lineVals wr (.slice q b.length d) b) := Lib.hid (hu.out.keep (hKq.out.trans hKY.out))
          have q1 : (0 : Int) ≤ (m : Int) := by omega
          have q3 : (m : Int) < (X.length : Int) := by omega
          clear hrr hQN hQF hq hqv hVA hVB
          go_upto_region 18 with fail
          refine wp_region_noPanic ?_
          refine wp_region_held_drew (S := (fun W => Keeps (fun _ => False) wr W)) (by kernel_rfl) (((Keeps.refl _ _).drew)) (fun hHeld => ?_)
          refine tk 0 rfl ?_
          refine tk 1 rfl ?_
          refine tk 2 rfl ?_
          refine tk 3 rfl ?_
          refine tk 6 rfl ?_
          refine tk 7 rfl ?_
          refine tk 8 rfl ?_
          refine tk 9 rfl ?_
          refine tkL 4 rfl (yieldsIf_load_mid (by rfl) 48 (.tmp 86) rfl g (o + m * 4) rfl [.int .i64 q2.head, .string QN, .string QF, .string ⟨#[]⟩] _ (fun _ s => s.rangeAt hrow.out id) Tryz.underlying48 rfl lineInfo5) ?_
          refine tkL 10 rfl (yieldsIf_load_mid (by rfl) 48 (.tmp 92) rfl g (o + m * 4) rfl [.int .i64 q2.head, .string QN, .string QF, .string ⟨#[]⟩] _ (fun _ s => s.rangeAt hrow.out id) Tryz.underlying48 rfl lineInfo5) ?_
          refine stepL 5 rfl (by kernel_rfl) (fun K hK => ?_)
          go_simp
          (refine (r7Value_any _ a q2.head QN QF VA _ (Lib.hid (hv3.out.keep hHeld)) (by omega) hVA').mono ?_; rintro e w6 ⟨rfl, hk6⟩)
          go_wp2_with fail
          refine hK.out _ _ (hHeld.trans hk6) (fun hHeld => ?_)
          clear hK K
          try simp only [Act.put, sA, sZ, sS]
          refine stepL 11 rfl (by kernel_rfl) (fun K hK => ?_)
          go_simp
          (refine (r7Value_any _ b q2.head QN QF VB _ (Lib.hid (hu3.out.keep hHeld)) (by omega) hVB').mono ?_; rintro e w6 ⟨rfl, hk6⟩)
          go_wp2_with fail
          refine hK.out _ _ (hHeld.trans hk6) (fun hHeld => ?_)
          clear hK K
          try simp only [Act.put, sA, sZ, sS]
          refine tk 12 rfl ?_
          refine tk 13 rfl ?_
          refine wpAnyH_done (by kernel_rfl) (NoPanic.normal ?_) _
          have hrowr := Lib.hid (hHeld.rangeAt hrow.out id)
          have hO3 := Lib.hid (hOY.out.keep hHeld (fun _ _ f => f))
          have hK3 := Lib.hid (hKY.out.trans hHeld)
          clear hHeld hrow hVA' hVB' hv3 hu3 hOY hKY
          by_cases hVV : VA.data.toList = VB.data.toList
          · have e19 : (VA.toList == VB.toList) = true := by rw [eq_list]; exact decide_eq_true hVV
            have hnew : Hid (Y = (X.take (m + 1)).flatMap (fun q => oneCh q (valK a q) (valK b q))) := Lib.hid (by
              rw [hstep.out, hone.out]; unfold oneCh; rw [if_pos hVV, List.append_nil])
            clear hVV hstep hone hrowr
            go_wp2_with fail
            exact ⟨⟨m + 1, Y, po, co, by omega, by go_num, rfl, hnew, hO3, hK3⟩, by simp [intOf]; omega⟩
          · have e19 : (VA.toList == VB.toList) = false := by rw [eq_list]; exact decide_eq_false hVV
            have hnew : Hid (Y ++ [⟨⟨q2.head, QN.data.toList, QF.data.toList, []⟩, VA.data.toList, VB.data.toList⟩] = (X.take (m + 1)).flatMap (fun q => oneCh q (valK a q) (valK b q))) := Lib.hid (by
              rw [hstep.out, hone.out]; unfold oneCh; rw [if_neg hVV])
            have hYl' := hYl.out
            clear hVV hstep hone
            go_wp2_with (first | ((with_reducible refine at_slot 102 ?_); go_must (refine wpList_load_mid rfl 48 (.tmp 101) rfl g (o + m * 4) rfl [.int .i64 q2.head, .string QN, .string QF, .string ⟨#[]⟩] _ hrowr.out Tryz.underlying48 rfl lineInfo5 ?_)) | ((with_reducible refine at_slot 107 ?_); go_must (refine wpList_append_r rfl (.tmp 98) (.tmp 106) 63 69 rfl i0 _ 88 Tryz.underlying63 hi0 hi1 hi2 hi3 rfl (by decide) (by decide) cVals_len wq _ Y.length Y rfl rfl (hO3.out.keep ((Keeps.refl (fun _ => False) _).alloc _) (fun _ _ f => f)) _ rfl ⟨⟨q2.head, QN.data.toList, QF.data.toList, []⟩, VA.data.toList, VB.data.toList⟩ (cells_new (n := _) rfl [.int .i64 q2.head, .string QN, .string QF, .string ⟨#[]⟩, .string VA, .string VB] _) (cVals_one _) (by omega) ?_); intro q8 d8 w8 hO8 hg8))
            have hK9 := Lib.hid ((hO3.out.keep ((Keeps.refl (fun _ => False) _).alloc (.cells #[.int .i64 q2.head, .string QN, .string QF, .string ⟨#[]⟩, .string VA, .string VB] 69)) (fun _ _ f => f)).keeps (hK3.out.alloc _) hg8.out)
            exact ⟨⟨m + 1, Y ++ [⟨⟨q2.head, QN.data.toList, QF.data.toList, []⟩, VA.data.toList, VB.data.toList⟩], q8, d8, by omega, by go_num, by simp, hnew, by simpa using hO8, hK9⟩, by simp [intOf]; omega⟩
        · have hYe : Hid (Y = docCh a b) := Lib.hid (by rw [hY.out, hdoc.out, List.take_of_length_le (by omega)])
          have q3 : ¬ (m : Int) < (X.length : Int) := by omega
          have hlen : Hid (Y.length = (docCh a b).length) := Lib.hid (by rw [hYe.out])
          have hO4 := Lib.hid (hOY.out.older hbs.out)
          have hK4 := Lib.hid (hKq.out.trans hKY.out)
          clear hmX hOY hKY hY hdoc hm
          go_wp2_with fail
          go_ret
          exact ⟨po, co, by rw [hlen.out]; rfl, by rw [← hlen.out, ← hYe.out]; exact hO4.out.at cVals_len, hK4.out⟩
end Go.Proofs.YtmclnamgihphcaaGreat
