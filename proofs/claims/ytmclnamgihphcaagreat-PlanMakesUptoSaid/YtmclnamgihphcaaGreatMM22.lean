/- slices.Compact of actions of the call's own, in general. -/
import Derived.Test.YtmclnamgihphcaaGreatMM21
import Derived.Deep.DeepCutAuto
set_option linter.unusedVariables false
set_option linter.unusedSimpArgs false
set_option linter.unusedVariables false
set_option linter.unusedSimpArgs false
namespace Go.Proofs.YtmclnamgihphcaaGreat
open Go.RowKit

theorem act_eqlb (W : World) (h1 h2 : Int) (n1 n2 : ByteArray) (z : Bool) (hz : (z = true) ↔ (h1 = h2 ∧ n1.toList = n2.toList)) :
    (binOp .eql 53 (.agg #[.int .i64 h1, .string n1]) (.agg #[.int .i64 h2, .string n2])).run Tryz.prog W = .ok (.bool z) W := by
  by_cases e1 : h1 = h2
  · subst e1
    by_cases e2 : n1.toList = n2.toList
    · obtain rfl : z = true := hz.2 ⟨rfl, e2⟩
      go_simp
    · obtain rfl : z = false := by cases z with | false => rfl | true => exact absurd (hz.1 rfl).2 e2
      go_simp
  · obtain rfl : z = false := by cases z with | false => rfl | true => exact absurd (hz.1 rfl).1 e1
    go_simp
theorem act_neqb (W : World) (h1 h2 : Int) (n1 n2 : ByteArray) (z : Bool) (hz : (z = false) ↔ (h1 = h2 ∧ n1.toList = n2.toList)) :
    (binOp .neq 53 (.agg #[.int .i64 h1, .string n1]) (.agg #[.int .i64 h2, .string n2])).run Tryz.prog W = .ok (.bool z) W := by
  by_cases e1 : h1 = h2
  · subst e1
    by_cases e2 : n1.toList = n2.toList
    · obtain rfl : z = false := hz.2 ⟨rfl, e2⟩
      go_simp
    · obtain rfl : z = true := by cases z with | true => rfl | false => exact absurd (hz.1 rfl).2 e2
      go_simp
  · obtain rfl : z = true := by cases z with | true => rfl | false => exact absurd (hz.1 rfl).1 e1
    go_simp
theorem same_bytes {x y : ActD} {XN YN : ByteArray} (h1 : XN.data.toList = x.name) (h2 : YN.data.toList = y.name) : sameA y x = true ↔ (y.kind = x.kind ∧ YN.toList = XN.toList) := by
  rw [Lib.toList_data, Lib.toList_data, h1, h2]
  unfold sameA
  simp only [Bool.and_eq_true, decide_eq_true_eq]
def CompRes (v : Value) (L : List ActD) (w0 w : World) (e : Ending) (w' : World) : Prop :=
  ∃ p c, e = .returned (.slice p L.length c) ∧ OwnR 53 2 aVals w0 w' (.slice p L.length c) L ∧ Keeps (fun i => v.ownBlock = some i) w w'
set_option maxRecDepth 100000 in
set_option maxHeartbeats 16000000 in
theorem plCompact_any (v : Value) (L : List ActD) (w0 w : World) (hO : Hid (OwnR 53 2 aVals w0 w v L)) (hl : L.length ≤ 1000000) :
    Calls Tryz.prog 24 #[v] w (CompRes v (compactL L) w0 w) := by
  obtain ⟨p, c, rfl⟩ := hO.out.slice
  have hRA := Lib.hid (hO.out.at aVals_len)
  by_cases h2 : L.length < 2
  · have hcl : compactL L = L := by
      match L, h2 with
      | [], _ => rfl
      | [a], _ => rfl
    rw [hcl]
    have m1 : (L.length : Int) < 2 := by omega
    clear h2 hcl
    go_enter Tryz.func24, Tryz.ntmps24
    go_wp2_with fail
    go_ret
    exact ⟨p, c, rfl, hO.out, Keeps.refl _ _⟩
  · obtain ⟨g, o, rfl, hrows⟩ := hRA.out.open (by omega)
    obtain rfl : o = 0 := by
      rcases hO.out.1.2 with ⟨e, -⟩ | ⟨g2, cap, cur, e, -⟩
      · injection e with e1; cases e1
      · injection e with e1; injection e1 with e1; injection e1
    have hcap : L.length ≤ c := by obtain ⟨cur, -, -, h1, -⟩ := ownA hO.out; exact h1
    have hrows' := Lib.hid hrows
    have m1 : ¬ (L.length : Int) < 2 := by omega
    clear hrows
    go_enter Tryz.func24, Tryz.ntmps24
    go_wp2_with fail
    go_loopw [3] (fun iv wr => ∃ (k : Nat), 1 ≤ k ∧ k ≤ L.length ∧ iv = .int .i64 k ∧ Hid (compactL (L.take k) = L.take k) ∧ Hid (Keeps (fun _ => False) w wr)) (fun iv _ => L.length - (intOf iv).toNat)
    case atStart => exact ⟨1, by omega, by omega, rfl, Lib.hid (compact_one L), Lib.hid (Keeps.refl _ _)⟩
    case round =>
      obtain ⟨k, hk1, hk, rfl, hcp, hkr⟩ := hrel
      by_cases hlk : k < L.length
      · obtain ⟨j, rfl⟩ : ∃ j, k = j + 1 := ⟨k - 1, by omega⟩
        obtain ⟨x, hx⟩ : ∃ x, L[j]? = some x := ⟨_, List.getElem?_eq_getElem (by omega)⟩
        obtain ⟨y, hy⟩ : ∃ x, L[j + 1]? = some x := ⟨_, List.getElem?_eq_getElem hlk⟩
        obtain ⟨XN, hXN⟩ : ∃ N : ByteArray, N = ⟨x.name.toArray⟩ := ⟨_, rfl⟩
        obtain ⟨YN, hYN⟩ : ∃ N : ByteArray, N = ⟨y.name.toArray⟩ := ⟨_, rfl⟩
        have hrx : Hid (wr.rangeAt g (j * 2) [.int .i64 x.kind, .string XN]) := Lib.hid (by
          have h := hkr.out.rangeAt (hrows'.out j x hx) id
          rw [Nat.zero_add] at h
          rw [hXN]; exact h)
        have hry : Hid (wr.rangeAt g ((j + 1) * 2) [.int .i64 y.kind, .string YN]) := Lib.hid (by
          have h := hkr.out.rangeAt (hrows'.out (j + 1) y hy) id
          rw [Nat.zero_add] at h
          rw [hYN]; exact h)
        have hst := Lib.hid (compact_step hx hy)
        obtain ⟨z, hz⟩ : ∃ z, sameA y x = z := ⟨_, rfl⟩
        rw [hz] at hst
        have hzz : Hid ((z = true) ↔ (y.kind = x.kind ∧ YN.toList = XN.toList)) := Lib.hid (by
          rw [← hz]; exact same_bytes (by rw [hXN]) (by rw [hYN]))
        have htk : Hid (L.take (j + 2) = L.take (j + 1) ++ [y]) := Lib.hid (by rw [List.take_add_one, hy]; rfl)
        have n1 : (0 : Int) ≤ ((j + 1 : Nat) : Int) := by omega
        have n2 : ((j + 1 : Nat) : Int) < (L.length : Int) := by omega
        have n3 : (0 : Int) ≤ (j : Int) := by omega
        have n4 : (j : Int) < (L.length : Int) := by omega
        have n5 : (0 : Int) ≤ (j : Int) + 1 := by omega
        have n6 : (j : Int) + 1 < (L.length : Int) := by omega
        have hwj : IntKind.i64.wrap (j : Int) = (j : Int) := by simp [IntKind.wrap, IntKind.bits, IntKind.signed]; omega
        clear hXN hYN hx hy hz
        go_upto_region 6 with fail
        refine wp_region_noPanic ?_
        refine wp_region_held_drew (S := (fun W => Keeps (fun _ => False) wr W)) (by kernel_rfl) (((Keeps.refl _ _).drew)) (fun hHeld => ?_)
        refine tk 0 rfl ?_
        refine tk 1 rfl ?_
        refine tk 2 rfl ?_
        refine tkL 3 rfl (yieldsIf_load_mid (by rfl) 53 (.tmp 18) rfl g ((j + 1) * 2) rfl [.int .i64 y.kind, .string YN] _ (fun _ s => s.rangeAt hry.out id) Tryz.underlying53 rfl actInfo) ?_
        refine tk 4 rfl ?_
        refine tk 5 rfl ?_
        refine tk 6 rfl ?_
        refine tk 7 rfl ?_
        refine tkL 8 rfl (yieldsIf_load_mid (by rfl) 53 (.tmp 23) rfl g (j * 2) rfl [.int .i64 x.kind, .string XN] _ (fun _ s => s.rangeAt hrx.out id) Tryz.underlying53 rfl actInfo) ?_
        refine tk 9 (v := .bool z) (hy := fun wS hSw => by
          have hl := act_eqlb wS y.kind x.kind YN XN z hzz.out
          unfold execOp
          simp only [Act.eval, Array.getD_eq_getD_getElem?, List.getElem?_toArray, List.getElem?_cons_zero, List.getElem?_cons_succ, Option.getD_some, Sem.run_bind, Sem.run_pure, Result.andThen_ok, guardAct, hl]) rfl ?_
        refine wpAnyH_done (by kernel_rfl) (NoPanic.normal ?_) _
        have hKz := Lib.hid (hkr.out.trans hHeld)
        clear hHeld hrx hry hzz
        generalize hgz : wr.drew = w1 at hKz ⊢
        clear hgz
        cases z with
        | false =>
          have hc2 : Hid (compactL (L.take (j + 1 + 1)) = L.take (j + 1 + 1)) := Lib.hid (by
            rw [show j + 1 + 1 = j + 2 from rfl, hst.out, hcp.out, htk.out]; rfl)
          go_wp2_with fail
          exact ⟨⟨j + 1 + 1, by omega, by omega, by go_num, hc2, hKz⟩, by simp [intOf]; omega⟩
        | true =>
          have hO1 := Lib.hid (hO.out.keep hKz.out (fun _ _ f => f))
          have hK1 : Hid (Keeps (fun i => i = g) w w1) := Lib.hid (hKz.out.mono (fun _ f => f.elim))
          have hs0 : Hid (L.take (j + 1) = compactL (L.take (j + 1 + 1))) := Lib.hid (by
            rw [show j + 1 + 1 = j + 2 from rfl, hst.out, hcp.out]; simp)
          have hc1 : ¬ c = j + 1 := by omega
          have hlen2 : (((L.length : Int)) - ((j : Int) + 1)).toNat = L.length - (j + 1) := by omega
          clear hKz hkr hst htk hcp
          go_wp2_with fail
          generalize hJ : (((j + 1 : Nat)) : Int) = J
          have hJ' := Lib.hid hJ
          clear hJ
          go_loopw [5, 3] (fun jv kv wx => ∃ (i kk : Nat) (M : List ActD), 1 ≤ i ∧ i ≤ L.length - (j + 1) ∧ jv = .int .i64 i ∧ kv = .int .i64 kk ∧ kk < j + 1 + i ∧ M.length = L.length ∧ Hid (M.take kk = compactL (L.take (j + 1 + i))) ∧ Hid (∀ q, j + i ≤ q → M[q]? = L[q]?) ∧ Hid (OwnR 53 2 aVals w0 wx (.slice (some ⟨g, 0, none⟩) M.length c) M) ∧ Hid (Keeps (fun i => i = g) w wx)) (fun jv _ _ => L.length - (j + 1) - (intOf jv).toNat)
          case atStart => exact ⟨1, j + 1, L, by omega, by omega, rfl, by rw [← hJ'.out], by omega, rfl, hs0, Lib.hid (fun _ _ => rfl), hO1, hK1⟩
          case round =>
            obtain ⟨i, kk, M, hi1, hi, rfl, rfl, hkk, hML, hMt, hMl, hOM, hKM⟩ := hrel
            clear hO1 hK1 hs0
            by_cases hil : i < L.length - (j + 1)
            · obtain ⟨i, rfl⟩ : ∃ i', i = i' + 1 := ⟨i - 1, by omega⟩
              obtain ⟨x2, hx⟩ : ∃ x, L[j + 1 + i]? = some x := ⟨_, List.getElem?_eq_getElem (by omega)⟩
              obtain ⟨y2, hy⟩ : ∃ x, L[j + 1 + i + 1]? = some x := ⟨_, List.getElem?_eq_getElem (by omega)⟩
              have hrows2 : ∀ q a, M[q]? = some a → wr.rangeAt g (q * 2) (aVals a) := fun q a hq => by
                obtain ⟨g2, o2, e, h⟩ := (hOM.out.at aVals_len).open (by omega)
                injection e with e; injection e with e1 e2
                subst e1; subst e2
                have := h q a hq
                rwa [Nat.zero_add] at this
              obtain ⟨XN2, hXN⟩ : ∃ N : ByteArray, N = ⟨x2.name.toArray⟩ := ⟨_, rfl⟩
              obtain ⟨YN2, hYN⟩ : ∃ N : ByteArray, N = ⟨y2.name.toArray⟩ := ⟨_, rfl⟩
              have hrx : Hid (wr.rangeAt g ((j + 1) * 2 + i * 2) [.int .i64 x2.kind, .string XN2]) := Lib.hid (by
                have h := hrows2 (j + 1 + i) x2 (by rw [hMl.out _ (by omega)]; exact hx)
                rw [show (j + 1 + i) * 2 = (j + 1) * 2 + i * 2 by omega] at h
                rw [hXN]; exact h)
              have hry : Hid (wr.rangeAt g ((j + 1) * 2 + (i + 1) * 2) [.int .i64 y2.kind, .string YN2]) := Lib.hid (by
                have h := hrows2 (j + 1 + i + 1) y2 (by rw [hMl.out _ (by omega)]; exact hy)
                rw [show (j + 1 + i + 1) * 2 = (j + 1) * 2 + (i + 1) * 2 by omega] at h
                rw [hYN]; exact h)
              have hst := Lib.hid (compact_step hx hy)
              obtain ⟨z, hz⟩ : ∃ z, (!sameA y2 x2) = z := ⟨_, rfl⟩
              have hzz : Hid ((z = false) ↔ (y2.kind = x2.kind ∧ YN2.toList = XN2.toList)) := Lib.hid (by
                rw [← same_bytes (x := x2) (y := y2) (by rw [hXN]) (by rw [hYN]), ← hz]; cases sameA y2 x2 <;> simp)
              have hzs : Hid (sameA y2 x2 = !z) := Lib.hid (by rw [← hz]; simp)
              have hyn : Hid (strv y2.name = .string YN2) := Lib.hid (by rw [hYN]; rfl)
              have hiL : i + 1 < L.length - (j + 1) := hil
              have n1 : (0 : Int) ≤ ((i + 1 : Nat) : Int) := by omega
              have n2 : ((i + 1 : Nat) : Int) < ((L.length - (j + 1) : Nat) : Int) := by omega
              have n3 : (0 : Int) ≤ (i : Int) := by omega
              have n4 : (i : Int) < ((L.length - (j + 1) : Nat) : Int) := by omega
              have n5 : (0 : Int) ≤ (i : Int) + 1 := by omega
              have n6 : (i : Int) + 1 < ((L.length - (j + 1) : Nat) : Int) := by omega
              have hwj : IntKind.i64.wrap (i : Int) = (i : Int) := by simp [IntKind.wrap, IntKind.bits, IntKind.signed]; omega
              generalize hm : L.length - (j + 1) = m at hi hil hiL n2 n4 n6 ⊢
              have hm' : Hid (i + 1 + 1 ≤ m ∧ L.length = m + (j + 1)) := Lib.hid ⟨by omega, by omega⟩
              have n7 : (m : Int) ≤ 1000000 := by omega
              clear hXN hYN hx hy hz hrows2 hm hil
              go_upto_region 11 with fail
              refine wp_region_noPanic ?_
              refine wp_region_held_drew (S := (fun W => Keeps (fun _ => False) wr W)) (by kernel_rfl) (((Keeps.refl _ _).drew)) (fun hHeld => ?_)
              refine tk 0 rfl ?_
              refine tk 1 rfl ?_
              refine tk 2 rfl ?_
              refine tkL 3 rfl (yieldsIf_load_mid (by rfl) 53 (.tmp 37) rfl g ((j + 1) * 2 + (i + 1) * 2) rfl [.int .i64 y2.kind, .string YN2] _ (fun _ s => s.rangeAt hry.out id) Tryz.underlying53 rfl actInfo) ?_
              refine tk 4 rfl ?_
              refine tk 5 rfl ?_
              refine tk 6 rfl ?_
              refine tk 7 rfl ?_
              refine tkL 8 rfl (yieldsIf_load_mid (by rfl) 53 (.tmp 42) rfl g ((j + 1) * 2 + i * 2) rfl [.int .i64 x2.kind, .string XN2] _ (fun _ s => s.rangeAt hrx.out id) Tryz.underlying53 rfl actInfo) ?_
              refine tk 9 (v := .bool z) (hy := fun wS hSw => by
                have hl := act_neqb wS y2.kind x2.kind YN2 XN2 z hzz.out
                unfold execOp
                simp only [Act.eval, Array.getD_eq_getD_getElem?, List.getElem?_toArray, List.getElem?_cons_zero, List.getElem?_cons_succ, Option.getD_some, Sem.run_bind, Sem.run_pure, Result.andThen_ok, guardAct, hl]) rfl ?_
              refine wpAnyH_done (by kernel_rfl) (NoPanic.normal ?_) _
              have hOz := Lib.hid (hOM.out.keep hHeld (fun _ _ f => f))
              have hKz := Lib.hid (hKM.out.trans' hHeld (fun _ f => f.elim))
              have hry2 := Lib.hid (hHeld.rangeAt hry.out id)
              clear hHeld hrx hry hzz hOM hKM
              generalize hgz : wr.drew = w2 at hOz hKz hry2 ⊢
              clear hgz
              cases z with
              | false =>
                have hMs : Hid (M.take kk = compactL (L.take (j + 1 + (i + 1 + 1)))) := Lib.hid (by
                  rw [hMt.out, show j + 1 + (i + 1 + 1) = j + 1 + i + 2 by omega, hst.out, hzs.out]; simp; rfl)
                have hMl2 : Hid (∀ q, j + (i + 1 + 1) ≤ q → M[q]? = L[q]?) := Lib.hid (fun q hq => hMl.out q (by omega))
                clear hst hzs hMt hMl hry2
                go_wp2_with fail
                exact ⟨⟨i + 1 + 1, kk, M, by omega, by obtain ⟨t1, t2⟩ := hm'.out; omega, by go_num, rfl, by omega, hML, hMs, hMl2, hOz, hKz⟩, by obtain ⟨t1, t2⟩ := hm'.out; simp [intOf]; omega⟩
              | true =>
                have hkM : kk < M.length := by obtain ⟨t1, t2⟩ := hm'.out; omega
                have hMs : Hid ((M.set kk y2).take (kk + 1) = compactL (L.take (j + 1 + (i + 1 + 1)))) := Lib.hid (by
                  rw [take_set_one hkM, hMt.out, show j + 1 + (i + 1 + 1) = j + 1 + i + 2 by omega, hst.out, hzs.out]; rfl)
                have hMl2 : Hid (∀ q, j + (i + 1 + 1) ≤ q → (M.set kk y2)[q]? = L[q]?) := Lib.hid (fun q hq => by
                  rw [List.getElem?_set, if_neg (by omega)]; exact hMl.out q (by omega))
                have hO9 : Hid (OwnR 53 2 aVals w0 (w2.setCells g (kk * 2) [.int .i64 y2.kind, .string YN2]) (.slice (some ⟨g, 0, none⟩) (M.set kk y2).length c) (M.set kk y2)) := Lib.hid (by
                  have h := setA hOz.out kk y2 hkM
                  rw [hyn.out] at h
                  rw [List.length_set]; exact h)
                have hK9 : Hid (Keeps (fun i => i = g) w (w2.setCells g (kk * 2) [.int .i64 y2.kind, .string YN2])) := Lib.hid (hKz.out.trans (Keeps.setCells (F := fun j => j = g) (.inl rfl) _ _ _ (Keeps.refl _ _)))
                obtain ⟨cur, hcB, -, hcM, -, hcl, -⟩ := ownA hOz.out
                have hth := hcB.there (kk * 2) 2 (by omega)
                have hth' : Hid (w2.there g (kk * 2) 2) := Lib.hid hth
                have q1 : (0 : Int) ≤ (kk : Int) := by omega
                have q2 : (kk : Int) < (L.length : Int) := by omega
                clear hst hzs hMt hMl hcB hcM hcl hth hOz hKz hyn
                go_wp2_with (first | ((with_reducible refine at_slot 50 ?_); refine wpList_load_mid rfl 53 (.tmp 49) rfl g ((j + 1) * 2 + (i + 1) * 2) rfl [.int .i64 y2.kind, .string YN2] _ hry2.out Tryz.underlying53 rfl actInfo ?_) | ((with_reducible refine at_store 51 ?_); refine wpList_store_mid rfl 53 (.tmp 51) (.tmp 50) rfl g (kk * 2) #[.int .i64 y2.kind, .string YN2] rfl rfl hth'.out actInfo (by simp; exact ⟨rfl, rfl⟩) ?_))
                exact ⟨⟨i + 1 + 1, kk + 1, M.set kk y2, by omega, by obtain ⟨t1, t2⟩ := hm'.out; omega, by go_num, by go_num, by omega, by simpa using hML, hMs, hMl2, hO9, hK9⟩, by obtain ⟨t1, t2⟩ := hm'.out; simp [intOf]; omega⟩
            · obtain rfl : i = L.length - (j + 1) := by omega
              have hkM : kk < M.length := by omega
              obtain ⟨Z, hZ⟩ := clearA (n := L.length - kk) hOM.out kk hkM (by omega)
              have hfin : Hid (M.take kk = compactL L) := Lib.hid (by
                rw [hMt.out, show j + 1 + (L.length - (j + 1)) = L.length by omega, List.take_length])
              have hO9 := Lib.hid (cutA hOM.out kk (by omega) Z)
              have hK9 : Hid (Keeps (fun i => i = g) w (wr.setCells g (kk * 2) Z)) := Lib.hid (hKM.out.trans (Keeps.setCells (F := fun j => j = g) (.inl rfl) _ _ _ (Keeps.refl _ _)))
              have hlk9 : Hid ((compactL L).length = kk) := Lib.hid (by rw [← hfin.out, List.length_take]; omega)
              have r1 : ¬ c = kk := by omega
              have r2 : (kk : Int) ≤ (L.length : Int) := by omega
              have r3 : (0 : Int) ≤ (kk : Int) := by omega
              have r4 : (kk : Int) ≤ (c : Int) := by omega
              clear hMt hMl hOM hKM hil hkM
              go_wp2_with fail
              go_ret
              rw [hfin.out] at hO9
              refine ⟨some ⟨g, 0, none⟩, c, ?_, by rw [hlk9.out]; exact hO9.out, hK9.out.mono (fun i e => .inl (by rw [e]; rfl))⟩
              rw [hlk9.out]; rfl
      · obtain rfl : k = L.length := by omega
        rw [List.take_length] at hcp
        have hcp' : Hid (L = compactL L) := Lib.hid hcp.out.symm
        clear hcp
        go_wp2_with fail
        go_ret
        rw [← hcp'.out]
        exact ⟨_, c, rfl, hO.out.keep hkr.out (fun _ _ f => f), hkr.out.mono (fun _ f => f.elim)⟩
end Go.Proofs.YtmclnamgihphcaaGreat
/- plan.Make, of two right configurations whose actions are all unlike. -/
set_option linter.unusedVariables false
set_option linter.unusedSimpArgs false
namespace Go.Proofs.YtmclnamgihphcaaGreat
open Go.RowKit

def rawA (a b : List LineD) : List ActD := facesC a b (mergeC (a.length + b.length) a b) ++ areasC (mergeC (a.length + b.length) a b)
def makeA (a b : List LineD) : List ActD := if wholeC a (mergeC (a.length + b.length) a b) = true then [⟨1, []⟩] else sortA (rawA a b)
/-- actions, and no error -/
def MakeRes (L : List ActD) (w : World) (e : Ending) (w' : World) : Prop :=
  ∃ p c, e = .returned (.tuple #[.slice p L.length c, .int .i64 0]) ∧ RowsAt 2 aVals w' (.slice p L.length c) L ∧ Keeps (fun _ => False) w w'
theorem plMake_no (v u : Value) (A B : List LineD) (w : World) (hv : Hid (RowsAt 4 lineVals w v A)) (hu : Hid (RowsAt 4 lineVals w u B)) (hl : A.length ≤ 9223372036854775807) (hl2 : B.length ≤ 9223372036854775807) (hlt : Hid (LinesLt A 9223372036854775807)) (hlt2 : Hid (LinesLt B 9223372036854775807)) (hr : Hid (rightC A = false ∨ rightC B = false)) :
    Calls Tryz.prog 5 #[v, u] w (NewRes (.tuple #[.slice none 0 0, .int .i64 1]) w) := by
  go_enter Tryz.func5, Tryz.ntmps5
  go_wp2_with fail
  refine (lines_no v u A B _ hv hu hl hl2 hlt hlt2 hr).mono ?_
  rintro e w2 ⟨rfl, k2⟩
  have k2' := Lib.hid k2
  clear k2
  go_wp2_with fail
  go_ret2
  exact ⟨rfl, k2'.out⟩
set_option maxRecDepth 100000 in
set_option maxHeartbeats 8000000 in
theorem plMake_c (v u : Value) (A B : List LineD) (w : World) (hv : Hid (RowsAt 4 lineVals w v A)) (hu : Hid (RowsAt 4 lineVals w u B)) (hrA : Hid (rightC A = true)) (hrB : Hid (rightC B = true)) (hnd : Hid ((rawA A B).Nodup)) :
    Calls Tryz.prog 5 #[v, u] w (MakeRes (makeA A B) w) := by
  have hlA := right_len hrA.out
  have hlB := right_len hrB.out
  have hml := mergeC_len (A.length + B.length) A B (Nat.le_refl _)
  obtain ⟨i0, hi0, hi1, hi2, hi3⟩ := actAll
  have hfl := facesC_len A B (mergeC (A.length + B.length) A B)
  have hn1 := namesA_len 2 A
  have hn2 := namesA_len 2 B
  have hal : (areasC (mergeC (A.length + B.length) A B)).length ≤ (mergeC (A.length + B.length) A B).length := flat_len (f := fun c : ChD => if isCost c = true then [(⟨7, c.line.name⟩ : ActD)] else []) (fun x => by split <;> simp) _
  go_enter Tryz.func5, Tryz.ntmps5
  go_wp2_with fail
  refine (lines_c v u A B _ hv hu hrA hrB).mono ?_
  obtain ⟨z, hz⟩ : ∃ z, wholeC A (mergeC (A.length + B.length) A B) = z := ⟨_, rfl⟩
  have hmk : Hid (makeA A B = if z = true then [⟨1, []⟩] else sortA (facesC A B (mergeC (A.length + B.length) A B) ++ areasC (mergeC (A.length + B.length) A B))) := Lib.hid (by rw [← hz]; rfl)
  have hnd' : Hid ((facesC A B (mergeC (A.length + B.length) A B) ++ areasC (mergeC (A.length + B.length) A B)).Nodup) := hnd
  generalize mergeC (A.length + B.length) A B = C at hml hfl hal hz hmk hnd' ⊢
  rintro e w1 ⟨p1, c1, rfl, hO1, k1⟩
  have hc1 := Lib.hid (hO1.at cVals_len)
  have hv1 := Lib.hid (hv.out.keep k1)
  have hu1 := Lib.hid (hu.out.keep k1)
  have hk1 := Lib.hid k1
  have hz' := Lib.hid hz
  clear hO1 k1 hz hnd hv hu
  go_wp2_with fail
  refine (plWhole_any v _ A C z _ hv1 hrA hc1 (by omega) hz').mono ?_
  rintro e w2 ⟨rfl, k2⟩
  have hv2 := Lib.hid (hv1.out.keep k2)
  have hu2 := Lib.hid (hu1.out.keep k2)
  have hc2 := Lib.hid (hc1.out.keep k2)
  have hk2 := Lib.hid (hk1.out.trans k2)
  clear k2 hv1 hu1 hc1 hk1 hz'
  cases z with
  | true =>
    have hR : Hid (RowsAt 2 aVals (w2.alloc (.cells #[.int .i64 1, .string ⟨#[]⟩] 53)) (.slice (some ⟨w2.heap.size, 0, none⟩) 1 1) [⟨1, []⟩]) := Lib.hid ⟨_, 1, rfl, fun h => (by cases h), by simp, fun _ => ⟨_, 0, rfl, fun i x hx => by
      cases i with
      | zero =>
        simp at hx; subst hx
        intro j u hu
        exact (BlkAt.new w2 53 [.int .i64 1, .string ⟨#[]⟩]).range j u hu
      | succ i => simp at hx⟩⟩
    have hkz := Lib.hid (hk2.out.alloc (.cells #[.int .i64 1, .string ⟨#[]⟩] 53))
    go_wp2_with fail
    go_ret2
    rw [show makeA A B = [⟨1, []⟩] by simpa using hmk.out]
    exact ⟨_, 1, rfl, hR.out, hkz.out⟩
  | false =>
    rw [if_neg Bool.false_ne_true] at hmk
    go_wp2_with fail
    refine (plFaces_any v u _ A B C _ hv2 hrA hu2 hrB hc2 (by omega)).mono ?_
    rintro e w3 ⟨p3, d3, rfl, hO3, k3⟩
    have hc3 := Lib.hid (hc2.out.keep k3)
    have hO3' := Lib.hid hO3
    have hk3 := Lib.hid k3
    clear k3 hO3 hv2 hu2 hc2 hrA hrB
    go_wp2_with fail
    refine (plAreas_any _ C _ hc3 (by omega)).mono ?_
    rintro e w4 ⟨p4, d4, rfl, hO4, k4⟩
    have hR4 := Lib.hid (hO4.at aVals_len)
    have hF4 := Lib.hid (hO3'.out.keep k4 (fun _ _ f => f))
    have hk4 := Lib.hid (hk3.out.trans k4)
    clear k4 hO4 hO3' hk3 hc3
    generalize facesC A B C = X at hF4 hfl hnd' hmk ⊢
    generalize areasC C = Y at hR4 hal hnd' hmk ⊢
    have hk24 := Lib.hid (hk2.out.trans hk4.out)
    go_wp2_with ((with_reducible refine at_slot 29 ?_); refine wpList_append_rows rfl (.tmp 26) (.tmp 28) 24 53 rfl i0 _ 24 Tryz.underlying24 hi0 hi1 hi2 hi3 rfl (by decide) (by decide) aVals_len aVals_one w2 _ X rfl hF4.out _ rfl Y hR4.out (by omega) ?_; intro q8 d8 w8 hO8 hg8)
    have hk8 := Lib.hid (OwnR.keeps hF4.out hk4.out hg8.out)
    have hO9 : Hid (OwnR 53 2 aVals w2 w8 (.slice q8 (X ++ Y).length d8) (X ++ Y)) := Lib.hid (by rw [List.length_append]; exact hO8.out)
    refine (plSort_any _ (X ++ Y) w2 _ hO8 (by rw [List.length_append]; omega)).mono ?_
    rintro e w9 ⟨rfl, hO10, k10⟩
    have hk10 := Lib.hid (hk8.out.trans' k10 (fun i e => .inr (hO9.out.2.1 i (by rw [List.length_append]; exact e))))
    have hR10 := Lib.hid (hO10.at aVals_len)
    have hap : Hid (ApartA (sortA (X ++ Y))) := Lib.hid (apart_nodup ((sortA_perm _).nodup_iff.2 hnd'.out))
    have hsl := sortA_len (X ++ Y)
    have hkk := Lib.hid (hk2.out.trans hk10.out)
    clear hO8 hg8 hO9 hO10 k10 hk10 hk8 hF4 hR4 hk24 hk4
    rw [List.length_append] at hsl
    generalize sortA (X ++ Y) = S at hR10 hap hmk hsl ⊢
    go_wp2_with fail
    refine (plCompact_c _ S _ hR10 (by omega) hap).mono ?_
    rintro e w11 ⟨rfl, k11⟩
    have hR11 := Lib.hid (hR10.out.keep k11)
    have hk11 := Lib.hid (hkk.out.trans k11)
    clear k11 hR10 hkk
    go_wp2_with fail
    go_ret2
    rw [hmk.out]
    rw [← hsl] at hR11 ⊢
    exact ⟨q8, d8, rfl, hR11.out, hk11.out⟩
end Go.Proofs.YtmclnamgihphcaaGreat
/- plan.Make, of any two right configurations (out of PLK). -/
set_option linter.unusedVariables false
set_option linter.unusedSimpArgs false
namespace Go.Proofs.YtmclnamgihphcaaGreat
open Go.RowKit

def makeG (a b : List LineD) : List ActD := if wholeC a (mergeC (a.length + b.length) a b) = true then [⟨1, []⟩] else compactL (sortA (rawA a b))
set_option maxRecDepth 100000 in
set_option maxHeartbeats 8000000 in
theorem plMake_g (v u : Value) (A B : List LineD) (w : World) (hv : Hid (RowsAt 4 lineVals w v A)) (hu : Hid (RowsAt 4 lineVals w u B)) (hrA : Hid (rightC A = true)) (hrB : Hid (rightC B = true)) :
    Calls Tryz.prog 5 #[v, u] w (MakeRes (makeG A B) w) := by
  have hlA := right_len hrA.out
  have hlB := right_len hrB.out
  have hml := mergeC_len (A.length + B.length) A B (Nat.le_refl _)
  obtain ⟨i0, hi0, hi1, hi2, hi3⟩ := actAll
  have hfl := facesC_len A B (mergeC (A.length + B.length) A B)
  have hn1 := namesA_len 2 A
  have hn2 := namesA_len 2 B
  have hal : (areasC (mergeC (A.length + B.length) A B)).length ≤ (mergeC (A.length + B.length) A B).length := flat_len (f := fun c : ChD => if isCost c = true then [(⟨7, c.line.name⟩ : ActD)] else []) (fun x => by split <;> simp) _
  go_enter Tryz.func5, Tryz.ntmps5
  go_wp2_with fail
  refine (lines_c v u A B _ hv hu hrA hrB).mono ?_
  obtain ⟨z, hz⟩ : ∃ z, wholeC A (mergeC (A.length + B.length) A B) = z := ⟨_, rfl⟩
  have hmk : Hid (makeG A B = if z = true then [⟨1, []⟩] else compactL (sortA (facesC A B (mergeC (A.length + B.length) A B) ++ areasC (mergeC (A.length + B.length) A B)))) := Lib.hid (by rw [← hz]; rfl)
  generalize mergeC (A.length + B.length) A B = C at hml hfl hal hz hmk ⊢
  rintro e w1 ⟨p1, c1, rfl, hO1, k1⟩
  have hc1 := Lib.hid (hO1.at cVals_len)
  have hv1 := Lib.hid (hv.out.keep k1)
  have hu1 := Lib.hid (hu.out.keep k1)
  have hk1 := Lib.hid k1
  have hz' := Lib.hid hz
  clear hO1 k1 hz hv hu
  go_wp2_with fail
  refine (plWhole_any v _ A C z _ hv1 hrA hc1 (by omega) hz').mono ?_
  rintro e w2 ⟨rfl, k2⟩
  have hv2 := Lib.hid (hv1.out.keep k2)
  have hu2 := Lib.hid (hu1.out.keep k2)
  have hc2 := Lib.hid (hc1.out.keep k2)
  have hk2 := Lib.hid (hk1.out.trans k2)
  clear k2 hv1 hu1 hc1 hk1 hz'
  cases z with
  | true =>
    have hR : Hid (RowsAt 2 aVals (w2.alloc (.cells #[.int .i64 1, .string ⟨#[]⟩] 53)) (.slice (some ⟨w2.heap.size, 0, none⟩) 1 1) [⟨1, []⟩]) := Lib.hid ⟨_, 1, rfl, fun h => (by cases h), by simp, fun _ => ⟨_, 0, rfl, fun i x hx => by
      cases i with
      | zero =>
        simp at hx; subst hx
        intro j u hu
        exact (BlkAt.new w2 53 [.int .i64 1, .string ⟨#[]⟩]).range j u hu
      | succ i => simp at hx⟩⟩
    have hkz := Lib.hid (hk2.out.alloc (.cells #[.int .i64 1, .string ⟨#[]⟩] 53))
    go_wp2_with fail
    go_ret2
    rw [show makeG A B = [⟨1, []⟩] by simpa using hmk.out]
    exact ⟨_, 1, rfl, hR.out, hkz.out⟩
  | false =>
    rw [if_neg Bool.false_ne_true] at hmk
    go_wp2_with fail
    refine (plFaces_any v u _ A B C _ hv2 hrA hu2 hrB hc2 (by omega)).mono ?_
    rintro e w3 ⟨p3, d3, rfl, hO3, k3⟩
    have hc3 := Lib.hid (hc2.out.keep k3)
    have hO3' := Lib.hid hO3
    have hk3 := Lib.hid k3
    clear k3 hO3 hv2 hu2 hc2 hrA hrB
    go_wp2_with fail
    refine (plAreas_any _ C _ hc3 (by omega)).mono ?_
    rintro e w4 ⟨p4, d4, rfl, hO4, k4⟩
    have hR4 := Lib.hid (hO4.at aVals_len)
    have hF4 := Lib.hid (hO3'.out.keep k4 (fun _ _ f => f))
    have hk4 := Lib.hid (hk3.out.trans k4)
    clear k4 hO4 hO3' hk3 hc3
    generalize facesC A B C = X at hF4 hfl hmk ⊢
    generalize areasC C = Y at hR4 hal hmk ⊢
    have hk24 := Lib.hid (hk2.out.trans hk4.out)
    go_wp2_with ((with_reducible refine at_slot 29 ?_); refine wpList_append_rows rfl (.tmp 26) (.tmp 28) 24 53 rfl i0 _ 24 Tryz.underlying24 hi0 hi1 hi2 hi3 rfl (by decide) (by decide) aVals_len aVals_one w2 _ X rfl hF4.out _ rfl Y hR4.out (by omega) ?_; intro q8 d8 w8 hO8 hg8)
    have hk8 := Lib.hid (OwnR.keeps hF4.out hk4.out hg8.out)
    have hO9 : Hid (OwnR 53 2 aVals w2 w8 (.slice q8 (X ++ Y).length d8) (X ++ Y)) := Lib.hid (by rw [List.length_append]; exact hO8.out)
    refine (plSort_any _ (X ++ Y) w2 _ hO8 (by rw [List.length_append]; omega)).mono ?_
    rintro e w9 ⟨rfl, hO10, k10⟩
    have hk10 := Lib.hid (hk8.out.trans' k10 (fun i e => .inr (hO9.out.2.1 i (by rw [List.length_append]; exact e))))
    have hO10' := Lib.hid hO10
    have hsl := sortA_len (X ++ Y)
    clear hO8 hg8 hO9 hO10 k10 hk8 hF4 hR4 hk24 hk4
    rw [List.length_append] at hsl
    generalize sortA (X ++ Y) = S at hO10' hmk hsl ⊢
    rw [← hsl] at hO10' ⊢
    have hS6 : S.length ≤ 1000000 := by omega
    have hS6' := Lib.hid hS6
    clear hsl hS6 hfl hal hml hn1 hn2
    go_wp2_with fail
    refine (plCompact_any _ S w2 _ hO10' hS6'.out).mono ?_
    rintro e w11 ⟨p11, c11, rfl, hO11, k11⟩
    have hR11 := Lib.hid (hO11.at aVals_len)
    have hk11 := Lib.hid (hk2.out.trans (hk10.out.trans' k11 (fun i e => .inr (hO10'.out.2.1 i e))))
    clear k11 hO10' hO11 hk10
    go_wp2_with fail
    go_ret2
    rw [show makeG A B = compactL S by simpa using hmk.out]
    exact ⟨p11, c11, rfl, hR11.out, hk11.out⟩
end Go.Proofs.YtmclnamgihphcaaGreat
