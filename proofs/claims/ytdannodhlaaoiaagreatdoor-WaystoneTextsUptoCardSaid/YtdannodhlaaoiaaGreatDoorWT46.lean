/- diff.Lines, walked, of two right configurations (gen_plc.py). -/
import Derived.Test.YtdannodhlaaoiaaGreatDoorWT45
import Derived.BigQuiet
set_option linter.unusedVariables false
set_option linter.unusedSimpArgs false
set_option linter.unusedVariables false
set_option linter.unusedSimpArgs false
namespace Go.Proofs.YtdannodhlaaoiaaGreatDoor
open Go.RowKit

set_option maxRecDepth 100000 in
set_option maxHeartbeats 16000000 in
theorem lines_c (v u : Value) (A B : List LineD) (w : World) (hv : Hid (RowsAt 4 lineVals w v A)) (hu : Hid (RowsAt 4 lineVals w u B)) (hrA : Hid (rightC A = true)) (hrB : Hid (rightC B = true)) :
    Calls Tryz.prog 17 #[v, u] w (ChRes (mergeC (A.length + B.length) A B) w) := by
  have hlA := right_len hrA.out
  have hlB := right_len hrB.out
  have hltA := Lib.hid (right_lt hrA.out 9223372036854775807 (by omega))
  have hltB := Lib.hid (right_lt hrB.out 9223372036854775807 (by omega))
  have hLn := Lib.hid hv.out.lines
  obtain ⟨p, c, rfl⟩ := hv.out.slice
  obtain ⟨q, d, rfl⟩ := hu.out.slice
  obtain ⟨i0, hi0, hi1, hi2, hi3⟩ := changeAll
  go_enter Tryz.func17, Tryz.ntmps17
  go_wp2_with fail
  refine (right_c _ A true _ hLn (by omega) hltA hrA).mono ?_
  rintro e w1 ⟨rfl, k1⟩
  have hv1 := Lib.hid (hv.out.keep k1)
  have hu1 := Lib.hid (hu.out.keep k1)
  have hk1 := Lib.hid k1
  have hLm := Lib.hid hu1.out.lines
  clear k1 hv hu hLn
  go_wp2_with fail
  refine (right_c _ B true _ hLm (by omega) hltB hrB).mono ?_
  rintro e w2 ⟨rfl, k2⟩
  have hv2 := Lib.hid (hv1.out.keep k2)
  have hu2 := Lib.hid (hu1.out.keep k2)
  have hk2 := Lib.hid (hk1.out.trans k2)
  clear k2 hv1 hu1 hLm hk1 hltA hltB hrA hrB
  go_wp2_with fail
  go_loopw [0, 1, 6] (fun av bv lv wr => ∃ (a b : List LineD) (L : List ChD) (pa pb pl : Option Addr) (ca cb cl n : Nat), av = .slice pa a.length ca ∧ bv = .slice pb b.length cb ∧ lv = .slice pl L.length cl ∧ a.length + b.length ≤ n ∧ L.length + n ≤ A.length + B.length ∧ Hid (L ++ mergeC n a b = mergeC (A.length + B.length) A B) ∧ Hid (RowsAt 4 lineVals w2 av a) ∧ Hid (RowsAt 4 lineVals w2 bv b) ∧ Hid (OwnR 52 6 cVals w2 wr lv L) ∧ Hid (Keeps (fun _ => False) w2 wr)) (fun av bv _ _ => lenV av + lenV bv)
  case atStart => exact ⟨A, B, [], p, q, none, c, d, 0, A.length + B.length, rfl, rfl, rfl, Nat.le_refl _, by simp, Lib.hid rfl, hv2, hu2, Lib.hid (OwnR.nil _ _ (Nat.le_refl _)), Lib.hid (Keeps.refl _ _)⟩
  case round =>
    obtain ⟨a, b, L, pa, pb, pl, ca, cb, cl, n, rfl, rfl, rfl, hn, hLn, hM, ha, hb, hO, hK⟩ := hrel
    clear hv2 hu2
    by_cases hab : a = [] ∧ b = []
    · obtain ⟨rfl, rfl⟩ := hab
      have hM2 : Hid (L = mergeC (A.length + B.length) A B) := Lib.hid (by
        rw [← hM.out]
        cases n with
        | zero => simp [mergeC]
        | succ n => simp [mergeC])
      clear hM
      go_wp2_with fail
      go_ret2
      rw [← hM2.out]
      exact ⟨pl, cl, rfl, hO.out.older hk2.out.size, hk2.out.trans hK.out⟩
    · obtain ⟨zA, hzA⟩ : ∃ z, aheadB a b = z := ⟨_, rfl⟩
      obtain ⟨zB, hzB⟩ : ∃ z, aheadB b a = z := ⟨_, rfl⟩
      have hz1 : zA = true ∨ zB = true := by rw [← hzA, ← hzB]; exact ahead_one hab
      obtain ⟨m, rfl⟩ : ∃ m, n = m + 1 := ⟨n - 1, by
        have : 0 < a.length + b.length := by
          rcases hz1 with h | h
          · rw [h] at hzA; have := next_lt hzA; omega
          · rw [h] at hzB; have := next_lt hzB; omega
        omega⟩
      have hM3 : Hid ((L ++ stepCh a b) ++ mergeC m (nextL a b) (nextL b a) = mergeC (A.length + B.length) A B) := Lib.hid (by
        rw [← hM.out, mergeC, if_neg hab, List.append_assoc])
      have hzA' := Lib.hid hzA
      have hzB' := Lib.hid hzB
      have hz1' := Lib.hid hz1
      have hcnd : 0 < a.length ∨ 0 < b.length := by
        rcases hz1 with h | h
        · rw [h] at hzA; have := next_lt hzA; left; omega
        · rw [h] at hzB; have := next_lt hzB; right; omega
      clear hzA hzB hz1 hM hab
      go_upto_region 4 with fail
      go_cut [27] (fun tv wx => tv = .bool true ∧ wx = wr)
      case first =>
        obtain ⟨y1, m1⟩ : ∃ z, decide (0 < a.length) = z := ⟨_, rfl⟩
        cases y1 with
        | true =>
          clear hcnd
          go_wp2_with fail
          go_meet
          case rel => exact ⟨rfl, rfl⟩
        | false =>
          have m2 : decide (0 < b.length) = true := by
            have := of_decide_eq_false m1
            exact decide_eq_true (by omega)
          clear hcnd
          go_wp2_with fail
          go_meet
          case rel => exact ⟨rfl, rfl⟩
      case rest =>
        obtain ⟨rfl, rfl⟩ := hcut
        clear hcnd
        have hB0 := Lib.hid (BlkAt.new wc 50 [.int .i64 0, .string ⟨#[]⟩, .string ⟨#[]⟩, .string ⟨#[]⟩])
        have kA := (Keeps.refl (fun _ => False) wc).alloc (.cells #[.int .i64 0, .string ⟨#[]⟩, .string ⟨#[]⟩, .string ⟨#[]⟩] 50)
        have hO3 := Lib.hid (hO.out.keep kA (fun _ _ f => f))
        have hK3 := Lib.hid (hK.out.trans kA)
        have ha3 := Lib.hid (ha.out.keep hK3.out)
        have hb3 := Lib.hid (hb.out.keep hK3.out)
        have hgA : Hid (0 < a.length → ∀ i, (Value.slice pa a.length ca).ownBlock = some i → ¬ i = wc.heap.size) := Lib.hid (fun h0 i e => by have := ha.out.lt h0 (fun _ => Nat.zero_lt_succ _) i e; have := hK.out.size; omega)
        have hgB : Hid (0 < b.length → ∀ i, (Value.slice pb b.length cb).ownBlock = some i → ¬ i = wc.heap.size) := Lib.hid (fun h0 i e => by have := hb.out.lt h0 (fun _ => Nat.zero_lt_succ _) i e; have := hK.out.size; omega)
        have hgL : Hid (∀ i, (Value.slice pl L.length cl).ownBlock = some i → ¬ i = wc.heap.size) := Lib.hid (fun i e => by have := hO.out.own_ltP i e; omega)
        have hsz : Hid (w2.heap.size ≤ wc.heap.size) := Lib.hid hK.out.size
        clear kA hO hK
        go_wp2_with fail
        generalize hbs : wc.heap.size = bs at hB0 hgA hgB hgL hsz ⊢
        generalize hwz : wc.alloc (.cells #[.int .i64 0, .string ⟨#[]⟩, .string ⟨#[]⟩, .string ⟨#[]⟩] 50) = w3 at hB0 ha3 hb3 hO3 hK3 ⊢
        clear hbs hwz
        refine (ahead_any _ _ a b zA _ ha3 hb3 hzA').mono ?_
        rintro e w4 ⟨rfl, k4⟩
        have ha4 := Lib.hid (ha3.out.keep k4)
        have hb4 := Lib.hid (hb3.out.keep k4)
        have hO4 := Lib.hid (hO3.out.keep k4 (fun _ _ f => f))
        have hK4 := Lib.hid (hK3.out.trans k4)
        have hB4 := Lib.hid (hB0.out.keep k4 id)
        clear k4 ha3 hb3 hO3 hK3 hB0
        go_wp2_with fail
        refine (ahead_any _ _ b a zB _ hb4 ha4 hzB').mono ?_
        rintro e w5 ⟨rfl, k5⟩
        have hO5 := Lib.hid (hO4.out.keep k5 (fun _ _ f => f))
        have hK5 := Lib.hid (hK4.out.trans k5)
        have hB5 := Lib.hid (hB4.out.keep k5 id)
        clear k5 ha4 hb4 hO4 hK4 hB4
        cases zA with
        | true =>
          cases a with
          | nil => have h := hzA'.out; cases h
          | cons x a =>
            obtain ⟨gx, ox, rfl, h0x⟩ := ha.out.open (by simp)
            obtain ⟨XN, hXN⟩ : ∃ N : ByteArray, N = ⟨x.name.toArray⟩ := ⟨_, rfl⟩
            obtain ⟨XF, hXF⟩ : ∃ N : ByteArray, N = ⟨x.leaf.toArray⟩ := ⟨_, rfl⟩
            obtain ⟨XV, hXV⟩ : ∃ N : ByteArray, N = ⟨x.value.toArray⟩ := ⟨_, rfl⟩
            have hrx : Hid (w5.rangeAt gx ox [.int .i64 x.head, .string XN, .string XF, .string XV]) := Lib.hid (by
              rw [hXN, hXF, hXV]
              have h := hK5.out.rangeAt (h0x 0 x rfl) id
              simpa [lineVals, strv] using h)
            have hdx : Hid (XN.data.toList = x.name ∧ XF.data.toList = x.leaf ∧ XV.data.toList = x.value) := Lib.hid (by rw [hXN, hXF, hXV]; exact ⟨rfl, rfl, rfl⟩)
            clear h0x hXN hXF hXV
            have hgx : Hid (¬ gx = bs) := Lib.hid (hgA.out (by simp) gx rfl)
            have hAF : Hid (RowsAt 4 lineVals w2 (.slice (if ca = 1 then some ⟨gx, ox, none⟩ else some ⟨gx, ox + 4, none⟩) a.length (ca - 1)) a) := Lib.hid (by have h := ha.out.from 1 (by simp); simpa [Addr.add] using h)
            have nx1 : (1 : Int) ≤ (a.length : Int) + 1 := by omega
            go_upto_region 9 with fail
            refine wp_region_noPanic ?_
            refine wp_region_held_drew (S := (fun W => Keeps (fun i => i = bs) w5 W)) (by kernel_rfl) (((Keeps.refl _ _).drew)) (fun hHeld => ?_)
            refine tk 0 rfl ?_
            refine tk 1 rfl ?_
            refine tkL 2 rfl (yieldsIf_load_mid (by rfl) 50 (.tmp 36) rfl gx ox rfl [.int .i64 x.head, .string XN, .string XF, .string XV] _ (fun _ s => s.rangeAt hrx.out hgx.out) Tryz.underlying50 rfl lineInfo) ?_
            refine tk 3 rfl ?_
            refine tk 4 rfl ?_
            refine tk 5 rfl ?_
            refine tkL 6 rfl (yieldsIf_load_cell (by rfl) 9 (.tmp 40) rfl gx (ox + 3) rfl _ (fun _ s => s.rangeAt hrx.out hgx.out 3 _ rfl) (fun w s => load_str w _ _ _ s)) ?_
            refine tk 7 rfl ?_
            refine tk 8 rfl ?_
            refine stepL 9 rfl (by kernel_rfl) (fun K hK => ?_)
            rw [if_pos (by rfl)]
            (refine wp_store_mid 50 (.tmp 7) (.tmp 37) rfl bs 0 #[.int .i64 x.head, .string XN, .string XF, .string XV] rfl rfl (BlkAt.there hB5.out.drew 0 4 (Nat.le_refl 4)) lineInfo (line_one _ _ _ _) ?_)
            refine hK.out _ _ ((Keeps.setCells (F := fun i => i = bs) (.inl rfl) _ _ _ hHeld)) (fun hHeld => ?_)
            clear hK K
            try simp only [Act.put, sA, sZ, sS]
            refine tk 10 rfl ?_
            refine tk 11 rfl ?_
            refine wpAnyH_done (by kernel_rfl) (NoPanic.normal ?_) _
            have hxB : Hid (BlkAt (w5.drew.setCells bs 0 [.int .i64 x.head, .string XN, .string XF, .string XV]) bs 50 [.int .i64 x.head, .string XN, .string XF, .string XV]) := Lib.hid (BlkAt.four hB5.out.drew _ _ _ _)
            have hxO := Lib.hid (hO5.out.keep hHeld (fun k e f => hgL.out k e f))
            have hxK := Lib.hid (hK5.out.trans' hHeld (fun i e => .inr (by rw [e]; exact hsz.out)))
            clear hHeld
            generalize w5.drew.setCells bs 0 [.int .i64 x.head, .string XN, .string XF, .string XV] = w6 at hxB hxO hxK ⊢
            generalize (if ca = 1 then some (⟨gx, ox, none⟩ : Addr) else some ⟨gx, ox + 4, none⟩) = pa2 at hAF ⊢
            cases zB with
            | true =>
              cases b with
              | nil => have h := hzB'.out; cases h
              | cons y b =>
                obtain ⟨gy, oy, rfl, h0y⟩ := hb.out.open (by simp)
                obtain ⟨YN, hYN⟩ : ∃ N : ByteArray, N = ⟨y.name.toArray⟩ := ⟨_, rfl⟩
                obtain ⟨YF, hYF⟩ : ∃ N : ByteArray, N = ⟨y.leaf.toArray⟩ := ⟨_, rfl⟩
                obtain ⟨YV, hYV⟩ : ∃ N : ByteArray, N = ⟨y.value.toArray⟩ := ⟨_, rfl⟩
                have hry : Hid (w6.rangeAt gy oy [.int .i64 y.head, .string YN, .string YF, .string YV]) := Lib.hid (by
                  rw [hYN, hYF, hYV]
                  have h := hxK.out.rangeAt (h0y 0 y rfl) id
                  simpa [lineVals, strv] using h)
                have hdy : Hid (YN.data.toList = y.name ∧ YF.data.toList = y.leaf ∧ YV.data.toList = y.value) := Lib.hid (by rw [hYN, hYF, hYV]; exact ⟨rfl, rfl, rfl⟩)
                clear h0y hYN hYF hYV
                have hgy : Hid (¬ gy = bs) := Lib.hid (hgB.out (by simp) gy rfl)
                have hBF2 : Hid (RowsAt 4 lineVals w2 (.slice (if cb = 1 then some ⟨gy, oy, none⟩ else some ⟨gy, oy + 4, none⟩) b.length (cb - 1)) b) := Lib.hid (by have h := hb.out.from 1 (by simp); simpa [Addr.add] using h)
                have ny1 : (1 : Int) ≤ (b.length : Int) + 1 := by omega
                go_upto_region 11 with fail
                refine wp_region_noPanic ?_
                refine wp_region_held_drew (S := (fun W => Keeps (fun i => i = bs) w6 W)) (by kernel_rfl) (((Keeps.refl _ _).drew)) (fun hHeld => ?_)
                refine tk 0 rfl ?_
                refine tk 1 rfl ?_
                refine tkL 2 rfl (yieldsIf_load_mid (by rfl) 50 (.tmp 46) rfl gy oy rfl [.int .i64 y.head, .string YN, .string YF, .string YV] _ (fun _ s => s.rangeAt hry.out hgy.out) Tryz.underlying50 rfl lineInfo) ?_
                refine tk 3 rfl ?_
                refine tk 4 rfl ?_
                refine tk 5 rfl ?_
                refine tkL 6 rfl (yieldsIf_load_cell (by rfl) 9 (.tmp 50) rfl gy (oy + 3) rfl _ (fun _ s => s.rangeAt hry.out hgy.out 3 _ rfl) (fun w s => load_str w _ _ _ s)) ?_
                refine tk 7 rfl ?_
                refine tk 8 rfl ?_
                refine stepL 9 rfl (by kernel_rfl) (fun K hK => ?_)
                rw [if_pos (by rfl)]
                (refine wp_store_mid 50 (.tmp 7) (.tmp 47) rfl bs 0 #[.int .i64 y.head, .string YN, .string YF, .string YV] rfl rfl (BlkAt.there hxB.out.drew 0 4 (Nat.le_refl 4)) lineInfo (line_one _ _ _ _) ?_)
                refine hK.out _ _ ((Keeps.setCells (F := fun i => i = bs) (.inl rfl) _ _ _ hHeld)) (fun hHeld => ?_)
                clear hK K
                try simp only [Act.put, sA, sZ, sS]
                refine tk 10 rfl ?_
                refine tk 11 rfl ?_
                refine wpAnyH_done (by kernel_rfl) (NoPanic.normal ?_) _
                have hyB : Hid (BlkAt (w6.drew.setCells bs 0 [.int .i64 y.head, .string YN, .string YF, .string YV]) bs 50 [.int .i64 y.head, .string YN, .string YF, .string YV]) := Lib.hid (BlkAt.four hxB.out.drew _ _ _ _)
                have hyO := Lib.hid (hxO.out.keep hHeld (fun k e f => hgL.out k e f))
                have hyK := Lib.hid (hxK.out.trans' hHeld (fun i e => .inr (by rw [e]; exact hsz.out)))
                clear hHeld
                generalize w6.drew.setCells bs 0 [.int .i64 y.head, .string YN, .string YF, .string YV] = w7 at hyB hyO hyK ⊢
                generalize (if cb = 1 then some (⟨gy, oy, none⟩ : Addr) else some ⟨gy, oy + 4, none⟩) = pb2 at hBF2 ⊢
                have hnA : Hid (nextL (x :: a) (y :: b) = a) := Lib.hid (by unfold nextL; rw [if_pos hzA'.out]; rfl)
                have hnB : Hid (nextL (y :: b) (x :: a) = b) := Lib.hid (by unfold nextL; rw [if_pos hzB'.out]; rfl)
                have hBF := hyB
                have hOF := hyO
                have hKF := hyK
                have haF := hAF
                have hbF := hBF2
                clear hxB hxO hxK hyB hyO hyK hB5 hO5 hK5 ha hb
                have hS9 : Hid (stepCh (x :: a) (y :: b) = oneCh ⟨y.head, YN.data.toList, YF.data.toList, YV.data.toList⟩ XV.data.toList YV.data.toList) := Lib.hid (by
                  unfold stepCh
                  rw [if_pos hzB'.out, if_pos hzA'.out, if_pos hzB'.out, hdy.out.1, hdy.out.2.1, hdy.out.2.2, hdx.out.2.2]
                  rfl)
                have hM9 : Hid (L ++ oneCh ⟨y.head, YN.data.toList, YF.data.toList, YV.data.toList⟩ XV.data.toList YV.data.toList ++ mergeC m a b = mergeC (A.length + B.length) A B) := Lib.hid (by
                  have h := hM3.out
                  rw [hS9.out, hnA.out, hnB.out] at h
                  exact h)
                by_cases hwi : XV.data.toList = YV.data.toList
                · have e1 := beq_list hwi
                  have hMa : Hid (L ++ mergeC m a b = mergeC (A.length + B.length) A B) := Lib.hid (by
                    have h := hM9.out
                    unfold oneCh at h
                    rw [if_pos hwi, List.append_nil] at h
                    exact h)
                  clear hM9 hM3 hS9 hnA hnB hwi
                  go_wp2_with fail
                  exact ⟨⟨a, b, L, _, _, pl, _, _, cl, m, rfl, rfl, rfl, by simp only [List.length_cons] at hn; omega, by omega, hMa, haF, hbF, hOF, hKF⟩, by simp only [lenV, List.length_cons]; omega⟩
                · have e1 := bne_list hwi
                  have hMa : Hid ((L ++ [⟨⟨y.head, YN.data.toList, YF.data.toList, []⟩, XV.data.toList, YV.data.toList⟩]) ++ mergeC m a b = mergeC (A.length + B.length) A B) := Lib.hid (by
                    have h := hM9.out
                    unfold oneCh at h
                    rw [if_neg hwi] at h
                    exact h)
                  have c3 : w7.cell? ⟨bs, 3, none⟩ = some (.string YV) := hBF.out.cell 3 _ rfl
                  have f3 : w7.frozen? ⟨bs, 3, none⟩ = false := hBF.out.frozen 3
                  have hB9 : Hid (BlkAt (w7.setCell ⟨bs, 3, none⟩ (.string ⟨#[]⟩)) bs 50 [.int .i64 y.head, .string YN, .string YF, .string ⟨#[]⟩]) := Lib.hid (hBF.out.set 3 _)
                  have kq : Keeps (fun i => i = bs) w7 (w7.setCell ⟨bs, 3, none⟩ (.string ⟨#[]⟩)) := Keeps.setCell (F := fun i => i = bs) (Keeps.refl _ _) (p := ⟨bs, 3, none⟩) (.inl rfl) _
                  have hO9 := Lib.hid (hOF.out.keep kq (fun k e f => hgL.out k e f))
                  have hK9 := Lib.hid (hKF.out.trans' kq (fun i e => .inr (by rw [e]; exact hsz.out)))
                  clear kq hM9 hM3 hS9 hnA hnB hwi
                  go_wp2_with (first | ((with_reducible refine at_slot 59 ?_); go_must (refine wpList_load_mid rfl 50 (.tmp 7) rfl bs 0 rfl [.int .i64 y.head, .string YN, .string YF, .string ⟨#[]⟩] _ hB9.out.range Tryz.underlying50 rfl lineInfo ?_)) | ((with_reducible refine at_slot 64 ?_); go_must (refine wpList_append_r rfl (.tmp 58) (.tmp 63) 46 52 rfl i0 _ 88 Tryz.underlying46 hi0 hi1 hi2 hi3 rfl (by decide) (by decide) cVals_len w2 _ L.length L rfl rfl (hO9.out.keep ((Keeps.refl (fun _ => False) _).alloc _) (fun _ _ f => f)) _ rfl ⟨⟨y.head, YN.data.toList, YF.data.toList, []⟩, XV.data.toList, YV.data.toList⟩ (cells_new (w := w7.setCell ⟨bs, 3, none⟩ (.string ⟨#[]⟩)) (n := w7.heap.size) (by simp [World.setCell]) [.int .i64 y.head, .string YN, .string YF, .string ⟨#[]⟩, .string XV, .string YV] _) (cVals_one _) (by omega) ?_); intro q8 d8 w8 hO8 hg8))
                  have hg9 := Lib.hid ((hO9.out.keep ((Keeps.refl (fun _ => False) (w7.setCell ⟨bs, 3, none⟩ (.string ⟨#[]⟩))).alloc (.cells #[.int .i64 y.head, .string YN, .string YF, .string ⟨#[]⟩, .string XV, .string YV] 52)) (fun _ _ f => f)).keeps (hK9.out.alloc _) hg8.out)
                  exact ⟨⟨a, b, L ++ [⟨⟨y.head, YN.data.toList, YF.data.toList, []⟩, XV.data.toList, YV.data.toList⟩], _, _, q8, _, _, d8, m, rfl, rfl, by simp, by simp only [List.length_cons] at hn; omega, by simp; omega, hMa, haF, hbF, by simpa using hO8, hg9⟩, by simp only [lenV, List.length_cons]; omega⟩
            | false =>
              have hnA : Hid (nextL (x :: a) b = a) := Lib.hid (by unfold nextL; rw [if_pos hzA'.out]; rfl)
              have hnB : Hid (nextL b (x :: a) = b) := Lib.hid (by unfold nextL; rw [if_neg (by rw [hzB'.out]; exact Bool.false_ne_true)])
              have hBF := hxB
              have hOF := hxO
              have hKF := hxK
              have haF := hAF
              have hbF := hb
              clear hxB hxO hxK hB5 hO5 hK5 ha hb
              have hS9 : Hid (stepCh (x :: a) b = oneCh ⟨x.head, XN.data.toList, XF.data.toList, XV.data.toList⟩ XV.data.toList (⟨#[]⟩ : ByteArray).data.toList) := Lib.hid (by
                unfold stepCh
                rw [if_neg (by rw [hzB'.out]; exact Bool.false_ne_true), if_pos hzA'.out, if_pos hzA'.out, if_neg (by rw [hzB'.out]; exact Bool.false_ne_true), hdx.out.1, hdx.out.2.1, hdx.out.2.2]
                rfl)
              have hM9 : Hid (L ++ oneCh ⟨x.head, XN.data.toList, XF.data.toList, XV.data.toList⟩ XV.data.toList (⟨#[]⟩ : ByteArray).data.toList ++ mergeC m a b = mergeC (A.length + B.length) A B) := Lib.hid (by
                have h := hM3.out
                rw [hS9.out, hnA.out, hnB.out] at h
                exact h)
              by_cases hwi : XV.data.toList = (⟨#[]⟩ : ByteArray).data.toList
              · have e1 := beq_list hwi
                have e2 := empty_list hwi
                have hMa : Hid (L ++ mergeC m a b = mergeC (A.length + B.length) A B) := Lib.hid (by
                  have h := hM9.out
                  unfold oneCh at h
                  rw [if_pos hwi, List.append_nil] at h
                  exact h)
                clear hM9 hM3 hS9 hnA hnB hwi
                go_wp2_with fail
                exact ⟨⟨a, b, L, _, _, pl, _, _, cl, m, rfl, rfl, rfl, by simp only [List.length_cons] at hn; omega, by omega, hMa, haF, hbF, hOF, hKF⟩, by simp only [lenV, List.length_cons]; omega⟩
              · have e1 := bne_list hwi
                have e2 := nonempty_list hwi
                have hMa : Hid ((L ++ [⟨⟨x.head, XN.data.toList, XF.data.toList, []⟩, XV.data.toList, (⟨#[]⟩ : ByteArray).data.toList⟩]) ++ mergeC m a b = mergeC (A.length + B.length) A B) := Lib.hid (by
                  have h := hM9.out
                  unfold oneCh at h
                  rw [if_neg hwi] at h
                  exact h)
                have c3 : w6.cell? ⟨bs, 3, none⟩ = some (.string XV) := hBF.out.cell 3 _ rfl
                have f3 : w6.frozen? ⟨bs, 3, none⟩ = false := hBF.out.frozen 3
                have hB9 : Hid (BlkAt (w6.setCell ⟨bs, 3, none⟩ (.string ⟨#[]⟩)) bs 50 [.int .i64 x.head, .string XN, .string XF, .string ⟨#[]⟩]) := Lib.hid (hBF.out.set 3 _)
                have kq : Keeps (fun i => i = bs) w6 (w6.setCell ⟨bs, 3, none⟩ (.string ⟨#[]⟩)) := Keeps.setCell (F := fun i => i = bs) (Keeps.refl _ _) (p := ⟨bs, 3, none⟩) (.inl rfl) _
                have hO9 := Lib.hid (hOF.out.keep kq (fun k e f => hgL.out k e f))
                have hK9 := Lib.hid (hKF.out.trans' kq (fun i e => .inr (by rw [e]; exact hsz.out)))
                clear kq hM9 hM3 hS9 hnA hnB hwi
                go_wp2_with (first | ((with_reducible refine at_slot 59 ?_); go_must (refine wpList_load_mid rfl 50 (.tmp 7) rfl bs 0 rfl [.int .i64 x.head, .string XN, .string XF, .string ⟨#[]⟩] _ hB9.out.range Tryz.underlying50 rfl lineInfo ?_)) | ((with_reducible refine at_slot 64 ?_); go_must (refine wpList_append_r rfl (.tmp 58) (.tmp 63) 46 52 rfl i0 _ 88 Tryz.underlying46 hi0 hi1 hi2 hi3 rfl (by decide) (by decide) cVals_len w2 _ L.length L rfl rfl (hO9.out.keep ((Keeps.refl (fun _ => False) _).alloc _) (fun _ _ f => f)) _ rfl ⟨⟨x.head, XN.data.toList, XF.data.toList, []⟩, XV.data.toList, (⟨#[]⟩ : ByteArray).data.toList⟩ (cells_new (w := w6.setCell ⟨bs, 3, none⟩ (.string ⟨#[]⟩)) (n := w6.heap.size) (by simp [World.setCell]) [.int .i64 x.head, .string XN, .string XF, .string ⟨#[]⟩, .string XV, .string (⟨#[]⟩ : ByteArray)] _) (cVals_one _) (by omega) ?_); intro q8 d8 w8 hO8 hg8))
                have hg9 := Lib.hid ((hO9.out.keep ((Keeps.refl (fun _ => False) (w6.setCell ⟨bs, 3, none⟩ (.string ⟨#[]⟩))).alloc (.cells #[.int .i64 x.head, .string XN, .string XF, .string ⟨#[]⟩, .string XV, .string (⟨#[]⟩ : ByteArray)] 52)) (fun _ _ f => f)).keeps (hK9.out.alloc _) hg8.out)
                exact ⟨⟨a, b, L ++ [⟨⟨x.head, XN.data.toList, XF.data.toList, []⟩, XV.data.toList, (⟨#[]⟩ : ByteArray).data.toList⟩], _, _, q8, _, _, d8, m, rfl, rfl, by simp, by simp only [List.length_cons] at hn; omega, by simp; omega, hMa, haF, hbF, by simpa using hO8, hg9⟩, by simp only [lenV, List.length_cons]; omega⟩
        | false =>
          cases zB with
          | false => exact absurd hz1'.out (by decide)
          | true =>
            cases b with
            | nil => have h := hzB'.out; cases h
            | cons y b =>
              obtain ⟨gy, oy, rfl, h0y⟩ := hb.out.open (by simp)
              obtain ⟨YN, hYN⟩ : ∃ N : ByteArray, N = ⟨y.name.toArray⟩ := ⟨_, rfl⟩
              obtain ⟨YF, hYF⟩ : ∃ N : ByteArray, N = ⟨y.leaf.toArray⟩ := ⟨_, rfl⟩
              obtain ⟨YV, hYV⟩ : ∃ N : ByteArray, N = ⟨y.value.toArray⟩ := ⟨_, rfl⟩
              have hry : Hid (w5.rangeAt gy oy [.int .i64 y.head, .string YN, .string YF, .string YV]) := Lib.hid (by
                rw [hYN, hYF, hYV]
                have h := hK5.out.rangeAt (h0y 0 y rfl) id
                simpa [lineVals, strv] using h)
              have hdy : Hid (YN.data.toList = y.name ∧ YF.data.toList = y.leaf ∧ YV.data.toList = y.value) := Lib.hid (by rw [hYN, hYF, hYV]; exact ⟨rfl, rfl, rfl⟩)
              clear h0y hYN hYF hYV
              have hgy : Hid (¬ gy = bs) := Lib.hid (hgB.out (by simp) gy rfl)
              have hBF2 : Hid (RowsAt 4 lineVals w2 (.slice (if cb = 1 then some ⟨gy, oy, none⟩ else some ⟨gy, oy + 4, none⟩) b.length (cb - 1)) b) := Lib.hid (by have h := hb.out.from 1 (by simp); simpa [Addr.add] using h)
              have ny1 : (1 : Int) ≤ (b.length : Int) + 1 := by omega
              go_upto_region 11 with fail
              refine wp_region_noPanic ?_
              refine wp_region_held_drew (S := (fun W => Keeps (fun i => i = bs) w5 W)) (by kernel_rfl) (((Keeps.refl _ _).drew)) (fun hHeld => ?_)
              refine tk 0 rfl ?_
              refine tk 1 rfl ?_
              refine tkL 2 rfl (yieldsIf_load_mid (by rfl) 50 (.tmp 46) rfl gy oy rfl [.int .i64 y.head, .string YN, .string YF, .string YV] _ (fun _ s => s.rangeAt hry.out hgy.out) Tryz.underlying50 rfl lineInfo) ?_
              refine tk 3 rfl ?_
              refine tk 4 rfl ?_
              refine tk 5 rfl ?_
              refine tkL 6 rfl (yieldsIf_load_cell (by rfl) 9 (.tmp 50) rfl gy (oy + 3) rfl _ (fun _ s => s.rangeAt hry.out hgy.out 3 _ rfl) (fun w s => load_str w _ _ _ s)) ?_
              refine tk 7 rfl ?_
              refine tk 8 rfl ?_
              refine stepL 9 rfl (by kernel_rfl) (fun K hK => ?_)
              rw [if_pos (by rfl)]
              (refine wp_store_mid 50 (.tmp 7) (.tmp 47) rfl bs 0 #[.int .i64 y.head, .string YN, .string YF, .string YV] rfl rfl (BlkAt.there hB5.out.drew 0 4 (Nat.le_refl 4)) lineInfo (line_one _ _ _ _) ?_)
              refine hK.out _ _ ((Keeps.setCells (F := fun i => i = bs) (.inl rfl) _ _ _ hHeld)) (fun hHeld => ?_)
              clear hK K
              try simp only [Act.put, sA, sZ, sS]
              refine tk 10 rfl ?_
              refine tk 11 rfl ?_
              refine wpAnyH_done (by kernel_rfl) (NoPanic.normal ?_) _
              have hyB : Hid (BlkAt (w5.drew.setCells bs 0 [.int .i64 y.head, .string YN, .string YF, .string YV]) bs 50 [.int .i64 y.head, .string YN, .string YF, .string YV]) := Lib.hid (BlkAt.four hB5.out.drew _ _ _ _)
              have hyO := Lib.hid (hO5.out.keep hHeld (fun k e f => hgL.out k e f))
              have hyK := Lib.hid (hK5.out.trans' hHeld (fun i e => .inr (by rw [e]; exact hsz.out)))
              clear hHeld
              generalize w5.drew.setCells bs 0 [.int .i64 y.head, .string YN, .string YF, .string YV] = w7 at hyB hyO hyK ⊢
              generalize (if cb = 1 then some (⟨gy, oy, none⟩ : Addr) else some ⟨gy, oy + 4, none⟩) = pb2 at hBF2 ⊢
              have hnA : Hid (nextL a (y :: b) = a) := Lib.hid (by unfold nextL; rw [if_neg (by rw [hzA'.out]; exact Bool.false_ne_true)])
              have hnB : Hid (nextL (y :: b) a = b) := Lib.hid (by unfold nextL; rw [if_pos hzB'.out]; rfl)
              have hBF := hyB
              have hOF := hyO
              have hKF := hyK
              have haF := ha
              have hbF := hBF2
              clear hyB hyO hyK hB5 hO5 hK5 ha hb
              have hS9 : Hid (stepCh a (y :: b) = oneCh ⟨y.head, YN.data.toList, YF.data.toList, YV.data.toList⟩ (⟨#[]⟩ : ByteArray).data.toList YV.data.toList) := Lib.hid (by
                unfold stepCh
                rw [if_pos hzB'.out, if_neg (by rw [hzA'.out]; exact Bool.false_ne_true), if_pos hzB'.out, hdy.out.1, hdy.out.2.1, hdy.out.2.2]
                rfl)
              have hM9 : Hid (L ++ oneCh ⟨y.head, YN.data.toList, YF.data.toList, YV.data.toList⟩ (⟨#[]⟩ : ByteArray).data.toList YV.data.toList ++ mergeC m a b = mergeC (A.length + B.length) A B) := Lib.hid (by
                have h := hM3.out
                rw [hS9.out, hnA.out, hnB.out] at h
                exact h)
              by_cases hwi : (⟨#[]⟩ : ByteArray).data.toList = YV.data.toList
              · have e1 := beq_list hwi
                have e2 := empty_list hwi.symm
                have e3 := nil_listb hwi.symm
                have hMa : Hid (L ++ mergeC m a b = mergeC (A.length + B.length) A B) := Lib.hid (by
                  have h := hM9.out
                  unfold oneCh at h
                  rw [if_pos hwi, List.append_nil] at h
                  exact h)
                clear hM9 hM3 hS9 hnA hnB hwi
                go_wp2_with fail
                exact ⟨⟨a, b, L, _, _, pl, _, _, cl, m, rfl, rfl, rfl, by simp only [List.length_cons] at hn; omega, by omega, hMa, haF, hbF, hOF, hKF⟩, by simp only [lenV, List.length_cons]; omega⟩
              · have e1 := bne_list hwi
                have e2 := nonempty_list (fun e => hwi e.symm)
                have e3 := nil_listn (fun e => hwi e.symm)
                have hMa : Hid ((L ++ [⟨⟨y.head, YN.data.toList, YF.data.toList, []⟩, (⟨#[]⟩ : ByteArray).data.toList, YV.data.toList⟩]) ++ mergeC m a b = mergeC (A.length + B.length) A B) := Lib.hid (by
                  have h := hM9.out
                  unfold oneCh at h
                  rw [if_neg hwi] at h
                  exact h)
                have c3 : w7.cell? ⟨bs, 3, none⟩ = some (.string YV) := hBF.out.cell 3 _ rfl
                have f3 : w7.frozen? ⟨bs, 3, none⟩ = false := hBF.out.frozen 3
                have hB9 : Hid (BlkAt (w7.setCell ⟨bs, 3, none⟩ (.string ⟨#[]⟩)) bs 50 [.int .i64 y.head, .string YN, .string YF, .string ⟨#[]⟩]) := Lib.hid (hBF.out.set 3 _)
                have kq : Keeps (fun i => i = bs) w7 (w7.setCell ⟨bs, 3, none⟩ (.string ⟨#[]⟩)) := Keeps.setCell (F := fun i => i = bs) (Keeps.refl _ _) (p := ⟨bs, 3, none⟩) (.inl rfl) _
                have hO9 := Lib.hid (hOF.out.keep kq (fun k e f => hgL.out k e f))
                have hK9 := Lib.hid (hKF.out.trans' kq (fun i e => .inr (by rw [e]; exact hsz.out)))
                clear kq hM9 hM3 hS9 hnA hnB hwi
                go_wp2_with (first | ((with_reducible refine at_slot 59 ?_); go_must (refine wpList_load_mid rfl 50 (.tmp 7) rfl bs 0 rfl [.int .i64 y.head, .string YN, .string YF, .string ⟨#[]⟩] _ hB9.out.range Tryz.underlying50 rfl lineInfo ?_)) | ((with_reducible refine at_slot 64 ?_); go_must (refine wpList_append_r rfl (.tmp 58) (.tmp 63) 46 52 rfl i0 _ 88 Tryz.underlying46 hi0 hi1 hi2 hi3 rfl (by decide) (by decide) cVals_len w2 _ L.length L rfl rfl (hO9.out.keep ((Keeps.refl (fun _ => False) _).alloc _) (fun _ _ f => f)) _ rfl ⟨⟨y.head, YN.data.toList, YF.data.toList, []⟩, (⟨#[]⟩ : ByteArray).data.toList, YV.data.toList⟩ (cells_new (w := w7.setCell ⟨bs, 3, none⟩ (.string ⟨#[]⟩)) (n := w7.heap.size) (by simp [World.setCell]) [.int .i64 y.head, .string YN, .string YF, .string ⟨#[]⟩, .string (⟨#[]⟩ : ByteArray), .string YV] _) (cVals_one _) (by omega) ?_); intro q8 d8 w8 hO8 hg8))
                have hg9 := Lib.hid ((hO9.out.keep ((Keeps.refl (fun _ => False) (w7.setCell ⟨bs, 3, none⟩ (.string ⟨#[]⟩))).alloc (.cells #[.int .i64 y.head, .string YN, .string YF, .string ⟨#[]⟩, .string (⟨#[]⟩ : ByteArray), .string YV] 52)) (fun _ _ f => f)).keeps (hK9.out.alloc _) hg8.out)
                exact ⟨⟨a, b, L ++ [⟨⟨y.head, YN.data.toList, YF.data.toList, []⟩, (⟨#[]⟩ : ByteArray).data.toList, YV.data.toList⟩], _, _, q8, _, _, d8, m, rfl, rfl, by simp, by simp only [List.length_cons] at hn; omega, by simp; omega, hMa, haF, hbF, by simpa using hO8, hg9⟩, by simp only [lenV, List.length_cons]; omega⟩
end Go.Proofs.YtdannodhlaaoiaaGreatDoor
