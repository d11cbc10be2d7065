/- The document's Head (gen_lai.py writes this out of lsa.Head's walk), and the law's back. -/
import Derived.Test.YtdaongflpllfhaaLS19
import Derived.StillTailTactics
import Derived.Test.YtdaongflpllfhaaLS16
import Derived.Test.YtdaongflpllfhaaLS12
import Derived.Test.YtdaongflpllfhaaLS09
import Derived.Test.YtdaongflpllfhaaLS14
set_option linter.unusedVariables false
set_option linter.unusedSimpArgs false
namespace Go.Proofs.Ytdaongflpllfhaa
open Go.RowKit

theorem r10HeadInfo : (Try.prog.info? 95).map (·.size) = some 7 := by kernel_rfl
theorem r10Num_still (sl : Value) (l : List UInt8) (n : Nat) (hl : l.length ≤ 4) (w : World) (h : Hid (BytesAt w sl l)) (hn : Hid (beVal l = n)) :
    Calls Try.prog 97 #[sl] w fun e w' => e = .returned (.int .i64 n) ∧ w' = w :=
  (r10Num_any sl l hl w h).mono fun e w' ⟨he, hw⟩ => ⟨by rw [he, hn.out], hw.symm⟩
set_option maxRecDepth 100000 in
set_option maxHeartbeats 4000000 in
theorem r10Head_yes (g o c : Nat) (l : List UInt8) (hl : 20 ≤ l.length) (hl2 : l.length ≤ 9223372036854775807) (hc : l.length ≤ c) (w : World) (hr : Hid (w.rangeAt g o (l.map bv))) :
    Calls Try.prog 61 #[.slice (some ⟨g, o, none⟩) l.length c] w fun e w' => e = .returned (headV (headOf l)) ∧ Keeps (fun _ => False) w w' := by
  obtain ⟨H, hQ⟩ : ∃ H, headOf l = H := ⟨_, rfl⟩
  rw [hQ]
  have i2 : (2 : Int) ≤ c := by omega
  have i8 : (8 : Int) ≤ c := by omega
  have i12 : (12 : Int) ≤ c := by omega
  have i16 : (16 : Int) ≤ c := by omega
  have i18 : (18 : Int) ≤ c := by omega
  have i20 : (20 : Int) ≤ c := by omega
  have j4 : ¬ c = 4 := by omega
  have j8 : ¬ c = 8 := by omega
  have j12 : ¬ c = 12 := by omega
  have j16 : ¬ c = 16 := by omega
  have j18 : ¬ c = 18 := by omega
  have i3 : (3 : Int) < l.length := by omega
  have hk0 : Hid (Keeps (fun _ => False) w (w.alloc (.cells #[.int .i64 0, .int .i64 0, .int .u32 0, .int .u32 0, .int .i64 0, .int .u16 0, .int .i64 0] 95))) := Lib.hid ((Keeps.refl _ _).alloc _)
  have hb0 : Hid (World.blockAt (w.alloc (.cells #[.int .i64 0, .int .i64 0, .int .u32 0, .int .u32 0, .int .i64 0, .int .u16 0, .int .i64 0] 95)) w.heap.size 95 7) := Lib.hid ⟨_, heap_alloc_last w _, rfl⟩
  go_enter Try.func61, Try.ntmps61
  go_upto_region 1 with fail
  generalize w.alloc (.cells #[.int .i64 0, .int .i64 0, .int .u32 0, .int .u32 0, .int .i64 0, .int .u16 0, .int .i64 0] 95) = w0 at hk0 hb0 ⊢
  have hr0 := Lib.hid (hk0.out.rangeAt hr.out id)
  have c3 := drop_cell hr0.out 3 (by omega)
  obtain ⟨n0, hn0⟩ : ∃ n, beVal (sub l 0 2) = n := ⟨_, rfl⟩
  obtain ⟨n4, hn4⟩ : ∃ n, beVal (sub l 4 4) = n := ⟨_, rfl⟩
  obtain ⟨n8, hn8⟩ : ∃ n, beVal (sub l 8 4) = n := ⟨_, rfl⟩
  obtain ⟨n12, hn12⟩ : ∃ n, beVal (sub l 12 4) = n := ⟨_, rfl⟩
  obtain ⟨n16, hn16⟩ : ∃ n, beVal (sub l 16 2) = n := ⟨_, rfl⟩
  obtain ⟨n18, hn18⟩ : ∃ n, beVal (sub l 18 2) = n := ⟨_, rfl⟩
  have b0 := sub_lt (x := l) (i := 0) (n := 2) (by omega)
  have b4 := sub_lt (x := l) (i := 4) (n := 4) (by omega)
  have b8 := sub_lt (x := l) (i := 8) (n := 4) (by omega)
  have b12 := sub_lt (x := l) (i := 12) (n := 4) (by omega)
  have b16 := sub_lt (x := l) (i := 16) (n := 2) (by omega)
  have b18 := sub_lt (x := l) (i := 18) (n := 2) (by omega)
  rw [hn0] at b0; rw [hn4] at b4; rw [hn8] at b8; rw [hn12] at b12; rw [hn16] at b16; rw [hn18] at b18
  simp only [show (256 : Nat) ^ 2 = 65536 from rfl, show (256 : Nat) ^ 4 = 4294967296 from rfl] at b0 b4 b8 b12 b16 b18
  have b3 := (l[3]'(by omega)).toNat_lt
  have hs32 : IntKind.i32.wrap (n12 : Int) = sgn32 n12 := sgn32_wrap n12 b12
  have hs1 := sgn32_lo n12 b12
  have hs2 := sgn32_hi n12 b12
  obtain ⟨q12, hq12⟩ : ∃ q, sgn32 n12 = q := ⟨_, rfl⟩
  rw [hq12] at hs32 hs1 hs2
  have hfin : headOf l = ⟨n0, ((l[3]'(by omega)).toNat : Int), n4, n8, q12, n16, n18⟩ := by
    unfold headOf
    rw [hn0, hn4, hn8, hn12, hn16, hn18, hq12, List.getD_eq_getElem?_getD, List.getElem?_eq_getElem (by omega)]; rfl
  rw [hfin] at hQ
  have v0 : IntKind.i64.wrap (n0 : Int) = (n0 : Int) := IntWalk.i64_in _ (by omega)
  have v3 : IntKind.i64.wrap ((l[3]'(by omega)).toNat : Int) = ((l[3]'(by omega)).toNat : Int) := IntWalk.i64_in _ (by omega)
  have v12 : IntKind.i64.wrap q12 = q12 := IntWalk.i64_in _ (by omega)
  have v4 : IntKind.u32.wrap (n4 : Int) = (n4 : Int) := by rw [u32_wrap]; omega
  have v8 : IntKind.u32.wrap (n8 : Int) = (n8 : Int) := by rw [u32_wrap]; omega
  have v16 : IntKind.u16.wrap (n16 : Int) = (n16 : Int) := by rw [u16_wrap]; omega
  have v18 : IntKind.i64.wrap (n18 : Int) = (n18 : Int) := IntWalk.i64_in _ (by omega)
  have hrd := Lib.hid (((Keeps.refl (fun _ => False) w0).drew).rangeAt hr0.out id)
  have k0 := Lib.hid (bytes_sub hrd.out hc 0 2 (by omega))
  have k4 := Lib.hid (bytes_sub hrd.out hc 4 4 (by omega))
  have k8 := Lib.hid (bytes_sub hrd.out hc 8 4 (by omega))
  have k12 := Lib.hid (bytes_sub hrd.out hc 12 4 (by omega))
  have k16 := Lib.hid (bytes_sub hrd.out hc 16 2 (by omega))
  have k18 := Lib.hid (bytes_sub hrd.out hc 18 2 (by omega))
  rw [Nat.add_zero, Nat.sub_zero] at k0
  have s0 : (sub l 0 2).length ≤ 4 := by rw [sub_len (by omega)]; omega
  have s4 : (sub l 4 4).length ≤ 4 := by rw [sub_len (by omega)]; omega
  have s8 : (sub l 8 4).length ≤ 4 := by rw [sub_len (by omega)]; omega
  have s12 : (sub l 12 4).length ≤ 4 := by rw [sub_len (by omega)]; omega
  have s16 : (sub l 16 2).length ≤ 4 := by rw [sub_len (by omega)]; omega
  have s18 : (sub l 18 2).length ≤ 4 := by rw [sub_len (by omega)]; omega
  have hn0' := Lib.hid hn0; have hn4' := Lib.hid hn4; have hn8' := Lib.hid hn8; have hn12' := Lib.hid hn12; have hn16' := Lib.hid hn16; have hn18' := Lib.hid hn18
  clear hn0 hn4 hn8 hn12 hn16 hn18 hfin hq12
  refine wp_region_still_tail 29 (by kernel_rfl) (by kernel_rfl) ?_
  simp only [List.take_succ_cons, List.take_zero, List.drop_succ_cons, List.drop_zero]
  repeat still_step
  still_call (r10Num_still _ _ n0 s0 _ k0 hn0')
  repeat still_step
  still_call (r10Num_still _ _ n4 s4 _ k4 hn4')
  repeat still_step
  still_call (r10Num_still _ _ n8 s8 _ k8 hn8')
  repeat still_step
  still_call (r10Num_still _ _ n12 s12 _ k12 hn12')
  repeat still_step
  still_call (r10Num_still _ _ n16 s16 _ k16 hn16')
  repeat still_step
  still_call (r10Num_still _ _ n18 s18 _ k18 hn18')
  repeat still_step
  refine wpStill_nil ?_
  change wpList _ _ _ _ _ w0.drew
  clear v4 v8 v0 v3 v12 v16 v18 j4 j8 j12 j16 j18 hs32 i2 i8 i12 i16 i18 i20 i3 k0 k4 k8 k12 k16 k18 c3
  have hth := Lib.hid (hb0.out.keep ((Keeps.refl (fun _ => False) _).drew) id)
  refine (wpList_store_mid rfl 95 (.tmp 2) (.tmp 31) rfl w.heap.size 0 #[.int .i64 n0, .int .i64 ((l[3]'(by omega)).toNat : Nat), .int .u32 n4, .int .u32 n8, .int .i64 q12, .int .u16 n16, .int .i64 n18] rfl rfl (hth.out.there 0 7 (by omega)) r10HeadInfo (head_one _ _ _ _ _ _ _) ?_)
  have hk9 : Hid (Keeps (fun _ => False) w (w0.drew.setCells w.heap.size 0 [.int .i64 n0, .int .i64 ((l[3]'(by omega)).toNat : Nat), .int .u32 n4, .int .u32 n8, .int .i64 q12, .int .u16 n16, .int .i64 n18])) := Lib.hid (Keeps.setCells (.inr (Nat.le_refl _)) _ _ _ hk0.out.drew)
  have hr9 : Hid ((w0.drew.setCells w.heap.size 0 [.int .i64 n0, .int .i64 ((l[3]'(by omega)).toNat : Nat), .int .u32 n4, .int .u32 n8, .int .i64 q12, .int .u16 n16, .int .i64 n18]).rangeAt w.heap.size 0 [.int .i64 n0, .int .i64 ((l[3]'(by omega)).toNat : Nat), .int .u32 n4, .int .u32 n8, .int .i64 q12, .int .u16 n16, .int .i64 n18]) := Lib.hid (World.rangeAt_setCells_same _ _ _ _ (hth.out.there 0 7 (by omega)))
  change wpList _ _ _ _ _ (w0.drew.setCells w.heap.size 0 [.int .i64 n0, .int .i64 ((l[3]'(by omega)).toNat : Nat), .int .u32 n4, .int .u32 n8, .int .i64 q12, .int .u16 n16, .int .i64 n18])
  generalize w0.drew.setCells w.heap.size 0 [.int .i64 n0, .int .i64 ((l[3]'(by omega)).toNat : Nat), .int .u32 n4, .int .u32 n8, .int .i64 q12, .int .u16 n16, .int .i64 n18] = w9 at hk9 hr9 ⊢
  go_wp2_with fail
  have e0 := rangeAt_cell hr9.out 0 _ rfl
  have e1 := rangeAt_cell hr9.out 1 _ rfl
  have e2 := rangeAt_cell hr9.out 2 _ rfl
  have e3 := rangeAt_cell hr9.out 3 _ rfl
  have e4 := rangeAt_cell hr9.out 4 _ rfl
  have e5 := rangeAt_cell hr9.out 5 _ rfl
  have e6 := rangeAt_cell hr9.out 6 _ rfl
  refine bodyPost_ret (v := .agg #[.int .i64 n0, .int .i64 ((l[3]'(by omega)).toNat : Nat), .int .u32 n4, .int .u32 n8, .int .i64 q12, .int .u16 n16, .int .i64 n18]) (by simp [results, Try.results61, go_sem, e0, e1, e2, e3, e4, e5, e6]) rfl ⟨?_, hk9.out⟩
  rw [← hQ]; rfl

end Go.Proofs.Ytdaongflpllfhaa
/- The document's sign, Compare, Head of an Lsa; the law's Head and keyFrom (gen_lkw.py writes this). -/
set_option linter.unusedVariables false
set_option linter.unusedSimpArgs false
namespace Go.Proofs.Ytdaongflpllfhaa
open Go.RowKit

theorem r10Sign_any (b : Bool) (w : World) : Calls Try.prog 59 #[.bool b] w fun e w' => e = .returned (.int .i64 (if b then 1 else -1)) ∧ w = w' := by
  cases b with
  | true =>
    go_enter Try.func59, Try.ntmps59
    go_wp2_with fail
    go_ret
    exact ⟨rfl, rfl⟩
  | false =>
    go_enter Try.func59, Try.ntmps59
    go_wp2_with fail
    go_ret
    exact ⟨rfl, rfl⟩
theorem headInfoR10 : (Try.prog.info? 95).map (·.size) = some 7 := by kernel_rfl
theorem sgn_cmp (a b : Int) (h : a ≠ b) : (if decide (a > b) then (1 : Int) else -1) = cmpI a b := by
  unfold cmpI
  by_cases g : a < b
  · rw [if_pos g, decide_eq_false (by omega)]; rfl
  · have g2 : a > b := by omega
    rw [if_neg g, if_pos g2, decide_eq_true g2]; rfl
theorem r10Sign_is (b : Bool) (z : Int) (hz : (if b then (1 : Int) else -1) = z) (w : World) : Calls Try.prog 59 #[.bool b] w fun e w' => e = .returned (.int .i64 z) ∧ w = w' := by subst hz; exact r10Sign_any b w
set_option maxRecDepth 100000 in
set_option maxHeartbeats 4000000 in
theorem r10Compare_any (age1 age2 sum1 sum2 id1 id2 adv1 adv2 : Nat) (type1 type2 seq1 seq2 len1 len2 z : Int) (ha : age1 ≤ 3600) (hb : age2 ≤ 3600) (w : World) (hz : Hid (cmpH age1 age2 seq1 seq2 sum1 sum2 = z)) :
    Calls Try.prog 34 #[.agg #[.int .i64 (age1 : Nat), .int .i64 type1, .int .u32 id1, .int .u32 adv1, .int .i64 seq1, .int .u16 sum1, .int .i64 len1], .agg #[.int .i64 (age2 : Nat), .int .i64 type2, .int .u32 id2, .int .u32 adv2, .int .i64 seq2, .int .u16 sum2, .int .i64 len2]] w fun e w' => e = .returned (.int .i64 z) ∧ Keeps (fun _ => False) w w' := by
  obtain ⟨W0, hW0⟩ : ∃ W0, W0 = (w.alloc (.cells #[.int .i64 (age1 : Nat), .int .i64 type1, .int .u32 id1, .int .u32 adv1, .int .i64 seq1, .int .u16 sum1, .int .i64 len1] 95)).alloc (.cells #[.int .i64 (age2 : Nat), .int .i64 type2, .int .u32 id2, .int .u32 adv2, .int .i64 seq2, .int .u16 sum2, .int .i64 len2] 95) := ⟨_, rfl⟩
  have hA := (BlkAt.new w 95 [.int .i64 (age1 : Nat), .int .i64 type1, .int .u32 id1, .int .u32 adv1, .int .i64 seq1, .int .u16 sum1, .int .i64 len1]).alloc (.cells #[.int .i64 (age2 : Nat), .int .i64 type2, .int .u32 id2, .int .u32 adv2, .int .i64 seq2, .int .u16 sum2, .int .i64 len2] 95)
  have hB : BlkAt W0 (w.heap.size + 1) 95 [.int .i64 (age2 : Nat), .int .i64 type2, .int .u32 id2, .int .u32 adv2, .int .i64 seq2, .int .u16 sum2, .int .i64 len2] := by
    have := BlkAt.new (w.alloc (.cells #[.int .i64 (age1 : Nat), .int .i64 type1, .int .u32 id1, .int .u32 adv1, .int .i64 seq1, .int .u16 sum1, .int .i64 len1] 95)) 95 [.int .i64 (age2 : Nat), .int .i64 type2, .int .u32 id2, .int .u32 adv2, .int .i64 seq2, .int .u16 sum2, .int .i64 len2]
    rw [hW0]; simpa using this
  have hA : BlkAt W0 w.heap.size 95 [.int .i64 (age1 : Nat), .int .i64 type1, .int .u32 id1, .int .u32 adv1, .int .i64 seq1, .int .u16 sum1, .int .i64 len1] := by rw [hW0]; exact hA
  have hK : Hid (Keeps (fun _ => False) w W0) := Lib.hid (by rw [hW0]; exact ((Keeps.refl _ _).alloc _).alloc _)
  have a0 := hA.cell 0 _ rfl
  have a4 := hA.cell 4 _ rfl
  have a5 := hA.cell 5 _ rfl
  have b0 := hB.cell 0 _ rfl
  have b4 := hB.cell 4 _ rfl
  have b5 := hB.cell 5 _ rfl
  have hW0' := Lib.hid hW0
  clear hW0 hA hB
  have hz0 := hz.out
  clear hz
  unfold cmpH at hz0
  by_cases h1 : seq1 = seq2
  · rw [if_neg (by simpa using h1)] at hz0
    have e1 : (seq1 != seq2) = false := by rw [h1]; simp
    clear h1
    by_cases h2 : sum1 = sum2
    · rw [if_neg (by simpa using h2)] at hz0
      have e2 : ((sum1 : Int) != (sum2 : Int)) = false := by rw [h2]; simp
      clear h2
      by_cases h3 : age1 = 3600
      · by_cases h4 : age2 = 3600
        · as_aux_lemma =>
          have e3 : ((age1 : Int) == 3600) = true := by rw [h3]; rfl
          have e4 : ((age2 : Int) == 3600) = true := by rw [h4]; rfl
          rw [if_neg (by omega), if_neg (by omega), if_neg (by omega)] at hz0
          obtain rfl : 0 = z := hz0
          have g1 : ¬ (age1 : Int) > age2 := by omega
          have g2 : ¬ (age2 : Int) > age1 := by omega
          clear h3 h4
          go_enter Try.func34, Try.ntmps34
          go_upto_region 1 with fail
          rw [← hW0'.out]
          clear hW0'
          go_wp2_with fail
          go_ret
          exact ⟨rfl, hK.out⟩
        · as_aux_lemma =>
          have e3 : ((age1 : Int) == 3600) = true := by rw [h3]; rfl
          have e4 : ((age2 : Int) == 3600) = false := by rw [beq_eq_false_iff_ne]; omega
          rw [if_pos (by omega)] at hz0
          have hz1 := Lib.hid hz0
          clear hz0 h3 h4
          go_enter Try.func34, Try.ntmps34
          go_upto_region 1 with fail
          rw [← hW0'.out]
          clear hW0'
          go_wp2_with fail
          refine (r10Sign_is _ z (by first | exact hz1.out | simpa using hz1.out) _).mono ?_
          rintro e w' ⟨rfl, rfl⟩
          go_wp2_with fail
          go_ret
          exact ⟨rfl, hK.out⟩
      · by_cases h4 : age2 = 3600
        · as_aux_lemma =>
          have e3 : ((age1 : Int) == 3600) = false := by rw [beq_eq_false_iff_ne]; omega
          have e4 : ((age2 : Int) == 3600) = true := by rw [h4]; rfl
          rw [if_neg (by omega), if_pos (by omega)] at hz0
          have hz1 := Lib.hid hz0
          clear hz0 h3 h4
          go_enter Try.func34, Try.ntmps34
          go_upto_region 1 with fail
          rw [← hW0'.out]
          clear hW0'
          go_wp2_with fail
          refine (r10Sign_is _ z (by first | exact hz1.out | simpa using hz1.out) _).mono ?_
          rintro e w' ⟨rfl, rfl⟩
          go_wp2_with fail
          go_ret
          exact ⟨rfl, hK.out⟩
        · as_aux_lemma =>
          have e3 : ((age1 : Int) == 3600) = false := by rw [beq_eq_false_iff_ne]; omega
          have e4 : ((age2 : Int) == 3600) = false := by rw [beq_eq_false_iff_ne]; omega
          rw [if_neg (by omega), if_neg (by omega)] at hz0
          clear h3 h4
          by_cases h5 : max age1 age2 - min age1 age2 > 900
          · rw [if_pos h5] at hz0
            by_cases h6 : age2 < age1
            · have g1 : (age1 : Int) > age2 := by omega
              have g3 : (age1 : Int) - age2 > 900 := by omega
              have g4 : ¬ (age1 : Int) < age2 := by omega
              have hz1 : Hid ((-1 : Int) = z) := Lib.hid (by rw [← hz0]; unfold cmpI; rw [if_pos (by omega)])
              clear hz0 h5 h6
              go_enter Try.func34, Try.ntmps34
              go_upto_region 1 with fail
              rw [← hW0'.out]
              clear hW0'
              go_wp2_with fail
              refine (r10Sign_is _ z (by first | exact hz1.out | simpa using hz1.out) _).mono ?_
              rintro e w' ⟨rfl, rfl⟩
              go_wp2_with fail
              go_ret
              exact ⟨rfl, hK.out⟩
            · have g1 : ¬ (age1 : Int) > age2 := by omega
              have g2 : (age2 : Int) > age1 := by omega
              have g3 : (age2 : Int) - age1 > 900 := by omega
              have g4 : (age1 : Int) < age2 := by omega
              have hz1 : Hid ((1 : Int) = z) := Lib.hid (by rw [← hz0]; unfold cmpI; rw [if_neg (by omega), if_pos (by omega)])
              clear hz0 h5 h6
              go_enter Try.func34, Try.ntmps34
              go_upto_region 1 with fail
              rw [← hW0'.out]
              clear hW0'
              go_wp2_with fail
              refine (r10Sign_is _ z (by first | exact hz1.out | simpa using hz1.out) _).mono ?_
              rintro e w' ⟨rfl, rfl⟩
              go_wp2_with fail
              go_ret
              exact ⟨rfl, hK.out⟩
          · rw [if_neg h5] at hz0
            obtain rfl : 0 = z := hz0
            by_cases h6 : age2 < age1
            · have g1 : (age1 : Int) > age2 := by omega
              have g3 : ¬ (age1 : Int) - age2 > 900 := by omega
              have g2 : ¬ (age2 : Int) > age1 := by omega
              clear h5 h6
              go_enter Try.func34, Try.ntmps34
              go_upto_region 1 with fail
              rw [← hW0'.out]
              clear hW0'
              go_wp2_with fail
              go_ret
              exact ⟨rfl, hK.out⟩
            · by_cases h7 : age1 < age2
              · have g1 : ¬ (age1 : Int) > age2 := by omega
                have g2 : (age2 : Int) > age1 := by omega
                have g3 : ¬ (age2 : Int) - age1 > 900 := by omega
                clear h5 h6 h7
                go_enter Try.func34, Try.ntmps34
                go_upto_region 1 with fail
                rw [← hW0'.out]
                clear hW0'
                go_wp2_with fail
                go_ret
                exact ⟨rfl, hK.out⟩
              · have g1 : ¬ (age1 : Int) > age2 := by omega
                have g2 : ¬ (age2 : Int) > age1 := by omega
                clear h5 h6 h7
                go_enter Try.func34, Try.ntmps34
                go_upto_region 1 with fail
                rw [← hW0'.out]
                clear hW0'
                go_wp2_with fail
                go_ret
                exact ⟨rfl, hK.out⟩
    · as_aux_lemma =>
      rw [if_pos (by simpa using h2)] at hz0
      have e2 : ((sum1 : Int) != (sum2 : Int)) = true := by rw [bne_iff_ne]; omega
      have hz1 := Lib.hid ((sgn_cmp _ _ (by omega)).trans hz0)
      clear hz0 h2
      go_enter Try.func34, Try.ntmps34
      go_upto_region 1 with fail
      rw [← hW0'.out]
      clear hW0'
      go_wp2_with fail
      refine (r10Sign_is _ z (by first | exact hz1.out | simpa using hz1.out) _).mono ?_
      rintro e w' ⟨rfl, rfl⟩
      go_wp2_with fail
      go_ret
      exact ⟨rfl, hK.out⟩
  · as_aux_lemma =>
    rw [if_pos (by simpa using h1)] at hz0
    have e1 : (seq1 != seq2) = true := by rw [bne_iff_ne]; omega
    have hz1 := Lib.hid ((sgn_cmp _ _ h1).trans hz0)
    clear hz0 h1
    go_enter Try.func34, Try.ntmps34
    go_upto_region 1 with fail
    rw [← hW0'.out]
    clear hW0'
    go_wp2_with fail
    refine (r10Sign_is _ z (by first | exact hz1.out | simpa using hz1.out) _).mono ?_
    rintro e w' ⟨rfl, rfl⟩
    go_wp2_with fail
    go_ret
    exact ⟨rfl, hK.out⟩
end Go.Proofs.Ytdaongflpllfhaa
/- LsdbLess, walked. -/
namespace Go.Proofs.Ytdaongflpllfhaa
open Go.RowKit

def lessB (a b : KeyD) : Bool := if a.type ≠ b.type then decide (a.type < b.type) else if a.adv ≠ b.adv then decide (a.adv < b.adv) else decide (a.id < b.id)
theorem less_same (a b : KeyD) : decide (ordD a b < 0) = lessB a b := by
  unfold ordD orI lessB cmpI
  by_cases h1 : a.type = b.type
  · by_cases h2 : a.adv = b.adv
    · rw [h1, h2]; simp
      by_cases h3 : a.id < b.id
      · simp [h3]
      · by_cases h4 : b.id < a.id <;> simp [h3, h4]
    · rw [h1]
      by_cases h3 : a.adv < b.adv
      · simp [h2, h3]
      · have h4 : b.adv < a.adv := by omega
        simp [h2, h3, h4]
  · by_cases h3 : a.type < b.type
    · simp [h1, h3]
    · have h4 : b.type < a.type := by omega
      simp [h1, h3, h4]
theorem r10KeyInfo : (Try.prog.info? 45).map (·.size) = some 3 := by kernel_rfl
theorem ldLess_any (a b : KeyD) (z : Bool) (w : World) (hz : Hid (lessB a b = z)) :
    Calls Try.prog 24 #[.agg #[.int .i64 a.type, .int .u32 a.id, .int .u32 a.adv], .agg #[.int .i64 b.type, .int .u32 b.id, .int .u32 b.adv]] w (fun e w' => e = .returned (.bool z) ∧ Keeps (fun _ => False) w w') := by
  have hk : Hid (Keeps (fun _ => False) w ((w.alloc (.cells #[.int .i64 a.type, .int .u32 a.id, .int .u32 a.adv] 25)).alloc (.cells #[.int .i64 b.type, .int .u32 b.id, .int .u32 b.adv] 25))) := Lib.hid (((Keeps.refl _ _).alloc _).alloc _)
  obtain ⟨x, hx⟩ : ∃ x, ordD a b = x := ⟨_, rfl⟩
  have hx' := Lib.hid hx
  have hz' : Hid (decide (x < 0) = z) := Lib.hid (by rw [← hz.out, ← less_same, hx])
  clear hx hz
  go_enter Try.func24, Try.ntmps24
  go_wp2_with fail
  refine (ldOrder_any a b x _ hx').mono ?_
  rintro e w2 ⟨rfl, k2⟩
  have hk2 := Lib.hid (hk.out.trans k2)
  clear k2
  go_wp2_with fail
  go_ret
  exact ⟨by rw [← hz'.out]; rfl, hk2.out⟩
set_option maxHeartbeats 1000000 in
theorem r12Less_any (a b : KeyD) (z : Bool) (w : World) (hz : Hid (lessB a b = z)) :
    Calls Try.prog 25 #[.agg #[.int .i64 a.type, .int .u32 a.id, .int .u32 a.adv], .agg #[.int .i64 b.type, .int .u32 b.id, .int .u32 b.adv]] w (fun e w' => e = .returned (.bool z) ∧ Keeps (fun _ => False) w w') := by
  have hk : Hid (Keeps (fun _ => False) w ((w.alloc (.cells #[.int .i64 a.type, .int .u32 a.id, .int .u32 a.adv] 45)).alloc (.cells #[.int .i64 b.type, .int .u32 b.id, .int .u32 b.adv] 45))) := Lib.hid (((Keeps.refl _ _).alloc _).alloc _)
  have hz0 := hz.out
  clear hz
  unfold lessB at hz0
  by_cases h1 : a.type = b.type
  · rw [if_neg (fun h => h h1)] at hz0
    have e1 : (a.type != b.type) = false := by rw [h1]; simp
    clear h1
    by_cases h2 : a.adv = b.adv
    · rw [if_neg (fun h => h h2)] at hz0
      have e2 : ((a.adv : Int) != (b.adv : Int)) = false := by rw [h2]; simp
      have hz1 := Lib.hid hz0
      clear h2 hz0
      go_enter Try.func25, Try.ntmps25
      go_wp2_with fail
      go_ret
      refine ⟨?_, hk.out⟩
      rw [← hz1.out]
      rfl
    · rw [if_pos h2] at hz0
      have e2 : ((a.adv : Int) != (b.adv : Int)) = true := by rw [bne_iff_ne]; omega
      have hz1 := Lib.hid hz0
      clear h2 hz0
      go_enter Try.func25, Try.ntmps25
      go_wp2_with fail
      go_ret
      refine ⟨?_, hk.out⟩
      rw [← hz1.out]
      rfl
  · rw [if_pos h1] at hz0
    have e1 : (a.type != b.type) = true := by rw [bne_iff_ne]; exact h1
    have hz1 := Lib.hid hz0
    clear h1 hz0
    go_enter Try.func25, Try.ntmps25
    go_wp2_with fail
    go_ret
    refine ⟨?_, hk.out⟩
    rw [← hz1.out]
    rfl
theorem lwKey_any (a : KeyD) (w : World) : Calls Try.prog 20 #[.agg #[.int .i64 a.type, .int .u32 a.id, .int .u32 a.adv]] w (fun e w' => e = .returned (.agg #[.int .i64 a.type, .int .u32 a.id, .int .u32 a.adv]) ∧ Keeps (fun _ => False) w w') := by
  obtain ⟨W0, hW0⟩ : ∃ W0, W0 = (w.alloc (.cells #[.int .i64 a.type, .int .u32 a.id, .int .u32 a.adv] 45)).alloc (.cells #[.int .i64 0, .int .u32 0, .int .u32 0] 25) := ⟨_, rfl⟩
  have hR : Hid (BlkAt W0 (w.heap.size + 1) 25 [.int .i64 0, .int .u32 0, .int .u32 0]) := Lib.hid (by
    have := BlkAt.new (w.alloc (.cells #[.int .i64 a.type, .int .u32 a.id, .int .u32 a.adv] 45)) 25 [.int .i64 0, .int .u32 0, .int .u32 0]
    rw [hW0]; simpa using this)
  have hB := (BlkAt.new w 45 [.int .i64 a.type, .int .u32 a.id, .int .u32 a.adv]).alloc (.cells #[.int .i64 0, .int .u32 0, .int .u32 0] 25)
  have hK : Hid (Keeps (fun _ => False) w W0) := Lib.hid (by rw [hW0]; exact ((Keeps.refl _ _).alloc _).alloc _)
  have b0 : W0.cell? ⟨w.heap.size, 0, none⟩ = some (.int .i64 a.type) := by rw [hW0]; exact hB.cell 0 _ rfl
  have b1 : W0.cell? ⟨w.heap.size, 1, none⟩ = some (.int .u32 a.id) := by rw [hW0]; exact hB.cell 1 _ rfl
  have b2 : W0.cell? ⟨w.heap.size, 2, none⟩ = some (.int .u32 a.adv) := by rw [hW0]; exact hB.cell 2 _ rfl
  have hW0' := Lib.hid hW0
  clear hW0 hB
  go_enter Try.func20, Try.ntmps20
  go_upto_region 1 with fail
  rw [← hW0'.out]
  clear hW0'
  go_wp2_with ((with_reducible refine at_store 2 ?_); refine wpList_store_blk rfl 25 (.tmp 2) (.tmp 9) rfl (w.heap.size + 1) #[.int .i64 a.type, .int .u32 a.id, .int .u32 a.adv] rfl rfl (BlkAt.there hR.out 0 3 (Nat.le_refl 3)) keyInfo (by simp; exact ⟨rfl, rfl, rfl⟩) ?_; intro w9 hr9 hs9)
  have c0 := rangeAt_cell hr9.out 0 (.int .i64 a.type) rfl
  have c1 := rangeAt_cell hr9.out 1 (.int .u32 a.id) rfl
  have c2 := rangeAt_cell hr9.out 2 (.int .u32 a.adv) rfl
  refine bodyPost_ret (v := .agg #[.int .i64 a.type, .int .u32 a.id, .int .u32 a.adv]) (by simp [results, Try.results20, go_sem, c0, c1, c2]) rfl ⟨rfl, ?_⟩
  exact hK.out.trans' hs9.out (fun i e => .inr (by rw [e]; omega))
set_option maxRecDepth 100000 in
set_option maxHeartbeats 2000000 in
theorem lLsdbLess_walk (a b : KeyD) (w : World) : Calls Try.prog 5 #[.agg #[.int .i64 a.type, .int .u32 a.id, .int .u32 a.adv], .agg #[.int .i64 b.type, .int .u32 b.id, .int .u32 b.adv]] w (fun e w' => e = .returned (.bool true) ∧ Keeps (fun _ => False) w w') := by
  have hA : Hid (Boxed w.heap.size [.int .i64 a.type, .int .u32 a.id, .int .u32 a.adv] w ((w.alloc (.cells #[.int .i64 a.type, .int .u32 a.id, .int .u32 a.adv] 45)).alloc (.cells #[.int .i64 b.type, .int .u32 b.id, .int .u32 b.adv] 45))) := Lib.hid ((boxed_new w _ _).next ((Keeps.refl _ _).alloc _))
  have hB : Hid (Boxed (w.heap.size + 1) [.int .i64 b.type, .int .u32 b.id, .int .u32 b.adv] (w.alloc (.cells #[.int .i64 a.type, .int .u32 a.id, .int .u32 a.adv] 45)) ((w.alloc (.cells #[.int .i64 a.type, .int .u32 a.id, .int .u32 a.adv] 45)).alloc (.cells #[.int .i64 b.type, .int .u32 b.id, .int .u32 b.adv] 45))) := Lib.hid (by
    have := boxed_new (w.alloc (.cells #[.int .i64 a.type, .int .u32 a.id, .int .u32 a.adv] 45)) [.int .i64 b.type, .int .u32 b.id, .int .u32 b.adv] 45
    simpa using this)
  obtain ⟨wB, hwB⟩ : ∃ wB, wB = (w.alloc (.cells #[.int .i64 a.type, .int .u32 a.id, .int .u32 a.adv] 45)).alloc (.cells #[.int .i64 b.type, .int .u32 b.id, .int .u32 b.adv] 45) := ⟨_, rfl⟩
  have hwB' := Lib.hid hwB
  rw [← hwB] at hA hB
  clear hwB
  obtain ⟨z, hz⟩ : ∃ z, lessB a b = z := ⟨_, rfl⟩
  have hz' := Lib.hid hz
  clear hz
  go_enter Try.func5, Try.ntmps5
  go_upto_region 1 with fail
  rw [← hwB'.out]
  refine wp_region_noPanic ?_
  refine wp_region_held_drew (S := (fun W => Keeps (fun _ => False) wB W)) (by kernel_rfl) (((Keeps.refl (fun _ => False) _).drew)) (fun hHeld => ?_)
  refine stepL 0 rfl (by kernel_rfl) (fun K hK => ?_)
  go_simp
  (refine (lwKeeps_any _).mono ?_; rintro e w1 ⟨rfl, k1⟩)
  go_wp2_with fail
  refine hK.out _ _ ((hHeld.trans k1)) (fun hHeld => ?_)
  clear hK K
  try simp only [Act.put, sA, sZ, sS]
  refine tk 1 rfl ?_
  refine tkL 2 rfl (yieldsIf_load_mid (by rfl) 45 (.tmp 2) rfl w.heap.size 0 rfl [.int .i64 a.type, .int .u32 a.id, .int .u32 a.adv] _ (fun _ s => (hA.out.next s).r) Try.underlying45 rfl r10KeyInfo) ?_
  refine tkL 4 rfl (yieldsIf_load_mid (by rfl) 45 (.tmp 3) rfl (w.heap.size + 1) 0 rfl [.int .i64 b.type, .int .u32 b.id, .int .u32 b.adv] _ (fun _ s => (hB.out.next s).r) Try.underlying45 rfl r10KeyInfo) ?_
  refine tkL 7 rfl (yieldsIf_load_mid (by rfl) 45 (.tmp 2) rfl w.heap.size 0 rfl [.int .i64 a.type, .int .u32 a.id, .int .u32 a.adv] _ (fun _ s => (hA.out.next s).r) Try.underlying45 rfl r10KeyInfo) ?_
  refine tkL 8 rfl (yieldsIf_load_mid (by rfl) 45 (.tmp 3) rfl (w.heap.size + 1) 0 rfl [.int .i64 b.type, .int .u32 b.id, .int .u32 b.adv] _ (fun _ s => (hB.out.next s).r) Try.underlying45 rfl r10KeyInfo) ?_
  refine stepL 3 rfl (by kernel_rfl) (fun K hK => ?_)
  go_simp
  (refine (lwKey_any a _).mono ?_; rintro e w2 ⟨rfl, k2⟩)
  go_wp2_with fail
  refine hK.out _ _ ((hHeld.trans k2)) (fun hHeld => ?_)
  clear hK K
  try simp only [Act.put, sA, sZ, sS]
  refine stepL 5 rfl (by kernel_rfl) (fun K hK => ?_)
  go_simp
  (refine (lwKey_any b _).mono ?_; rintro e w3 ⟨rfl, k3⟩)
  go_wp2_with fail
  refine hK.out _ _ ((hHeld.trans k3)) (fun hHeld => ?_)
  clear hK K
  try simp only [Act.put, sA, sZ, sS]
  refine stepL 6 rfl (by kernel_rfl) (fun K hK => ?_)
  go_simp
  (refine (ldLess_any a b z _ hz').mono ?_; rintro e w4 ⟨rfl, k4⟩)
  go_wp2_with fail
  refine hK.out _ _ ((hHeld.trans k4)) (fun hHeld => ?_)
  clear hK K
  try simp only [Act.put, sA, sZ, sS]
  refine stepL 9 rfl (by kernel_rfl) (fun K hK => ?_)
  go_simp
  (refine (r12Less_any a b z _ hz').mono ?_; rintro e w5 ⟨rfl, k5⟩)
  go_wp2_with fail
  refine hK.out _ _ ((hHeld.trans k5)) (fun hHeld => ?_)
  clear hK K
  try simp only [Act.put, sA, sZ, sS]
  refine tk 10 rfl ?_
  refine tk 11 rfl ?_
  refine tk 12 rfl ?_
  refine wpAnyH_done (by kernel_rfl) (NoPanic.normal ?_) _
  go_wp2_with fail
  go_ret
  exact ⟨rfl, (hwB'.out ▸ (((Keeps.refl (fun _ => False) w).alloc _).alloc _)).trans hHeld⟩
end Go.Proofs.Ytdaongflpllfhaa
/- Rows of the document's Lsas in memory; keys held against each other; has, Drop of the document. -/
set_option linter.unusedVariables false
set_option linter.unusedSimpArgs false
namespace Go.Proofs.Ytdaongflpllfhaa
open Go.RowKit

theorem eq_keyR (x y : K3) (w : World) : (binOp .eql 45 (.agg #[.int .i64 x.1, .int .u32 x.2.1, .int .u32 x.2.2]) (.agg #[.int .i64 y.1, .int .u32 y.2.1, .int .u32 y.2.2])).run Try.prog w = .ok (.bool (decide (x = y))) w := by
  obtain ⟨t1, i1, a1⟩ := x
  obtain ⟨t2, i2, a2⟩ := y
  by_cases h1 : t1 = t2
  · by_cases h2 : i1 = i2
    · by_cases h3 : a1 = a2
      · subst h1; subst h2; subst h3; go_simp
      · have h31 : ¬ (a1 : Int) = (a2 : Int) := by omega
        subst h1; subst h2; go_simp
    · have h21 : ¬ (i1 : Int) = (i2 : Int) := by omega
      subst h1; go_simp
  · go_simp
theorem ne_keyR (x y : K3) (w : World) : (binOp .neq 45 (.agg #[.int .i64 x.1, .int .u32 x.2.1, .int .u32 x.2.2]) (.agg #[.int .i64 y.1, .int .u32 y.2.1, .int .u32 y.2.2])).run Try.prog w = .ok (.bool (decide (x ≠ y))) w := by
  obtain ⟨t1, i1, a1⟩ := x
  obtain ⟨t2, i2, a2⟩ := y
  by_cases h1 : t1 = t2
  · by_cases h2 : i1 = i2
    · by_cases h3 : a1 = a2
      · subst h1; subst h2; subst h3; go_simp
      · have h31 : ¬ (a1 : Int) = (a2 : Int) := by omega
        subst h1; subst h2; go_simp
    · have h21 : ¬ (i1 : Int) = (i2 : Int) := by omega
      subst h1; go_simp
  · go_simp
theorem yieldsIf_eqK {ops : Array Oper} {S : World → Prop} {op : Oper} {a : Act} (hw : Region.wanted op (yielded ops a.tmps) = true) (x y : Operand) (t2 : TypeId) (ho : op.op = .binOp .eql 45 x y t2) (k1 k2 : K3) (z : Bool)
    (hx : a.eval x = .agg #[.int .i64 k1.1, .int .u32 k1.2.1, .int .u32 k1.2.2]) (hy : a.eval y = .agg #[.int .i64 k2.1, .int .u32 k2.2.1, .int .u32 k2.2.2]) (hz : decide (k1 = k2) = z) : YieldsIf Try.prog ops S op (.bool z) a :=
  .inl ⟨hw, fun w hw' => by
    unfold execOp
    simp only [ho, hx, hy, Sem.run_bind, guardKeyR, eq_keyR, hz, Result.andThen_ok]
    rfl⟩
theorem yieldsIf_neK {ops : Array Oper} {S : World → Prop} {op : Oper} {a : Act} (hw : Region.wanted op (yielded ops a.tmps) = true) (x y : Operand) (t2 : TypeId) (ho : op.op = .binOp .neq 45 x y t2) (k1 k2 : K3) (z : Bool)
    (hx : a.eval x = .agg #[.int .i64 k1.1, .int .u32 k1.2.1, .int .u32 k1.2.2]) (hy : a.eval y = .agg #[.int .i64 k2.1, .int .u32 k2.2.1, .int .u32 k2.2.2]) (hz : decide (k1 ≠ k2) = z) : YieldsIf Try.prog ops S op (.bool z) a :=
  .inl ⟨hw, fun w hw' => by
    unfold execOp
    simp only [ho, hx, hy, Sem.run_bind, guardKeyR, ne_keyR, hz, Result.andThen_ok]
    rfl⟩
end Go.Proofs.Ytdaongflpllfhaa
/- The document's has and Drop of a row of Lsas (gen_lma.py writes this). -/
set_option linter.unusedVariables false
set_option linter.unusedSimpArgs false
namespace Go.Proofs.Ytdaongflpllfhaa
open Go.RowKit

theorem lsaInfoAllR : (Try.prog.info? 48).map (fun i => (i.zero, i.size, i.bytes)) = some (some (.agg #[.int .i64 0, .int .i64 0, .int .u32 0, .int .u32 0, .int .i64 0, .slice none 0 0, .int .u32 0, .slice none 0 0, .int .i64 0]), 9, 96) := by kernel_rfl
theorem keyInfoAllR : (Try.prog.info? 45).map (fun i => (i.zero, i.size, i.bytes)) = some (some (.agg #[.int .i64 0, .int .u32 0, .int .u32 0]), 3, 16) := by kernel_rfl
theorem lsaRow_oneU (m : LsaM) : ∀ u ∈ lsaRow m, u.oneCell' = true := by
  have h := lsaRow_oneK m
  rw [Array.all_eq_true_iff_forall_mem] at h
  intro u hu
  exact h u (by simpa using hu)
theorem cells_newL {w : World} {n : Nat} (hn : n = w.heap.size) (age type seq cost : Int) (id adv mask : Nat) (links : List LinkD) (routers : List Nat) (p5 p7 : Option Addr) (c5 c7 : Nat) : ∀ j u, (lsaRow ⟨⟨age, type, id, adv, seq, links, mask, routers, cost⟩, p5, c5, p7, c7⟩)[j]? = some u → (w.alloc (.cells #[.int .i64 age, .int .i64 type, .int .u32 id, .int .u32 adv, .int .i64 seq, .slice p5 links.length c5, .int .u32 mask, .slice p7 routers.length c7, .int .i64 cost] 48)).cell? ((⟨n, 0, none⟩ : Addr).add j) = some u := cells_new hn (lsaRow ⟨⟨age, type, id, adv, seq, links, mask, routers, cost⟩, p5, c5, p7, c7⟩) 48
theorem row_key {w : World} {g o : Nat} {x : LsaM} (h : w.rangeAt g o (lsaRow x)) : w.rangeAt g (o + 1) [.int .i64 x.d.type, .int .u32 x.d.id, .int .u32 x.d.adv] := fun n u hu => by
  have hn : n < 3 := (List.getElem?_eq_some_iff.1 hu).1
  have := h (1 + n) u (by rcases n with _ | _ | _ | n; exact hu; exact hu; exact hu; omega)
  rw [← Nat.add_assoc] at this; exact this
theorem any_take {ms : List LsaM} {i : Nat} {x : LsaM} {k : K3} (hx : ms[i]? = some x) (hk : kM x = k) : ms.any (fun m => decide (kM m = k)) = true := by
  rw [List.any_eq_true]
  exact ⟨x, List.mem_of_getElem? hx, by simpa using hk⟩
theorem any_none {ms : List LsaM} {k : K3} (h : ∀ z ∈ ms, kM z ≠ k) : ms.any (fun m => decide (kM m = k)) = false := by
  rw [List.any_eq_false]
  intro x hx
  simpa using h x hx
set_option maxRecDepth 100000 in
set_option maxHeartbeats 4000000 in
theorem r12has_any (v : Value) (ms : List LsaM) (hl : ms.length ≤ 1000) (t : Int) (i0 a0 : Nat) (w : World) (hv : Hid (RowsAt 9 lsaRow w v ms)) :
    Calls Try.prog 36 #[v, .agg #[.int .i64 t, .int .u32 i0, .int .u32 a0]] w fun e w' => e = .returned (.bool (ms.any fun m => decide (kM m = (t, i0, a0)))) ∧ Keeps (fun _ => False) w w' := by
  obtain ⟨p, c, e0, hp0, hc0, hr0⟩ := hv.out
  subst e0
  clear hp0 hc0 hr0
  obtain ⟨W0, hW0⟩ : ∃ W0, W0 = w.alloc (.cells #[.int .i64 t, .int .u32 i0, .int .u32 a0] 45) := ⟨_, rfl⟩
  have hB : Hid (BlkAt W0 w.heap.size 45 [.int .i64 t, .int .u32 i0, .int .u32 a0]) := Lib.hid (by rw [hW0]; exact BlkAt.new w 45 [.int .i64 t, .int .u32 i0, .int .u32 a0])
  have hK0 : Hid (Keeps (fun _ => False) w W0) := Lib.hid (by rw [hW0]; exact (Keeps.refl _ _).alloc _)
  have hW0' := Lib.hid hW0
  clear hW0
  go_enter Try.func36, Try.ntmps36
  go_upto_region 1 with fail
  rw [← hW0'.out]
  clear hW0'
  go_wp2_with fail
  go_loopw [5] (fun iv wr => ∃ (i : Nat), i ≤ ms.length ∧ iv = .int .i64 i ∧ Hid (∀ z ∈ ms.take i, kM z ≠ (t, i0, a0)) ∧ Hid (Keeps (fun _ => False) W0 wr)) (fun iv _ => ms.length - (intOf iv).toNat)
  case atStart => exact ⟨0, by omega, rfl, Lib.hid (by simp), Lib.hid (Keeps.refl _ _)⟩
  case round =>
    obtain ⟨i, hi, rfl, hS, hK⟩ := hrel
    by_cases hil : i < ms.length
    · obtain ⟨x, hx⟩ : ∃ x, ms[i]? = some x := ⟨_, List.getElem?_eq_getElem hil⟩
      obtain ⟨g, o, rfl, hr⟩ := RowsAt.open hv.out (by omega)
      have hxr : Hid (wr.rangeAt g (o + i * 9 + 1) [.int .i64 x.d.type, .int .u32 x.d.id, .int .u32 x.d.adv]) := Lib.hid (row_key ((hK0.out.trans hK.out).rangeAt (hr i x hx) (fun f => f)))
      have m1 : (0 : Int) ≤ (i : Int) := by omega
      have m2 : (i : Int) < (ms.length : Int) := by omega
      obtain ⟨z, hz⟩ : ∃ z, decide (kM x = (t, i0, a0)) = z := ⟨_, rfl⟩
      have hz' := Lib.hid hz
      have hx' := Lib.hid hx
      clear hr hx hz
      go_upto_region 4 with fail
      refine wp_region_noPanic ?_
      refine wp_region_held_drew (S := (fun W => Keeps (fun _ => False) wr W)) (by kernel_rfl) (((Keeps.refl (fun _ => False) _).drew)) (fun hHeld => ?_)
      refine tk 0 rfl ?_
      refine tk 1 rfl ?_
      refine tk 2 rfl ?_
      refine tk 3 rfl ?_
      refine tkL 4 rfl (yieldsIf_load_mid (by rfl) 45 (.tmp 15) rfl g (o + i * 9 + 1) rfl _ _ (fun _ s => s.rangeAt hxr.out (fun f => f)) Try.underlying45 rfl r10KeyInfo) ?_
      refine tkL 5 rfl (yieldsIf_load_mid (by rfl) 45 (.tmp 3) rfl w.heap.size 0 rfl [.int .i64 t, .int .u32 i0, .int .u32 a0] _ (fun _ s => (hB.out.keep (hK.out.trans s) (fun f => f)).range) Try.underlying45 rfl r10KeyInfo) ?_
      refine tkL 6 rfl (yieldsIf_eqK (by rfl) (.tmp 16) (.tmp 17) _ rfl (kM x) (t, i0, a0) z rfl rfl hz'.out) ?_
      refine wpAnyH_done (by kernel_rfl) (NoPanic.normal ?_) _
      have hK4 := Lib.hid (hK.out.trans hHeld)
      clear hHeld
      cases z with
      | true =>
        go_wp2_with fail
        go_ret
        exact ⟨by rw [any_take hx'.out (by simpa using hz'.out)]; rfl, hK0.out.trans hK4.out⟩
      | false =>
        go_wp2_with fail
        exact ⟨⟨i + 1, by omega, by go_num, Lib.hid (by
          rw [take_snoc hx'.out]
          intro y hy
          rcases List.mem_append.1 hy with hy | hy
          · exact hS.out y hy
          · rw [List.mem_singleton] at hy; subst hy; simpa using hz'.out), hK4⟩, by simp [intOf]; omega⟩
    · obtain rfl : i = ms.length := by omega
      go_wp2_with fail
      go_ret
      rw [List.take_length] at hS
      exact ⟨by rw [any_none hS.out]; rfl, hK0.out.trans hK.out⟩
def dropM (k : K3) (ms : List LsaM) : List LsaM := ms.filter (fun m => decide (kM m ≠ k))
theorem dropM_map (k : K3) (ms : List LsaM) : (dropM k ms).map (·.d) = dropR k (ms.map (·.d)) := by
  unfold dropM dropR
  rw [List.filter_map]; rfl
theorem dropM_snoc {k : K3} {ms : List LsaM} {i : Nat} {x : LsaM} (hx : ms[i]? = some x) : dropM k (ms.take (i + 1)) = if kM x = k then dropM k (ms.take i) else dropM k (ms.take i) ++ [x] := by
  unfold dropM
  rw [take_snoc hx, List.filter_append]
  by_cases h : kM x = k
  · rw [if_pos h, List.filter_cons_of_neg (by simpa using h)]; simp
  · rw [if_neg h, List.filter_cons_of_pos (by simpa using h)]; rfl
theorem dropM_len (k : K3) (i : Nat) (ms : List LsaM) : (dropM k (ms.take i)).length ≤ i := by
  unfold dropM
  exact Nat.le_trans (List.length_filter_le _ _) (by rw [List.length_take]; omega)
set_option maxRecDepth 100000 in
set_option maxHeartbeats 4000000 in
theorem r12Drop_any (v : Value) (ms : List LsaM) (hl : ms.length ≤ 1000) (t : Int) (i0 a0 : Nat) (w : World) (hv : Hid (RowsAt 9 lsaRow w v ms)) :
    Calls Try.prog 19 #[v, .agg #[.int .i64 t, .int .u32 i0, .int .u32 a0]] w fun e w' => (∃ u, e = .returned (.tuple #[u, .bool (decide ((dropM (t, i0, a0) ms).length < ms.length))]) ∧ OwnR 48 9 lsaRow w w' u (dropM (t, i0, a0) ms)) ∧ Keeps (fun _ => False) w w' := by
  obtain ⟨p, c, e0, hp0, hc0, hr0⟩ := hv.out
  subst e0
  clear hp0 hc0 hr0
  obtain ⟨ik, hik, hkz, hksz, hkby⟩ := info_parts lsaInfoAllR
  obtain ⟨W0, hW0⟩ : ∃ W0, W0 = w.alloc (.cells #[.int .i64 t, .int .u32 i0, .int .u32 a0] 45) := ⟨_, rfl⟩
  have hB : Hid (BlkAt W0 w.heap.size 45 [.int .i64 t, .int .u32 i0, .int .u32 a0]) := Lib.hid (by rw [hW0]; exact BlkAt.new w 45 [.int .i64 t, .int .u32 i0, .int .u32 a0])
  have hK0 : Hid (Keeps (fun _ => False) w W0) := Lib.hid (by rw [hW0]; exact (Keeps.refl _ _).alloc _)
  have hW0' := Lib.hid hW0
  clear hW0
  go_enter Try.func19, Try.ntmps19
  go_upto_region 1 with fail
  rw [← hW0'.out]
  clear hW0'
  go_wp2_with fail
  go_loopw [7, 6] (fun iv ov wr => ∃ (i : Nat) (q : Option Addr) (d : Nat), i ≤ ms.length ∧ iv = .int .i64 i ∧ ov = .slice q (dropM (t, i0, a0) (ms.take i)).length d ∧ Hid (OwnR 48 9 lsaRow W0 wr (.slice q (dropM (t, i0, a0) (ms.take i)).length d) (dropM (t, i0, a0) (ms.take i))) ∧ Hid (Keeps (fun _ => False) W0 wr)) (fun iv _ _ => ms.length - (intOf iv).toNat)
  case atStart => exact ⟨0, none, 0, by omega, rfl, rfl, Lib.hid (OwnR.nil _ _ (Nat.le_refl _)), Lib.hid (Keeps.refl _ _)⟩
  case round =>
    obtain ⟨i, q, d, hi, rfl, rfl, hO, hK⟩ := hrel
    by_cases hil : i < ms.length
    · obtain ⟨x, hx⟩ : ∃ x, ms[i]? = some x := ⟨_, List.getElem?_eq_getElem hil⟩
      obtain ⟨g, o, rfl, hr⟩ := RowsAt.open hv.out (by omega)
      have hxr0 : Hid (wr.rangeAt g (o + i * 9) (lsaRow x)) := Lib.hid ((hK0.out.trans hK.out).rangeAt (hr i x hx) (fun f => f))
      have hxr : Hid (wr.rangeAt g (o + i * 9 + 1) [.int .i64 x.d.type, .int .u32 x.d.id, .int .u32 x.d.adv]) := Lib.hid (row_key hxr0.out)
      have m1 : (0 : Int) ≤ (i : Int) := by omega
      have m2 : (i : Int) < (ms.length : Int) := by omega
      obtain ⟨z, hz⟩ : ∃ z, decide (kM x ≠ (t, i0, a0)) = z := ⟨_, rfl⟩
      have hz' := Lib.hid hz
      have hsn := dropM_snoc (k := (t, i0, a0)) hx
      clear hr hx hz
      go_upto_region 5 with fail
      refine wp_region_noPanic ?_
      refine wp_region_held_drew (S := (fun W => Keeps (fun _ => False) wr W)) (by kernel_rfl) (((Keeps.refl (fun _ => False) _).drew)) (fun hHeld => ?_)
      refine tk 0 rfl ?_
      refine tk 1 rfl ?_
      refine tk 2 rfl ?_
      refine tk 3 rfl ?_
      refine tkL 4 rfl (yieldsIf_load_mid (by rfl) 45 (.tmp 17) rfl g (o + i * 9 + 1) rfl _ _ (fun _ s => s.rangeAt hxr.out (fun f => f)) Try.underlying45 rfl r10KeyInfo) ?_
      refine tkL 5 rfl (yieldsIf_load_mid (by rfl) 45 (.tmp 3) rfl w.heap.size 0 rfl [.int .i64 t, .int .u32 i0, .int .u32 a0] _ (fun _ s => (hB.out.keep (hK.out.trans s) (fun f => f)).range) Try.underlying45 rfl r10KeyInfo) ?_
      refine tkL 6 rfl (yieldsIf_neK (by rfl) (.tmp 18) (.tmp 19) _ rfl (kM x) (t, i0, a0) z rfl rfl hz'.out) ?_
      refine wpAnyH_done (by kernel_rfl) (NoPanic.normal ?_) _
      have hK4 := Lib.hid (hK.out.trans hHeld)
      have hO4 := Lib.hid (hO.out.keep hHeld (fun _ _ f => f))
      have hx4 := Lib.hid (hHeld.rangeAt hxr0.out (fun f => f))
      generalize wr.drew = wq at hK4 hO4 hx4 ⊢
      clear hHeld hO hxr hxr0 hK
      have hdl := dropM_len (t, i0, a0) i ms
      cases z with
      | false =>
        rw [if_pos (by simpa using hz'.out)] at hsn
        have hsn' := Lib.hid hsn
        clear hsn
        go_wp2_with fail
        exact ⟨⟨i + 1, q, d, by omega, by go_num, by rw [hsn'.out], by rw [hsn'.out]; exact hO4, hK4⟩, by simp [intOf]; omega⟩
      | true =>
        rw [if_neg (by simpa using hz'.out)] at hsn
        have hsn' := Lib.hid hsn
        clear hsn
        obtain ⟨⟨age, type, id, adv, seq, links, mask, routers, cost⟩, p5, c5, p7, c7⟩ := x
        have kd := (Keeps.refl (fun _ => False) wq).alloc (.cells #[.int .i64 age, .int .i64 type, .int .u32 id, .int .u32 adv, .int .i64 seq, .slice p5 links.length c5, .int .u32 mask, .slice p7 routers.length c7, .int .i64 cost] 48)
        have hAd := Lib.hid (hO4.out.keep kd (fun _ _ f => f))
        have hKd := Lib.hid (hK4.out.trans kd)
        have hcn := Lib.hid (cells_newL (w := wq) rfl age type seq cost id adv mask links routers p5 p7 c5 c7)
        clear kd hO4 hz'
        go_wp2_with (first | ((with_reducible refine at_slot 25 ?_); refine wpList_load_mid rfl 48 (.tmp 24) rfl g (o + i * 9) rfl [.int .i64 age, .int .i64 type, .int .u32 id, .int .u32 adv, .int .i64 seq, .slice p5 links.length c5, .int .u32 mask, .slice p7 routers.length c7, .int .i64 cost] _ hx4.out Try.underlying48 rfl lsaInfoR ?_) | ((with_reducible refine at_slot 27 ?_); refine wpList_append_r rfl (.tmp 21) (.tmp 26) 44 48 rfl ik _ 96 Try.underlying44 hik hkz hksz hkby rfl (by decide) (by decide) lsaRow_len W0 _ (dropM (t, i0, a0) (ms.take i)).length (dropM (t, i0, a0) (ms.take i)) rfl rfl hAd.out _ rfl ⟨⟨age, type, id, adv, seq, links, mask, routers, cost⟩, p5, c5, p7, c7⟩ hcn.out (lsaRow_oneU _) (by omega) ?_; intro q8 d8 w8 hO8 hg8))
        have hK8 := Lib.hid (hKd.out.trans' hg8.out.k (fun i e => .inr (hAd.out.2.1 i e)))
        have hl2 : (dropM (t, i0, a0) (ms.take i)).length + 1 = (dropM (t, i0, a0) (ms.take (i + 1))).length := by rw [hsn'.out, List.length_append]; rfl
        exact ⟨⟨i + 1, q8, d8, by omega, by go_num, by rw [← hl2], by rw [← hl2, hsn'.out]; exact hO8, hK8⟩, by simp [intOf]; omega⟩
    · obtain rfl : i = ms.length := by omega
      rw [List.take_length] at *
      obtain ⟨n, hn⟩ : ∃ n, (dropM (t, i0, a0) ms).length = n := ⟨_, rfl⟩
      rw [hn] at hO ⊢
      have hn' := Lib.hid hn
      clear hn
      go_wp2_with fail
      go_ret2
      exact ⟨⟨_, by rw [hn'.out]; rfl, hO.out.older hK0.out.size⟩, hK0.out.trans hK.out⟩
end Go.Proofs.Ytdaongflpllfhaa
