/- JournalActs: walked. -/
import Derived.Test.YtcmpbablmofofaaKQ
import Derived.Deep.CutBlock
set_option linter.unusedVariables false
set_option linter.unusedSimpArgs false
namespace Go.Proofs.Ytcmpbablmofofaa
open Go.RowKit
section
variable [Inhabited BaseN]
set_option maxRecDepth 100000 in
set_option maxHeartbeats 16000000 in
theorem acts_walk (size : Int) (rv : Value) (row : List JAct) (w : World) (hb1 : base0 = w.heap.size) (hr : Hid (JActsAt w rv row)) :
    Calls Try.prog 5 #[.int .i64 size, rv] w fun e w' => e = .returned (.bool true) ∧ Keeps (fun _ => False) w w' := by
  have hb0 := Lib.hid hb1
  clear hb1
  obtain ⟨s0, hs0, hs1, hs2, hs3⟩ := strInfoK
  go_enter Try.func5, Try.ntmps5
  go_wp2_with (first | (go_at_call 29; refine (none2_any _).mono ?_; rintro e w' ⟨rfl, rfl⟩) | (go_at_call 26; refine (begin_nil _).mono ?_; rintro e w' ⟨rfl, rfl⟩) | (go_at_call 27; refine (open_nil _).mono ?_; rintro e w' ⟨rfl, rfl⟩))
  refine (stays_no _).mono ?_
  rintro e w1 ⟨rfl, hk1⟩
  go_wp2_with (first | (go_at_call 29; refine (none2_any _).mono ?_; rintro e w' ⟨rfl, rfl⟩) | (go_at_call 30; refine (append_nil _ _).mono ?_; rintro e w' ⟨rfl, rfl⟩))
  refine (compact_nil _ _).mono ?_
  rintro e w2 ⟨rfl, hk2⟩
  have hkh := Lib.hid (hk1.trans (((Keeps.refl _ _).alloc _).trans hk2))
  clear hk1 hk2
  go_wp2_with (first | (go_at_call 29; refine (none2_any _).mono ?_; rintro e w' ⟨rfl, rfl⟩) | (go_at_call 32; refine (all_nil _).mono ?_; rintro e w' ⟨rfl, rfl⟩) | (go_at_call 33; refine (free_nil _).mono ?_; rintro e w' ⟨rfl, rfl⟩))
  have hnn : ∃ N : Nat, wrap64 (1 + wrap64 ((IntKind.u64.wrap size).tmod 80)) = (N : Int) ∧ 1 ≤ N ∧ N ≤ 80 := by
    have h1 := umod size 80 (by decide) (by decide)
    obtain ⟨m, hm⟩ : ∃ m, ((size % 18446744073709551616) % 80).toNat = m := ⟨_, rfl⟩
    rw [hm] at h1
    refine ⟨1 + m, ?_, by omega, by omega⟩
    rw [h1.1]; unfold wrap64; omega
  obtain ⟨N, hN, hN1, hN2⟩ := hnn
  rw [hN]
  clear hN
  refine (new_js N w2 hN1 (by omega) (by rw [hb0.out]; exact hkh.out.size)).mono ?_
  rintro e w3 ⟨b, bs, rfl, hD3, hk3⟩
  have hD3' := Lib.hid hD3
  have hk3' := Lib.hid (hkh.out.trans hk3)
  clear hD3 hk3 hkh
  by_cases h4 : N < 4
  · have l4 : (N : Int) < 4 := by omega
    as_aux_lemma =>
      have ho := Lib.hid (open_small w3 b bs N h4 hD3')
      go_wp2_with fail
      refine ho.out.mono ?_
      rintro e w4 ⟨rfl, hD4, hk4⟩
      have hk4' := Lib.hid (keepNo2 hk3'.out hk4 (by rw [hb0.out]; exact Nat.le_refl _))
      have hg := Lib.hid (begin_small w4 b bs N h4 (Lib.hid hD4))
      clear ho hD4 hk4 hD3' hk3' h4
      go_wp2_with fail
      refine hg.out.mono ?_
      rintro e w5 ⟨rfl, hk5⟩
      have hk5' := Lib.hid (keepNo2 hk4'.out hk5 (by rw [hb0.out]; exact Nat.le_refl _))
      clear hg hk5 hk4'
      go_wp2_with fail
      go_ret
      exact ⟨rfl, hk5'.out⟩
  · have l4 : ¬ ((N : Int) < 4) := by omega
    have hN4 : 4 ≤ N := by omega
    have ho := Lib.hid (open_new w3 b bs N hN4 hD3')
    go_wp2_with fail
    refine ho.out.mono ?_
    rintro e w4 ⟨rfl, hD4, hk4⟩
    have hk4' := Lib.hid (keepNo2 hk3'.out hk4 (by rw [hb0.out]; exact Nat.le_refl _))
    have hg := Lib.hid (begin_js w4 b bs N hN4 (by rw [hb0.out]; exact hk4'.out.size) (Lib.hid hD4))
    clear ho hD4 hk4 hD3' hk3' h4
    go_wp2_with fail
    refine hg.out.mono ?_
    rintro e w5 ⟨hk5, jb, ev, D, rfl, hjb, hDb, hDl, hJ5⟩
    have hk5' := Lib.hid (keepNo2 hk4'.out hk5 (by rw [hb0.out]; exact Nat.le_refl _))
    have hJ : Hid (AJ w5 jb b N 1 []) := Lib.hid ⟨w4, 1, 0, ev, D, hJ5, Nat.le_refl _, hDb⟩
    clear hg hk5 hk4' hJ5 hjb hDb hDl ev D
    obtain ⟨H, hH⟩ : ∃ H, hz N = H := ⟨_, rfl⟩
    have hHi : ((N : Int) - 2) / 2 = (H : Int) := by rw [← hH]; unfold hz; omega
    have hHl : H ≤ 39 := by rw [← hH]; unfold hz; omega
    have hH' := Lib.hid hH
    go_upto_region 17 with fail
    rw [hHi]
    clear hHi hH
    obtain ⟨pr, cr, rfl, hrl, hro, hrp⟩ := hr.out
    have hro' := Lib.hid hro
    have hrp' := Lib.hid hrp
    clear hr hro hrp
    obtain ⟨rl, hrle⟩ : ∃ n, row.length = n := ⟨_, rfl⟩
    rw [hrle]
    rw [hrle] at hrl
    have hrle' := Lib.hid hrle
    clear hrle
    go_wp2_with fail
    go_loopw [14, 16, 18] (fun jv lv kv wr => ∃ (k jb : Nat) (pl : Option Addr) (cl : Nat) (L : List (List UInt8)) (wl : World), k ≤ rl ∧ k ≤ 40 ∧ jv = .pointer (some ⟨jb, 0, none⟩) ∧ lv = .slice pl L.length cl ∧ kv = .int .i64 k ∧ Hid (AJ wr jb b N (k + 1) L) ∧ Hid (OwnR 9 1 sv1 wl wr lv L) ∧ Hid (Keeps (fun _ => False) w wr)) (fun _ _ kv _ => 40 - (intOf kv).toNat)
    case atStart => exact ⟨0, jb, none, 0, [], w5, by omega, by omega, rfl, rfl, rfl, hJ, Lib.hid (OwnR.nil _ _ (Nat.le_refl _)), hk5'⟩
    case round =>
      clear hJ hk5'
      obtain ⟨k, j2, pl, cl, L, wl, hkr, hk40, rfl, rfl, rfl, hJ, hO, hK⟩ := hrel
      by_cases hlt : k < rl ∧ k < 40
      · obtain ⟨hl1, hl2⟩ := hlt
        have l1 : (k : Int) < (rl : Int) := by omega
        have l2 : (k : Int) < 40 := by omega
        have l0 : (0 : Int) ≤ (k : Int) := by omega
        obtain ⟨g, o, rfl, hra⟩ := hrp'.out (by rw [hrle'.out]; omega)
        have hkl : k < row.length := by rw [hrle'.out]; exact hl1
        have hca := hra k hkl
        have hoka := hro'.out row[k] (List.getElem_mem hkl)
        clear hra
        obtain ⟨a, ha⟩ : ∃ a, row[k] = a := ⟨_, rfl⟩
        rw [ha] at hca hoka
        clear ha hkl hl1
        obtain ⟨what, asz, B, mask, kept, kv⟩ := a
        have hca' := Lib.hid (hK.out.rangeAt hca id)
        obtain ⟨hw, hs, hm, hkp, hkb⟩ := hoka
        have hkp : BoolsAt w kv kept := hkp
        obtain ⟨pk, ck, rfl, -, -⟩ := id hkp
        have hkp' := Lib.hid hkp
        have hkb' : Hid (0 < kept.length → ∀ k, (Value.slice pk kept.length ck).ownBlock = some k → k < w.heap.size) := Lib.hid hkb
        have hs' : Hid (i64 asz) := Lib.hid hs
        have hm' : Hid (i64 mask) := Lib.hid hm
        have hmw := umod what 8 (by decide) (by decide)
        obtain ⟨m, hme⟩ : ∃ m, ((what % 18446744073709551616) % 8).toNat = m := ⟨_, rfl⟩
        rw [hme] at hmw
        have hmw1 := hmw.1
        have hm8 : m < 8 := by have := hmw.2; omega
        clear hca hw hs hm hkp hkb hme hmw
        obtain ⟨kl, hkle⟩ : ∃ n, kept.length = n := ⟨_, rfl⟩
        rw [hkle] at hca' hkp' hkb'
        have hkle' := Lib.hid hkle
        clear hkle
        go_upto_block 1 with fail
        go_upto_region 20 with fail
        have hJr := hJ.out.right
        have hUL : usedOf L ≤ 39 := by have := hJr.2; rw [hH'.out] at this; omega
        have hLL : L.length ≤ 39 := Nat.le_trans (usedOf_ge L) hUL
        have hL8 : Hid (∀ l ∈ L, l.length ≤ 8192) := Lib.hid (fun l hl => (of_decide_eq_true (List.all_eq_true.1 hJr.1 l hl)).2)
        have hUL' := Lib.hid hUL
        have hLL' := Lib.hid hLL
        clear hJr hUL
        go_upto_block 2 with (first | ((with_reducible refine at_slot 127 ?_); refine wpList_load_mid rfl 66 (.tmp 126) rfl g (o + k * 5) rfl _ _ hca'.out Try.underlying66 rfl jactInfo ?_) | ((with_reducible refine at_store 19 ?_); refine wpList_store_new_named rfl 66 (.tmp 19) (.tmp 127) rfl _ #[.int .i64 what, .int .i64 asz, .int .u8 B.toNat, .int .i64 mask, .slice pk kl ck] rfl rfl jactInfo rfl (jact_one _ _ _ _ _ _ _) ?_; intro W1 hW1; have hk1 : Hid (Keeps (fun _ => False) wr W1) := Lib.hid (by rw [hW1.out]; exact (Keeps.refl _ _).alloc _); have hA1 : Hid (AOwn W1 wr.heap.size ⟨what, asz, B, mask, kept, .slice pk kl ck⟩) := Lib.hid ⟨by rw [hW1.out]; exact heap_alloc_last wr _⟩; have hO1 := Lib.hid ((hO.out.keep hk1.out (fun _ _ f => f)).keep ((Keeps.refl (fun _ => False) W1).alloc (.cells #[] 9)) (fun _ _ f => f)); have hE1 := Lib.hid (strs_empty W1 W1 (Nat.le_refl _))) | ((with_reducible refine at_slot 130 ?_); refine wpList_append_rows rfl (.tmp 128) (.tmp 129) 47 9 rfl s0 _ 16 Try.underlying47 hs0 hs1 hs2 hs3 rfl (by decide) (by decide) sv1_len sv1_one W1 _ [] rfl hE1.out _ rfl L (hO1.out.at sv1_len) (by rw [List.length_nil]; omega) ?_; intro q8 d8 w8 hO8 hg8; rw [show ([] : List (List UInt8)).length + L.length = L.length by simp] at hO8 hg8 ⊢; rw [List.nil_append] at hO8; have hk8 := Lib.hid (OwnR.keeps (w0 := W1) hE1.out ((Keeps.refl _ _).alloc _) hg8.out); have hm0 : w8.cell? ⟨wr.heap.size, 0, none⟩ = some (.int .i64 what) := (hA1.out.keep hk8.out).c0))
        rw [hmw1]
        have hJn := Lib.hid (hJ.out.keep hk1.out)
        have hOn := Lib.hid (hO.out.keep hk1.out (fun _ _ f => f))
        have hkn := Lib.hid (hK.out.trans hk1.out)
        obtain ⟨ab, hab⟩ : ∃ x, wr.heap.size = x := ⟨_, rfl⟩
        rw [hab] at hA1 ⊢
        obtain ⟨wn, hwn⟩ : ∃ x, W1 = x := ⟨_, rfl⟩
        rw [hwn] at hO8 hk8 hJn hOn hkn hA1
        have hA8 := Lib.hid (hA1.out.keep hk8.out)
        clear hmw1 hm0 hab hwn hk1 hO1 hE1 hg8 hJ hO hK hca'
        go_cut [14, 20, 21] (fun jv nv ev wx => ∃ (j3 : Nat) (pn : Option Addr) (cn : Nat) (next : List (List UInt8)) (err : Int) (wn : World), jv = .pointer (some ⟨j3, 0, none⟩) ∧ nv = .slice pn next.length cn ∧ ev = .int .i64 err ∧ Hid (SwP wx j3 b N (k + 2) L next err) ∧ Hid (OwnR 9 1 sv1 wn wx (.slice pn next.length cn) next) ∧ Hid (∀ l ∈ next, l.length ≤ 10000) ∧ Hid (next.length ≤ 100) ∧ Hid (OwnR 9 1 sv1 wl wx (.slice pl L.length cl) L) ∧ Hid (AOwn wx ab ⟨what, asz, B, mask, kept, .slice pk kl ck⟩) ∧ Hid (Keeps (fun _ => False) w wx))
        case first =>
          go_upto_if 136 with fail
          go_cut [136] (fun tv wx => tv = .bool (decide (m < 4)) ∧ w8 = wx)
          case first =>
            as_aux_lemma =>
              by_cases e0 : m = 0
              · have f0 : ((m : Int) == 0) = true := by rw [e0]; rfl
                have fd : decide (m < 4) = true := decide_eq_true (by omega)
                clear e0
                go_wp2_with fail
                go_meet
                case rel => exact ⟨by rw [fd], rfl⟩
              · have f0 : ((m : Int) == 0) = false := by rw [beq_eq_false_iff_ne]; omega
                by_cases e1 : m = 1
                · have f1 : ((m : Int) == 1) = true := by rw [e1]; rfl
                  have fd : decide (m < 4) = true := decide_eq_true (by omega)
                  clear e0 e1
                  go_wp2_with fail
                  go_meet
                  case rel => exact ⟨by rw [fd], rfl⟩
                · have f1 : ((m : Int) == 1) = false := by rw [beq_eq_false_iff_ne]; omega
                  by_cases e2 : m = 2
                  · have f2 : ((m : Int) == 2) = true := by rw [e2]; rfl
                    have fd : decide (m < 4) = true := decide_eq_true (by omega)
                    clear e0 e1 e2
                    go_wp2_with fail
                    go_meet
                    case rel => exact ⟨by rw [fd], rfl⟩
                  · have f2 : ((m : Int) == 2) = false := by rw [beq_eq_false_iff_ne]; omega
                    have fd : ((m : Int) == 3) = decide (m < 4) := by
                      rw [Bool.eq_iff_iff, beq_iff_eq, decide_eq_true_iff]; omega
                    clear e0 e1 e2
                    go_wp2_with fail
                    go_meet
                    case rel => exact ⟨by first | rfl | rw [fd], rfl⟩
          case rest =>
            obtain ⟨rfl, rfl⟩ := hcut
            by_cases hm4 : m < 4
            · rw [decide_eq_true hm4]
              clear hm4
              as_aux_lemma =>
                have hAr := Lib.hid hA8.out.range
                have hsz2 := Lib.hid hs'.out
                have hen := Lib.hid (fun W => entry_any ⟨what, asz, B, mask, kept, .slice pk kl ck⟩ W hsz2.out)
                obtain ⟨X, hX⟩ : ∃ X : ByteArray, (⟨(entB asz B).toArray⟩ : ByteArray) = X := ⟨_, rfl⟩
                have hen2 : Hid (∀ W, Calls Try.prog 34 #[.agg #[.int .i64 what, .int .i64 asz, .int .u8 B.toNat, .int .i64 mask, .slice pk kl ck]] W fun e w' => e = .returned (.string X) ∧ Keeps (fun _ => False) W w') := Lib.hid (fun W => by rw [← hX]; exact hen.out W)
                have hsv : Hid (sv1 (entB asz B) = [.string X]) := Lib.hid (by unfold sv1; rw [hX])
                have hX' := Lib.hid hX
                have hel : (entB asz B).length ≤ 8193 := by rw [entB_len]; exact entN_le asz
                clear hX hen
                go_wp2_with ((with_reducible refine at_slot 142 ?_); refine wpList_load_mid rfl 66 (.tmp 19) rfl ab 0 rfl _ _ hAr.out Try.underlying66 rfl jactInfo ?_)
                refine (hen2.out _).mono ?_
                rintro e w9 ⟨rfl, hk9⟩
                have hO9 := Lib.hid ((hO8.out.keep hk9 (fun _ _ f => f)).keep ((Keeps.refl (fun _ => False) w9).alloc (.cells #[.string X] 9)) (fun _ _ f => f))
                have hk9' := Lib.hid (hk8.out.trans hk9)
                clear hO8 hk8 hk9 hA8 hAr
                go_upto_region 29 with (((with_reducible refine at_slot 145 ?_); go_must (refine wpList_append_r rfl (.tmp 141) (.tmp 144) 47 9 rfl s0 _ 16 Try.underlying47 hs0 hs1 hs2 hs3 rfl (by decide) (by decide) sv1_len wn _ L.length L rfl rfl hO9.out _ rfl (entB asz B) (by rw [hsv.out]; exact cells_new rfl [.string X] _) (sv1_one _) (by have := hLL'.out; omega) ?_); intro q10 d10 w10 hO10 hg10))
                have hk10 := Lib.hid (OwnR.keeps (w0 := wn) hO9.out (hk9'.out.alloc _) hg10.out)
                have hA10 := Lib.hid (hA1.out.keep hk10.out)
                have hAr := Lib.hid hA10.out.range
                clear hg10 hO9 hk9'
                go_wp2_with ((with_reducible refine at_slot 147 ?_); refine wpList_load_mid rfl 66 (.tmp 19) rfl ab 0 rfl _ _ hAr.out Try.underlying66 rfl jactInfo ?_)
                refine (hen2.out _).mono ?_
                rintro e w11 ⟨rfl, hk11⟩
                have hk11' := Lib.hid (hk10.out.trans hk11)
                have hO11 := Lib.hid (hO10.out.keep hk11 (fun _ _ f => f))
                obtain ⟨nb, cb, w12, hnb, hcv, k12, hs12, hb12⟩ := str_bytes w11 (entB asz B) X hX'.out (by omega)
                have hk12 := Lib.hid (hk11'.out.trans k12)
                have hO12 := Lib.hid (hO11.out.keep k12 (fun _ _ f => f))
                have hap := Lib.hid (append_aj w12 j2 b N (k + 1) L _ (entB asz B) (Lib.hid (hJn.out.keep hk12.out)) (Lib.hid hb12.1) (by omega) (Lib.hid (fun i e ⟨_, cs, t, r, a1, a2⟩ => by
                  obtain ⟨cs2, r2, a3⟩ := hb12.2 i e
                  rw [a1] at a3
                  injection a3 with a3
                  injection a3 with _ a3 _
                  subst a3
                  revert a2; decide)))
                have hcv' := hcv
                clear hcv k12 hs12 hb12 hnb hO11 hO10 hk11' hk11 hk10 hA10 hAr hen2
                go_wp2_with fail
                refine hap.out.mono ?_
                rintro e w13 ⟨c, rfl, hk13, hsw⟩
                have hsw' := Lib.hid hsw
                have hO13 := Lib.hid (strs_keepJ hO12.out hk13)
                have hL13 := Lib.hid (strs_keepJ (hOn.out.keep hk12.out (fun _ _ f => f)) hk13)
                have hA13 := Lib.hid ((hA1.out.keep hk12.out).keepJ hk13)
                have hkw := Lib.hid (KeepJ.no (hkn.out.trans hk12.out) hk13 (by rw [hb0.out]; exact Nat.le_refl _))
                have hln : Hid ((L ++ [entB asz B]).length = L.length + 1) := Lib.hid (by rw [List.length_append]; rfl)
                clear hap hk13 hsw hO12 hk12 hJn hOn hA1 hkn hcv' hsv
                go_wp2_with fail
                go_meet
                case rel =>
                  refine ⟨j2, q10, d10, L ++ [entB asz B], c, wn, rfl, by rw [hln.out], rfl, Lib.hid (hsw'.out.mono (by omega)), Lib.hid (by rw [hln.out]; exact hO13.out), Lib.hid (fun l hl => ?_), Lib.hid (by rw [hln.out]; have := hLL'.out; omega), hL13, hA13, hkw⟩
                  rcases List.mem_append.1 hl with h | h
                  · have := hL8.out l h; omega
                  · rw [List.mem_singleton.1 h]; omega
            · rw [decide_eq_false hm4]
              have hm4' : 4 ≤ m := by omega
              clear hm4
              by_cases e4 : m = 4
              · have f4 : ((m : Int) == 4) = true := by rw [e4]; rfl
                clear e4 hm4'
                as_aux_lemma =>
                  have hc3 : Hid (∀ W, Keeps (fun _ => False) wn W → W.cell? ⟨ab, 3, none⟩ = some (.int .i64 mask)) := Lib.hid (fun W k => (hA1.out.keep k).c3)
                  have hLw : Hid (∀ W, Keeps (fun _ => False) wn W → RowsAt 1 sv1 W (.slice pl L.length cl) L) := Lib.hid (fun W k => (hOn.out.keep k (fun _ _ f => f)).at sv1_len)
                  clear hO8
                  go_upto_region 32 with fail
                  go_wp2_with fail
                  go_loopw [20, 22] (fun nv xv wx => ∃ (x : Nat) (pn : Option Addr) (cn : Nat) (M : List (List UInt8)), x ≤ L.length ∧ xv = .int .i64 x ∧ nv = .slice pn M.length cn ∧ M.length ≤ x ∧ Hid (∀ l ∈ M, l ∈ L) ∧ Hid (OwnR 9 1 sv1 wn wx (.slice pn M.length cn) M) ∧ Hid (Keeps (fun _ => False) wn wx)) (fun _ xv _ => L.length - (intOf xv).toNat)
                  case atStart => exact ⟨0, none, 0, [], by omega, rfl, rfl, Nat.le_refl _, Lib.hid (fun l hl => (by cases hl)), Lib.hid (OwnR.nil _ _ hk8.out.size), hk8⟩
                  case round =>
                    as_aux_lemma =>
                      obtain ⟨x, pn, cn, M, hx, rfl, rfl, hMx, hM, hOM, hKM⟩ := hrel
                      by_cases hlx : x < L.length
                      · have l3 : (x : Int) < (L.length : Int) := by omega
                        have l0x : (0 : Int) ≤ (x : Int) := by omega
                        have c3 := hc3.out _ hKM.out
                        go_upto_region 35 with fail
                        go_cut [165] (fun tv wx => (∃ z, tv = .bool z) ∧ wr = wx)
                        case first =>
                          as_aux_lemma =>
                            go_wp2_with fail
                            go_meet
                            case rel => exact ⟨⟨_, rfl⟩, rfl⟩
                        case rest =>
                          as_aux_lemma =>
                            obtain ⟨⟨z, rfl⟩, rfl⟩ := hcut
                            clear c3
                            cases z with
                            | false =>
                              go_wp2_with fail
                              exact ⟨⟨x + 1, pn, cn, M, by omega, by go_num, rfl, by omega, hM, hOM, hKM⟩, by simp [intOf]; omega⟩
                            | true =>
                              obtain ⟨y, hy⟩ : ∃ y, L[x]? = some y := ⟨_, List.getElem?_eq_getElem hlx⟩
                              obtain ⟨gs, os, rfl, cs⟩ := SAt.get (hLw.out _ hKM.out) hy
                              have hyL := Lib.hid (List.mem_of_getElem? hy)
                              obtain ⟨Y, hY⟩ : ∃ Y : ByteArray, (⟨y.toArray⟩ : ByteArray) = Y := ⟨_, rfl⟩
                              rw [hY] at cs
                              have hsv : Hid (sv1 y = [.string Y]) := Lib.hid (by unfold sv1; rw [hY])
                              have hOk := Lib.hid (hOM.out.keep ((Keeps.refl (fun _ => False) wr).alloc (.cells #[.string Y] 9)) (fun _ _ f => f))
                              clear hY hy
                              go_wp2_with (((with_reducible refine at_slot 172 ?_); go_must (refine wpList_append_r rfl (.tmp 166) (.tmp 171) 47 9 rfl s0 _ 16 Try.underlying47 hs0 hs1 hs2 hs3 rfl (by decide) (by decide) sv1_len wn _ M.length M rfl rfl hOk.out _ rfl y (by rw [hsv.out]; exact cells_new rfl [.string Y] _) (sv1_one _) (by have := hLL'.out; omega) ?_); intro q10 d10 w10 hO10 hg10))
                              have hk10 := Lib.hid (OwnR.keeps (w0 := wn) hOk.out (hKM.out.alloc _) hg10.out)
                              have hln : Hid ((M ++ [y]).length = M.length + 1) := Lib.hid (by rw [List.length_append]; rfl)
                              exact ⟨⟨x + 1, q10, d10, M ++ [y], by omega, by go_num, by rw [hln.out], by rw [hln.out]; omega, Lib.hid (fun l hl => by
                                rcases List.mem_append.1 hl with h | h
                                · exact hM.out l h
                                · rw [List.mem_singleton.1 h]; exact hyL.out), Lib.hid (by rw [hln.out]; exact hO10.out), hk10⟩, by simp [intOf]; omega⟩
                      · have l3 : ¬ ((x : Int) < (L.length : Int)) := by omega
                        as_aux_lemma =>
                          have c3 := hc3.out _ hKM.out
                          have hM8 : Hid (∀ l ∈ M, l.length ≤ 8193) := Lib.hid (fun l hl => by have := hL8.out l (hM.out l hl); omega)
                          have hMl : M.length ≤ 39 := by have := hLL'.out; omega
                          clear hMx hM hLw
                          go_upto_region 37 with fail
                          go_cut [176] (fun tv wx => (∃ z, tv = .bool z) ∧ wr = wx)
                          case first =>
                            as_aux_lemma =>
                              go_wp2_with fail
                              go_meet
                              case rel => exact ⟨⟨_, rfl⟩, rfl⟩
                          case rest =>
                            as_aux_lemma =>
                              obtain ⟨⟨z, rfl⟩, rfl⟩ := hcut
                              clear c3
                              go_upto_if 176 with fail
                              go_cut [20] (fun nv wx => ∃ (pm : Option Addr) (cm : Nat) (M2 : List (List UInt8)), nv = .slice pm M2.length cm ∧ M2.length ≤ 40 ∧ Hid (∀ l ∈ M2, l.length ≤ 8193) ∧ Hid (OwnR 9 1 sv1 wn wx (.slice pm M2.length cm) M2) ∧ Hid (Keeps (fun _ => False) wn wx))
                              case first =>
                                as_aux_lemma =>
                                  cases z with
                                  | false =>
                                    go_wp2_with fail
                                    go_meet
                                    case rel => exact ⟨pn, cn, M, rfl, by omega, hM8, hOM, hKM⟩
                                  | true =>
                                    have hsz2 := Lib.hid hs'.out
                                    have hen := Lib.hid (fun W => entry_any ⟨what, asz, B, mask, kept, .slice pk kl ck⟩ W hsz2.out)
                                    obtain ⟨X, hX⟩ : ∃ X : ByteArray, (⟨(entB asz B).toArray⟩ : ByteArray) = X := ⟨_, rfl⟩
                                    have hen2 : Hid (∀ W, Calls Try.prog 34 #[.agg #[.int .i64 what, .int .i64 asz, .int .u8 B.toNat, .int .i64 mask, .slice pk kl ck]] W fun e w' => e = .returned (.string X) ∧ Keeps (fun _ => False) W w') := Lib.hid (fun W => by rw [← hX]; exact hen.out W)
                                    have hsv : Hid (sv1 (entB asz B) = [.string X]) := Lib.hid (by unfold sv1; rw [hX])
                                    have hel : (entB asz B).length ≤ 8193 := by rw [entB_len]; exact entN_le asz
                                    have hAr := Lib.hid (hA1.out.keep hKM.out).range
                                    clear hX hen
                                    go_wp2_with ((with_reducible refine at_slot 178 ?_); refine wpList_load_mid rfl 66 (.tmp 19) rfl ab 0 rfl _ _ hAr.out Try.underlying66 rfl jactInfo ?_)
                                    refine (hen2.out _).mono ?_
                                    rintro e w9 ⟨rfl, hk9⟩
                                    have hO9 := Lib.hid ((hOM.out.keep hk9 (fun _ _ f => f)).keep ((Keeps.refl (fun _ => False) w9).alloc (.cells #[.string X] 9)) (fun _ _ f => f))
                                    have hk9' := Lib.hid (hKM.out.trans hk9)
                                    clear hOM hk9 hAr hKM
                                    go_wp2_with (((with_reducible refine at_slot 181 ?_); go_must (refine wpList_append_r rfl (.tmp 177) (.tmp 180) 47 9 rfl s0 _ 16 Try.underlying47 hs0 hs1 hs2 hs3 rfl (by decide) (by decide) sv1_len wn _ M.length M rfl rfl hO9.out _ rfl (entB asz B) (by rw [hsv.out]; exact cells_new rfl [.string X] _) (sv1_one _) (by omega) ?_); intro q10 d10 w10 hO10 hg10))
                                    have hk10 := Lib.hid (OwnR.keeps (w0 := wn) hO9.out (hk9'.out.alloc _) hg10.out)
                                    have hln : Hid ((M ++ [entB asz B]).length = M.length + 1) := Lib.hid (by rw [List.length_append]; rfl)
                                    go_meet
                                    case rel =>
                                      exact ⟨q10, d10, M ++ [entB asz B], by rw [hln.out], by rw [hln.out]; omega, Lib.hid (fun l hl => by
                                        rcases List.mem_append.1 hl with h | h
                                        · exact hM8.out l h
                                        · rw [List.mem_singleton.1 h]; exact hel), Lib.hid (by rw [hln.out]; exact hO10.out), hk10⟩
                              case rest =>
                                as_aux_lemma =>
                                  clear hOM hKM hM8 hMl
                                  obtain ⟨pm, cm, M2, rfl, hMl, hM8, hOM, hKM⟩ := hcut
                                  have hls := Lib.hid (lists_any _ M2 wc (Lib.hid (hOM.out.at sv1_len)) (by omega) (Lib.hid (fun l hl => by have := hM8.out l hl; omega)))
                                  clear hc3
                                  go_wp2_with fail
                                  refine hls.out.mono ?_
                                  rintro e w9 ⟨p9, c9, rfl, hT9, hk9⟩
                                  have hk9' := Lib.hid (hKM.out.trans hk9)
                                  have hcp := Lib.hid (compact_aj w9 j2 b N (k + 1) L _ M2 (Lib.hid (hJn.out.keep hk9'.out)) (Lib.hid hT9.t) (Lib.hid (fun l hl => by have := hM8.out l hl; omega)) (by omega) (by omega))
                                  have hO9 := Lib.hid (hOM.out.keep hk9 (fun _ _ f => f))
                                  clear hls hT9 hk9 hOM hKM
                                  go_wp2_with fail
                                  refine hcp.out.mono ?_
                                  rintro e w13 ⟨c, rfl, hk13, hsw⟩
                                  have hsw' := Lib.hid hsw
                                  have hO13 := Lib.hid (strs_keepJ hO9.out hk13)
                                  have hL13 := Lib.hid (strs_keepJ (hOn.out.keep hk9'.out (fun _ _ f => f)) hk13)
                                  have hA13 := Lib.hid ((hA1.out.keep hk9'.out).keepJ hk13)
                                  have hkw := Lib.hid (KeepJ.no (hkn.out.trans hk9'.out) hk13 (by rw [hb0.out]; exact Nat.le_refl _))
                                  clear hcp hk13 hsw hO9 hk9' hJn hOn hA1 hkn
                                  go_wp2_with fail
                                  go_meet
                                  case rel =>
                                    exact ⟨j2, pm, cm, M2, c, wn, rfl, rfl, rfl, Lib.hid (hsw'.out.mono (by omega)), hO13, Lib.hid (fun l hl => by have := hM8.out l hl; omega), Lib.hid (by omega), hL13, hA13, hkw⟩
              · have f4 : ((m : Int) == 4) = false := by rw [beq_eq_false_iff_ne]; omega
                by_cases e5 : m = 5
                · have f5 : ((m : Int) == 5) = true := by rw [e5]; rfl
                  clear e4 e5 hm4'
                  as_aux_lemma =>
                    have hkw := Lib.hid (hkn.out.trans hk8.out)
                    have hop := Lib.hid (open_aj w8 j2 b N (k + 1) L (Lib.hid (hJn.out.keep hk8.out)) (by rw [hb0.out]; exact hkw.out.size))
                    have hOL := Lib.hid (hOn.out.keep hk8.out (fun _ _ f => f))
                    have hrt := Lib.hid hJn.out.right
                    clear hJn hOn hA1 hkn hk8
                    go_wp2_with fail
                    refine hop.out.mono ?_
                    rintro e w9 ⟨hk9, mb, rfl, hJ9⟩
                    have hJ9' := Lib.hid hJ9
                    have hO9 := Lib.hid (strs_keepJ hO8.out (KeepJ.ofD hk9))
                    have hL9 := Lib.hid (strs_keepJ hOL.out (KeepJ.ofD hk9))
                    have hA9 := Lib.hid (hA8.out.keepJ (KeepJ.ofD hk9))
                    have hkw9 := Lib.hid (keepNo2 hkw.out hk9 (by rw [hb0.out]; exact Nat.le_refl _))
                    clear hop hk9 hJ9 hO8 hOL hA8 hkw
                    go_wp2_with fail
                    go_meet
                    case rel => exact ⟨mb, q8, d8, L, 0, wn, rfl, rfl, rfl, Lib.hid (.inl ⟨rfl, hrt.out.1, hrt.out.2, hJ9'.out.mono (by omega)⟩), hO9, Lib.hid (fun l hl => by have := hL8.out l hl; omega), Lib.hid (by have := hLL'.out; omega), hL9, hA9, hkw9⟩
                · have f5 : ((m : Int) == 5) = false := by rw [beq_eq_false_iff_ne]; omega
                  by_cases e6 : m = 6
                  · have f6 : ((m : Int) == 6) = true := by rw [e6]; rfl
                    clear e4 e5 e6 hm4'
                    as_aux_lemma =>
                      have hkw := Lib.hid (hkn.out.trans hk8.out)
                      have hmS := umod asz 12 (by decide) (by decide)
                      obtain ⟨S, hS⟩ : ∃ S, ((asz % 18446744073709551616) % 12).toNat = S := ⟨_, rfl⟩
                      rw [hS] at hmS
                      have hmS1 := hmS.1
                      have har := Lib.hid (arm_aj w8 j2 b N (k + 1) L S (by have := hmS.2; omega) (Lib.hid (hJn.out.keep hk8.out)))
                      have hOL := Lib.hid (hOn.out.keep hk8.out (fun _ _ f => f))
                      have hc1 := hA8.out.c1
                      clear hJn hOn hA1 hkn hk8 hS hmS
                      go_wp2_with fail
                      refine har.out.mono ?_
                      rintro e w9 ⟨rfl, hJ9, hk9⟩
                      have hJ9' := Lib.hid hJ9
                      have hL9 := Lib.hid (strs_keepJ hOL.out (KeepJ.ofD hk9))
                      have hkw9 := Lib.hid (keepNo2 hkw.out hk9 (by rw [hb0.out]; exact Nat.le_refl _))
                      clear har hk9 hJ9 hO8 hOL hA8 hkw hmS1 hc1
                      go_wp2_with fail
                      exact ⟨⟨k + 1, j2, pl, cl, L, wl, by omega, by omega, rfl, rfl, by go_num, Lib.hid (hJ9'.out.mono (by omega)), hL9, hkw9⟩, by simp [intOf]; omega⟩
                  · have f6 : ((m : Int) == 6) = false := by rw [beq_eq_false_iff_ne]; omega
                    have f7 : ((m : Int) == 7) = true := by rw [beq_iff_eq]; omega
                    clear e4 e5 e6 hm4'
                    as_aux_lemma =>
                      have hkw := Lib.hid (hkn.out.trans hk8.out)
                      have hsw := Lib.hid ((hJn.out.keep hk8.out).off.mono (show k + 1 ≤ k + 2 by omega))
                      have hOL := Lib.hid (hOn.out.keep hk8.out (fun _ _ f => f))
                      clear hJn hOn hA1 hkn hk8
                      go_wp2_with fail
                      go_meet
                      case rel => exact ⟨j2, q8, d8, L, 2, wn, rfl, rfl, rfl, hsw, hO8, Lib.hid (fun l hl => by have := hL8.out l hl; omega), Lib.hid (by have := hLL'.out; omega), hOL, hA8, hkw⟩
        case rest =>
          obtain ⟨j3, pn, cn, next, err, wm, rfl, rfl, rfl, hSw, hON, hNl, hNn, hOL, hA, hKw⟩ := hcut
          clear hJn hOn hA1 hkn hk8 hO8 hA8
          obtain ⟨U, hU⟩ : ∃ U, usedOf next = U := ⟨_, rfl⟩
          obtain ⟨rr, hrr⟩ : ∃ r, next.all rightB = r := ⟨_, rfl⟩
          have hsm := Lib.hid (rsum_any _ next wc (Lib.hid (hON.out.at sv1_len)) hNl (by have := hNn.out; omega))
          have hrt := Lib.hid (fun W (k : Keeps (fun _ => False) wc W) => rright_any _ next W (Lib.hid ((hON.out.keep k (fun _ _ f => f)).at sv1_len)) (Lib.hid (fun l hl => by have := hNl.out l hl; omega)) (by have := hNn.out; omega))
          rw [hU] at hsm
          rw [hrr] at hrt
          have hU' := Lib.hid hU
          have hrr' := Lib.hid hrr
          clear hU hrr
          go_wp2_with fail
          refine hsm.out.mono ?_
          rintro e w6 ⟨rfl, rfl⟩
          clear hsm
          obtain ⟨q5, hq5⟩ : ∃ q, (if H < U then 5 else 0 : Nat) = q := ⟨_, rfl⟩
          have hq5' := Lib.hid hq5
          clear hq5
          obtain ⟨q6, hq6⟩ : ∃ q, (if rr then q5 else 1 : Nat) = q := ⟨_, rfl⟩
          have hq6' := Lib.hid hq6
          clear hq6
          go_upto_if 216 with fail
          go_cut [25] (fun tv wx => tv = .int .i64 (q5 : Int) ∧ wc = wx)
          case first =>
            as_aux_lemma =>
              by_cases hHU : H < U
              · have l5 : (H : Int) < (U : Int) := by omega
                have e5 : q5 = 5 := by rw [← hq5'.out, if_pos hHU]
                subst e5
                clear hHU
                go_wp2_with fail
                go_meet
                case rel => exact ⟨rfl, rfl⟩
              · have l5 : ¬ ((H : Int) < (U : Int)) := by omega
                have e5 : q5 = 0 := by rw [← hq5'.out, if_neg hHU]
                subst e5
                clear hHU
                go_wp2_with fail
                go_meet
                case rel => exact ⟨rfl, rfl⟩
          case rest =>
            as_aux_lemma =>
              obtain ⟨rfl, rfl⟩ := hcut
              go_wp2_with fail
              refine (hrt.out _ (Keeps.refl _ _)).mono ?_
              rintro e w6 ⟨rfl, rfl⟩
              go_upto_if 219 with fail
              go_cut [25] (fun tv wx => tv = .int .i64 (q6 : Int) ∧ wc = wx)
              case first =>
                as_aux_lemma =>
                  cases rr with
                  | true =>
                    have e6 : q6 = q5 := by rw [← hq6'.out, if_pos rfl]
                    subst e6
                    go_wp2_with fail
                    go_meet
                    case rel => exact ⟨rfl, rfl⟩
                  | false =>
                    have e6 : q6 = 1 := by rw [← hq6'.out, if_neg (by decide)]
                    subst e6
                    go_wp2_with fail
                    go_meet
                    case rel => exact ⟨rfl, rfl⟩
              case rest =>
                as_aux_lemma =>
                  obtain ⟨rfl, rfl⟩ := hcut
                  have hq6 := hq6'.out
                  have hSw2 : (err = 0 ∧ q6 = 0 ∧ Hid (AJ wc j3 b N (k + 2) next)) ∨ (err = 1 ∧ q6 = 1 ∧ rr = false ∧ Hid (AJ wc j3 b N (k + 2) L)) ∨ (err = 5 ∧ q6 = 5 ∧ Hid (AJ wc j3 b N (k + 2) L)) ∨
                      (err = 2 ∧ q6 = 0 ∧ Hid (∃ D, D.b = b ∧ D.n = N ∧ DkAt D wc ∧ ∀ kept, Quiet (D.crash kept) ∧ ∃ gen half L', (L' = L ∨ L' = next) ∧ JD (D.crash kept).la N gen half L' ∧ gen ≤ k + 2)) := by
                    have h5 := hq5'.out
                    rcases hSw.out with ⟨s1, s2, s3, s4⟩ | ⟨s1, s2, s3⟩ | ⟨s1, s2, s3, s4⟩ | ⟨s1, s2, s3, s4⟩
                    · rw [hrr'.out] at s2; rw [hU'.out, hH'.out] at s3
                      rw [if_neg (by omega)] at h5
                      rw [s2, if_pos rfl] at hq6
                      exact .inl ⟨s1, by rw [← hq6, h5], Lib.hid s4⟩
                    · rw [hrr'.out] at s2
                      rw [s2, if_neg (by decide)] at hq6
                      exact .inr (.inl ⟨s1, hq6.symm, s2, Lib.hid s3⟩)
                    · rw [hrr'.out] at s2; rw [hU'.out, hH'.out] at s3
                      rw [if_pos s3] at h5
                      rw [s2, if_pos rfl] at hq6
                      exact .inr (.inr (.inl ⟨s1, by rw [← hq6, h5], Lib.hid s4⟩))
                    · rw [hrr'.out] at s2; rw [hU'.out, hH'.out] at s3
                      rw [if_neg (by omega)] at h5
                      rw [s2, if_pos rfl] at hq6
                      exact .inr (.inr (.inr ⟨s1, by rw [← hq6, h5], Lib.hid s4⟩))
                  clear hq6 hSw hq5' hq6' hU' hrr'
                  go_upto_block 5 with fail
                  go_cut [14, 16] (fun jv lv wx => ∃ (j4 : Nat) (p4 : Option Addr) (c4 : Nat) (L4 : List (List UInt8)) (wl4 : World), jv = .pointer (some ⟨j4, 0, none⟩) ∧ lv = .slice p4 L4.length c4 ∧ Hid (AJ wx j4 b N (k + 2) L4) ∧ Hid (OwnR 9 1 sv1 wl4 wx (.slice p4 L4.length c4) L4) ∧ Hid (Keeps (fun _ => False) w wx))
                  case first =>
                    as_aux_lemma =>
                      rcases hSw2 with ⟨rfl, rfl, hj⟩ | ⟨rfl, rfl, rfl, hj⟩ | ⟨rfl, rfl, hj⟩ | ⟨rfl, rfl, hD⟩
                      · go_wp2_with fail
                        go_meet
                        case rel => exact ⟨j3, pn, cn, next, wm, rfl, rfl, hj, hON, hKw⟩
                      · go_wp2_with fail
                        refine (hrt.out _ (Keeps.refl _ _)).mono ?_
                        rintro e w6 ⟨rfl, rfl⟩
                        go_wp2_with fail
                        go_meet
                        case rel => exact ⟨j3, pl, cl, L, wl, rfl, rfl, hj, hOL, hKw⟩
                      · go_wp2_with fail
                        go_meet
                        case rel => exact ⟨j3, pl, cl, L, wl, rfl, rfl, hj, hOL, hKw⟩
                      · as_aux_lemma =>
                          obtain ⟨D, hDb, hDn, hDk, hDc⟩ := hD.out
                          have hbk := Lib.hid (hkp'.out.keep hKw.out)
                          have hcr := Lib.hid (dk_crash D wc _ kept hDk hbk.out (fun h0 i e => by rw [hb0.out]; exact hkb'.out (by rw [← hkle'.out]; exact h0) i e))
                          rw [hDb] at hcr
                          have c4 := hA.out.c4
                          obtain ⟨hq, gen, half, L', hL', hjd, hgen⟩ := hDc kept
                          have hcb : (D.crash kept).b = b := hDb
                          have hcn : (D.crash kept).n = N := hDn
                          generalize hDCe : D.crash kept = DC at hcr hq hjd hcb hcn
                          have hq' := Lib.hid hq
                          have hjd' := Lib.hid hjd
                          have hcb' := Lib.hid hcb
                          have hcn' := Lib.hid hcn
                          have hLp := Lib.hid hL'
                          have hle : Hid (∀ l ∈ L', 1 ≤ l.length ∧ l.length ≤ 8192) := Lib.hid hjd.lens
                          have hlL : L'.length ≤ 39 := by
                            have h1 := hjd.lenL
                            rw [hH'.out] at h1
                            omega
                          clear hD hDk hDc hbk hq hjd hcb hcn hDCe hrt hL' hDb hDn
                          go_wp2_with fail
                          refine hcr.out.mono ?_
                          rintro e w6 ⟨rfl, hD6, hk6⟩
                          have hkw6 := Lib.hid (keepNo2 hKw.out hk6 (by rw [hb0.out]; exact Nat.le_refl _))
                          have hN6 := Lib.hid (strs_keepJ hON.out (KeepJ.ofD hk6))
                          have hL6 := Lib.hid (strs_keepJ hOL.out (KeepJ.ofD hk6))
                          have hop := Lib.hid (open_js w6 N gen half L' DC (by rw [hb0.out]; exact hkw6.out.size) (Lib.hid hD6) hq' hjd' hcn')
                          rw [hcb'.out] at hop
                          clear hcr hD6 hk6 hKw hON hOL hA c4
                          go_wp2_with fail
                          refine hop.out.mono ?_
                          rintro e w7 ⟨hk7, m1, ev1, rfl, -, hJ1⟩
                          have hJ1' := Lib.hid hJ1
                          have hkw7 := Lib.hid (keepNo2 hkw6.out hk7 (by rw [hb0.out]; exact Nat.le_refl _))
                          have hN7 := Lib.hid (strs_keepJ hN6.out (KeepJ.ofD hk7))
                          have hL7 := Lib.hid (strs_keepJ hL6.out (KeepJ.ofD hk7))
                          have hop := Lib.hid (open_js w7 N gen half L' DC (by rw [hb0.out]; exact hkw7.out.size) (Lib.hid hJ1.j.dk) hq' hjd' hcn')
                          rw [hcb'.out] at hop
                          clear hk7 hJ1 hkw6 hN6 hL6
                          go_wp2_with fail
                          refine hop.out.mono ?_
                          rintro e w8 ⟨hk8, m2, ev2, rfl, -, hJ2⟩
                          have hJ1b : Hid (JS w6 w8 m1 N gen half ev1 L' DC) := Lib.hid ⟨⟨hJ1'.out.j.head.keepD hk8, hJ1'.out.j.ents.keepD hk8, hJ2.j.dk⟩, hq'.out, hjd'.out, hcn'.out, hJ1'.out.b0, hJ1'.out.jb0⟩
                          have hJ2b := Lib.hid hJ2
                          have hkw8 := Lib.hid (keepNo2 hkw7.out hk8 (by rw [hb0.out]; exact Nat.le_refl _))
                          have hN8 := Lib.hid (strs_keepJ hN7.out (KeepJ.ofD hk8))
                          have hL8b := Lib.hid (strs_keepJ hL7.out (KeepJ.ofD hk8))
                          have hwt := Lib.hid (own_waits _ DC w8 hJ2.j.dk.own)
                          rw [hcb'.out, hq'.out.ord] at hwt
                          clear hop hk8 hJ2 hJ1' hkw7 hN7 hL7
                          go_wp2_with fail
                          refine hwt.out.mono ?_
                          rintro e w9 ⟨rfl, rfl⟩
                          have hA1 := Lib.hid (all_js w6 w8 m1 N gen half ev1 L' DC hJ1b)
                          clear hwt
                          go_wp2_with fail
                          refine hA1.out.mono ?_
                          rintro e w9 ⟨p9, c9, rfl, hE9, hk9⟩
                          have htx := Lib.hid (texts_any _ L' w9 (Lib.hid hE9.at) (by omega) (Lib.hid (fun l hl => (hle.out l hl).1)))
                          have hk9' := Lib.hid hk9
                          clear hA1 hE9 hk9
                          go_wp2_with fail
                          refine htx.out.mono ?_
                          rintro e w10 ⟨p10, c10, rfl, hO10, hk10⟩
                          have hk10' := Lib.hid (hk9'.out.trans hk10)
                          have hO10' := Lib.hid hO10
                          have hA2 := Lib.hid (all_js w7 w10 m2 N gen half ev2 L' DC (Lib.hid (hJ2b.out.keep hk10'.out)))
                          clear htx hO10 hk10 hk9'
                          go_wp2_with fail
                          refine hA2.out.mono ?_
                          rintro e w11 ⟨p11, c11, rfl, hE11, hk11⟩
                          have htx := Lib.hid (texts_any _ L' w11 (Lib.hid hE11.at) (by omega) (Lib.hid (fun l hl => (hle.out l hl).1)))
                          have hk11' := Lib.hid (hk10'.out.trans hk11)
                          have hO11 := Lib.hid (hO10'.out.keep hk11 (fun _ _ f => f))
                          clear hA2 hE11 hk11 hk10' hO10'
                          go_wp2_with fail
                          refine htx.out.mono ?_
                          rintro e w12 ⟨p12, c12, rfl, hO12, hk12⟩
                          have hk12' := Lib.hid (hk11'.out.trans hk12)
                          have hsm := Lib.hid (rsame_any _ _ L' L' w12 (Lib.hid ((hO11.out.keep hk12 (fun _ _ f => f)).at sv1_len)) (Lib.hid (hO12.at sv1_len)) (by omega) (by omega))
                          rw [beq_self_eq_true] at hsm
                          clear htx hO12 hk12 hk11' hO11
                          go_wp2_with fail
                          refine hsm.out.mono ?_
                          rintro e w13 ⟨rfl, hk13⟩
                          have hk13' := Lib.hid (hk12'.out.trans hk13)
                          have hJ13 := Lib.hid (hJ1b.out.keep hk13'.out)
                          have hA1 := Lib.hid (all_js w6 w13 m1 N gen half ev1 L' DC hJ13)
                          clear hsm hk13 hk12' hJ1b hJ2b
                          go_wp2_with fail
                          refine hA1.out.mono ?_
                          rintro e w14 ⟨p14, c14, rfl, hE14, hk14⟩
                          have htx := Lib.hid (texts_any _ L' w14 (Lib.hid hE14.at) (by omega) (Lib.hid (fun l hl => (hle.out l hl).1)))
                          have hk14' := Lib.hid hk14
                          clear hA1 hE14 hk14
                          go_wp2_with fail
                          refine htx.out.mono ?_
                          rintro e w15 ⟨p15, c15, rfl, hO15, hk15⟩
                          have hk15' := Lib.hid (hk14'.out.trans hk15)
                          have hO15' := Lib.hid hO15
                          have hks := Lib.hid (hk13'.out.trans hk15'.out)
                          have hN15 := Lib.hid (hN8.out.keep hks.out (fun _ _ f => f))
                          have hL15 := Lib.hid (hL8b.out.keep hks.out (fun _ _ f => f))
                          have hJ15 := Lib.hid (hJ13.out.keep hk15'.out)
                          have hkw15 := Lib.hid (hkw8.out.trans hks.out)
                          have hs1 := Lib.hid (rsame_any _ _ L' next w15 (Lib.hid (hO15'.out.at sv1_len)) (Lib.hid (hN15.out.at sv1_len)) (by omega) (by have := hNn.out; omega))
                          clear htx hO15 hk15 hk14' hk13' hk15' hN8 hL8b hJ13 hkw8 hks
                          by_cases hn : L' = next
                          · subst hn
                            rw [beq_self_eq_true] at hs1
                            go_wp2_with fail
                            refine hs1.out.mono ?_
                            rintro e w16 ⟨rfl, hk16⟩
                            have hk16' := Lib.hid hk16
                            clear hs1 hk16
                            go_wp2_with fail
                            go_meet
                            case rel => exact ⟨m1, pn, cn, L', wm, rfl, rfl, Lib.hid ⟨w6, gen, half, ev1, DC, hJ15.out.keep hk16'.out, hgen, hcb'.out⟩, Lib.hid (hN15.out.keep hk16'.out (fun _ _ f => f)), Lib.hid (hkw15.out.trans hk16'.out)⟩
                          · have e1 : (L' == next) = false := beq_eq_false_iff_ne.2 hn
                            have eL : L' = L := hLp.out.resolve_right hn
                            rw [e1] at hs1
                            subst eL
                            clear hn e1
                            go_wp2_with fail
                            refine hs1.out.mono ?_
                            rintro e w16 ⟨rfl, hk16⟩
                            have hk16' := Lib.hid hk16
                            have hs2 := Lib.hid (rsame_any _ _ L' L' w16 (Lib.hid ((hO15'.out.keep hk16 (fun _ _ f => f)).at sv1_len)) (Lib.hid ((hL15.out.keep hk16 (fun _ _ f => f)).at sv1_len)) (by omega) (by omega))
                            rw [beq_self_eq_true] at hs2
                            clear hs1 hk16
                            go_wp2_with fail
                            refine hs2.out.mono ?_
                            rintro e w17 ⟨rfl, hk17⟩
                            have hk17' := Lib.hid (hk16'.out.trans hk17)
                            clear hs2 hk17
                            go_wp2_with fail
                            go_meet
                            case rel => exact ⟨m1, pl, cl, L', wl, rfl, rfl, Lib.hid ⟨w6, gen, half, ev1, DC, hJ15.out.keep hk17'.out, hgen, hcb'.out⟩, Lib.hid (hL15.out.keep hk17'.out (fun _ _ f => f)), Lib.hid (hkw15.out.trans hk17'.out)⟩
                  case rest =>
                    as_aux_lemma =>
                      as_aux_lemma =>
                        clear hSw2 hrt hON hOL hA hKw hNl hNn
                        obtain ⟨j4, p4, c4, L4, wl4, rfl, rfl, hJ, hO, hK⟩ := hcut
                        have hr4 := hJ.out.right
                        obtain ⟨U4, hU4⟩ : ∃ U, usedOf L4 = U := ⟨_, rfl⟩
                        have hUH : U4 ≤ H := by have := hr4.2; rw [hU4, hH'.out] at this; exact this
                        have hL4 : L4.length ≤ 39 := by have := usedOf_ge L4; omega
                        have hle : Hid (∀ l ∈ L4, 1 ≤ l.length ∧ l.length ≤ 8192) := Lib.hid (fun l hl => of_decide_eq_true (List.all_eq_true.1 hr4.1 l hl))
                        have hU4' := Lib.hid hU4
                        have hAll := Lib.hid (all_aj wc j4 b N (k + 2) L4 hJ)
                        clear hr4 hU4
                        go_wp2_with fail
                        refine hAll.out.mono ?_
                        rintro e w6 ⟨p6, c6, rfl, hE6, hk6⟩
                        have htx := Lib.hid (texts_any _ L4 w6 (Lib.hid hE6.at) (by omega) (Lib.hid (fun l hl => (hle.out l hl).1)))
                        have hk6' := Lib.hid hk6
                        clear hAll hE6 hk6
                        go_wp2_with fail
                        refine htx.out.mono ?_
                        rintro e w7 ⟨p7, c7, rfl, hO7, hk7⟩
                        have hk7' := Lib.hid (hk6'.out.trans hk7)
                        have hsm := Lib.hid (rsame_any _ _ L4 L4 w7 (Lib.hid (hO7.at sv1_len)) (Lib.hid ((hO.out.keep hk7'.out (fun _ _ f => f)).at sv1_len)) (by omega) (by omega))
                        rw [beq_self_eq_true] at hsm
                        clear htx hO7 hk7 hk6'
                        go_wp2_with fail
                        refine hsm.out.mono ?_
                        rintro e w8 ⟨rfl, hk8⟩
                        have hk8' := Lib.hid (hk7'.out.trans hk8)
                        have hfr := Lib.hid (free_aj w8 j4 b N (k + 2) L4 (Lib.hid (hJ.out.keep hk8'.out)))
                        rw [hH'.out, hU4'.out] at hfr
                        obtain ⟨F, hF⟩ : ∃ F, H - U4 = F := ⟨_, rfl⟩
                        rw [hF] at hfr
                        have e9 : ((F : Int) != (H : Int) - (U4 : Int)) = false := by rw [bne_eq_false_iff_eq]; omega
                        clear hsm hk8 hk7' hF
                        go_wp2_with fail
                        refine hfr.out.mono ?_
                        rintro e w9 ⟨rfl, rfl⟩
                        have hk9 := Lib.hid hk8'.out.drew
                        have hsu := Lib.hid (rsum_any _ L4 w8.drew (Lib.hid ((hO.out.keep hk9.out (fun _ _ f => f)).at sv1_len)) (Lib.hid (fun l hl => by have := hle.out l hl; omega)) (by omega))
                        rw [hU4'.out] at hsu
                        clear hfr hk8'
                        go_wp2_with fail
                        refine hsu.out.mono ?_
                        rintro e w10 ⟨rfl, rfl⟩
                        clear hsu
                        go_wp2_with fail
                        exact ⟨⟨k + 1, j4, p4, c4, L4, wl4, by omega, by omega, rfl, rfl, by go_num, Lib.hid (hJ.out.keep hk9.out), Lib.hid (hO.out.keep hk9.out (fun _ _ f => f)), Lib.hid (hK.out.trans hk9.out)⟩, by simp [intOf]; omega⟩
      · have hres : True := trivial
        as_aux_lemma =>
          by_cases hl1 : k < rl
          · have l1 : (k : Int) < (rl : Int) := by omega
            have l2 : ¬ ((k : Int) < 40) := by omega
            clear hlt hl1
            go_wp2_with fail
            go_ret
            exact ⟨rfl, hK.out⟩
          · have l1 : ¬ ((k : Int) < (rl : Int)) := by omega
            clear hlt hl1
            go_wp2_with fail
            go_ret
            exact ⟨rfl, hK.out⟩
end
end Go.Proofs.Ytcmpbablmofofaa

