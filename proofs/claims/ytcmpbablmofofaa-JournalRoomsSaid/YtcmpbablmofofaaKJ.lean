/- JournalRooms: walked. -/
import Derived.Test.YtcmpbablmofofaaKI
set_option linter.unusedVariables false
set_option linter.unusedSimpArgs false
namespace Go.Proofs.Ytcmpbablmofofaa
open Go.RowKit
section
variable [Inhabited BaseN]

end
theorem usedOf_rep (m : Nat) (x : List UInt8) : usedOf (List.replicate m x) = m * takes x.length := by
  induction m with
  | zero => rw [Nat.zero_mul]; rfl
  | succ m ih => rw [List.replicate_succ, usedOf_cons, ih, Nat.succ_mul]; omega
theorem noughts_allowed {K : Nat} (h1 : 1 ≤ K) (h2 : K ≤ 200) : allowedB (noughts K) = true := by
  unfold allowedB
  rw [noughts_len]
  exact decide_eq_true ⟨h1, by omega⟩
/-- how many entries of T sectors there is room for -/
theorem rooms_fit {H T R i : Nat} (hT : 1 ≤ T) (hR : H / T = R) (hi : min i R * T + T ≤ H) : i < R := by
  rw [← Nat.succ_mul] at hi
  have h1 := (Nat.le_div_iff_mul_le (by omega : 0 < T)).2 hi
  rw [hR] at h1
  omega
theorem rooms_full {H T R i : Nat} (hT : 1 ≤ T) (hR : H / T = R) (hi : ¬ (min i R * T + T ≤ H)) : R ≤ i := by
  apply Nat.le_of_not_lt
  intro h
  apply hi
  rw [← Nat.succ_mul]
  apply (Nat.le_div_iff_mul_le (by omega : 0 < T)).1
  rw [hR]; omega
section
variable [Inhabited BaseN]
set_option maxRecDepth 100000 in
set_option maxHeartbeats 8000000 in
theorem rooms_walk (n k : Int) (w : World) (hb1 : base0 = w.heap.size) :
    Calls Try.prog 8 #[.int .i64 n, .int .i64 k] w fun e w' => e = .returned (.bool true) ∧ Keeps (fun _ => False) w w' := by
  have hb0 := Lib.hid hb1
  clear hb1
  obtain ⟨i0, hi0, hi1, hi2, hi3⟩ := info_parts u8InfoAll
  go_enter Try.func8, Try.ntmps8
  go_upto_region 3 with fail
  have hnn : ∃ N : Nat, wrap64 (4 + wrap64 ((IntKind.u64.wrap n).tmod 60)) = (N : Int) ∧ 4 ≤ N ∧ N ≤ 63 := by
    have h1 := umod n 60 (by decide) (by decide)
    obtain ⟨m, hm⟩ : ∃ m, ((n % 18446744073709551616) % 60).toNat = m := ⟨_, rfl⟩
    rw [hm] at h1
    refine ⟨4 + m, ?_, by omega, by omega⟩
    rw [h1.1]; unfold wrap64; omega
  have hkk : ∃ N : Nat, wrap64 (1 + wrap64 ((IntKind.u64.wrap k).tmod 200)) = (N : Int) ∧ 1 ≤ N ∧ N ≤ 200 := by
    have h1 := umod k 200 (by decide) (by decide)
    obtain ⟨m, hm⟩ : ∃ m, ((k % 18446744073709551616) % 200).toNat = m := ⟨_, rfl⟩
    rw [hm] at h1
    refine ⟨1 + m, ?_, by omega, by omega⟩
    rw [h1.1]; unfold wrap64; omega
  obtain ⟨N, hN, hN4, hN63⟩ := hnn
  obtain ⟨K, hK, hK1, hK2⟩ := hkk
  rw [hN, hK]
  clear hN hK
  have hnew := Lib.hid (new_js N w (by omega) (by omega) (by rw [hb0.out]; exact Nat.le_refl _))
  go_wp2_with fail
  refine hnew.out.mono ?_
  rintro e w1 ⟨b, bs, rfl, hD1, hk1⟩
  have hD1' := Lib.hid hD1
  have hk1' := Lib.hid hk1
  have hbg := Lib.hid (begin_js w1 b bs N hN4 (by rw [hb0.out]; exact hk1.size) hD1')
  clear hnew hD1 hk1
  go_wp2_with fail
  refine hbg.out.mono ?_
  rintro e w2 ⟨hk2, jb, ev, D, rfl, hjb, hDb, hDl, hJ2⟩
  have hk2' := Lib.hid (keepNo2 hk1'.out hk2 (by rw [hb0.out]; exact Nat.le_refl _))
  have hJ2' := Lib.hid hJ2
  have hDl' := Lib.hid hDl
  have hst := Lib.hid (stays_no w2)
  clear hbg hk2 hJ2 hDl hjb hDb hk1' hD1'
  go_wp2_with fail
  refine hst.out.mono ?_
  rintro e w3 ⟨rfl, hk3⟩
  have hk3' := Lib.hid (hk2'.out.trans hk3)
  have hJ3 := Lib.hid (hJ2'.out.keep hk3)
  have htk := Lib.hid (fun W => rtakes_any K (by omega) W)
  obtain ⟨T, hT⟩ : ∃ T, takes K = T := ⟨_, rfl⟩
  have hT1 : 1 ≤ T := by rw [← hT]; unfold takes; omega
  have hT2 : T ≤ 10 := by rw [← hT]; unfold takes; omega
  rw [hT] at htk
  have hT' := Lib.hid hT
  clear hst hk2' hJ2' hk3 hT
  go_upto_region 7 with fail
  go_wp2_with fail
  refine (htk.out _).mono ?_
  rintro e w4 ⟨rfl, rfl⟩
  have l0 : ¬ ((T : Int) = 0) := by omega
  go_upto_region 8 with fail
  obtain ⟨H, hH⟩ : ∃ H, hz N = H := ⟨_, rfl⟩
  obtain ⟨R, hR⟩ : ∃ R, H / T = R := ⟨_, rfl⟩
  have hRi : ((N : Int) - 2) / 2 / (T : Int) = (R : Int) := by
    have h1 : ((N : Int) - 2) / 2 = (H : Int) := by rw [← hH]; unfold hz; omega
    rw [h1, ← hR]; rfl
  rw [hRi]
  have hHl : H ≤ 31 := by rw [← hH]; unfold hz; omega
  have hRl : R ≤ 31 := by rw [← hR]; exact Nat.le_trans (Nat.div_le_self _ _) hHl
  have hR' := Lib.hid hR
  have hH' := Lib.hid hH
  have hal := Lib.hid (noughts_allowed hK1 hK2)
  clear htk l0 hRi hR hH hN4 hN63
  go_wp2_with fail
  go_loopw [12] (fun iv wr => ∃ (i : Nat) (ev : Value) (D : Dk), i ≤ R + 2 ∧ iv = .int .i64 i ∧ Hid (JS w1 wr jb N 1 0 ev (List.replicate (min i R) (noughts K)) D) ∧ Hid (D.left = -1) ∧ Hid (Keeps (fun _ => False) w wr)) (fun iv _ => R + 2 - (intOf iv).toNat)
  case atStart => exact ⟨0, ev, D, by omega, rfl, by rw [Nat.zero_min]; exact hJ3, hDl', hk3'⟩
  case round =>
    obtain ⟨i, ev, D, hi, rfl, hJ, hDl, hk⟩ := hrel
    clear hJ3 hDl' hk3'
    by_cases hlt : i < R + 2
    · have l1 : (i : Int) < (R : Int) + 2 := by omega
      have hnl := noughts_len K
      go_wp2_with ((with_reducible refine at_slot 58 ?_); go_must (refine wpList_make_z rfl (.tmp 57) (.tmp 57) 27 rfl i0 Try.underlying27 hi0 hi1 hi2 hi3 K _ rfl rfl rfl (by omega) ?_); intro hOn)
      have hap := Lib.hid (append_js w1 (wr.alloc (.cells ((noughts K).map bv).toArray 5)) jb N 1 0 ev (List.replicate (min i R) (noughts K)) D (.slice (some ⟨wr.heap.size, 0, none⟩) K K) (noughts K) (Lib.hid (hJ.out.keep ((Keeps.refl _ _).alloc _))) (Lib.hid hOn.out.bytes) (by omega) (Lib.hid (fun k e => hOn.out.noD e)))
      go_wp2_with fail
      refine hap.out.mono ?_
      rintro e w5 ⟨cc, ev', D', rfl, hk5, -, hDb', ho⟩
      have hk5' : Hid (Keeps (fun _ => False) w w5) := Lib.hid (KeepJ.no (hk.out.alloc _) hk5 (by rw [hb0.out]; exact Nat.le_refl _))
      have hcs : (cc = 0 ∧ i < R ∧ Hid (D'.left = -1) ∧ Hid (JS w1 w5 jb N 1 0 ev' (List.replicate (min (i + 1) R) (noughts K)) D')) ∨ (cc = 5 ∧ R ≤ i ∧ Hid (D'.left = -1) ∧ Hid (JS w1 w5 jb N 1 0 ev' (List.replicate (min (i + 1) R) (noughts K)) D')) := by
        rw [usedOf_rep, hnl, hT'.out, hH'.out] at ho
        rcases ho with ⟨o1, o2, o3, o4⟩ | ⟨o1, o2, o3, o4, o5⟩ | ⟨o1, o2, o3, o4, o5⟩ | ⟨o1, o2, o3, o4, o5⟩
        · exact absurd hal.out o2
        · right
          have h1 := rooms_full hT1 hR'.out o3
          refine ⟨o1, h1, Lib.hid (by rw [o4]; exact hDl.out), Lib.hid ?_⟩
          rw [show min (i + 1) R = min i R by omega]; exact o5
        · left
          have h1 := rooms_fit hT1 hR'.out o3
          refine ⟨o1, h1, Lib.hid (by rw [o4 (by rw [hDl.out]; decide)]; exact hDl.out), Lib.hid ?_⟩
          rw [show min (i + 1) R = min i R + 1 by omega, List.replicate_succ']; exact o5
        · rw [hDl.out] at o4
          exact absurd o4 (by decide)
      clear ho hk5 hDb' hap hk hJ hDl
      obtain ⟨M, hM⟩ : ∃ M, min (i + 1) R = M := ⟨_, rfl⟩
      have hMi : (if (R : Int) < (i : Int) + 1 then (R : Int) else (i : Int) + 1) = (M : Int) := by split <;> omega
      rw [hM] at hcs
      have hM' := Lib.hid hM
      clear hM
      rcases hcs with ⟨rfl, hiR, hDl2, hJ2⟩ | ⟨rfl, hiR, hDl2, hJ2⟩
      · have l2 : (i : Int) < (R : Int) := by omega
        have hAll : Hid (Calls Try.prog 32 #[.pointer (some ⟨jb, 0, none⟩)] w5 fun e w' => ∃ p c, e = .returned (.slice p M c) ∧ Keeps (fun _ => False) w5 w') := Lib.hid ((all_js w1 w5 jb N 1 0 ev' _ D' hJ2).mono (fun e w' ⟨p, c, h1, _, h2⟩ => ⟨p, c, by rw [h1, List.length_replicate], h2⟩))
        go_wp2_with fail
        refine hAll.out.mono ?_
        rintro e w6 ⟨p, c, rfl, hk6⟩
        have hJ6 := Lib.hid (hJ2.out.keep hk6)
        have hk6' := Lib.hid (hk5'.out.trans hk6)
        clear hAll hk6 hJ2 hk5'
        go_wp2_with fail
        exact ⟨⟨i + 1, ev', D', by omega, by go_num, by rw [hM'.out]; exact hJ6, hDl2, hk6'⟩, by simp [intOf]; omega⟩
      · have l2 : ¬ ((i : Int) < (R : Int)) := by omega
        have hAll : Hid (Calls Try.prog 32 #[.pointer (some ⟨jb, 0, none⟩)] w5 fun e w' => ∃ p c, e = .returned (.slice p M c) ∧ Keeps (fun _ => False) w5 w') := Lib.hid ((all_js w1 w5 jb N 1 0 ev' _ D' hJ2).mono (fun e w' ⟨p, c, h1, _, h2⟩ => ⟨p, c, by rw [h1, List.length_replicate], h2⟩))
        go_wp2_with fail
        refine hAll.out.mono ?_
        rintro e w6 ⟨p, c, rfl, hk6⟩
        have hJ6 := Lib.hid (hJ2.out.keep hk6)
        have hk6' := Lib.hid (hk5'.out.trans hk6)
        clear hAll hk6 hJ2 hk5'
        go_wp2_with fail
        exact ⟨⟨i + 1, ev', D', by omega, by go_num, by rw [hM'.out]; exact hJ6, hDl2, hk6'⟩, by simp [intOf]; omega⟩
    · have l1 : ¬ ((i : Int) < (R : Int) + 2) := by omega
      go_wp2_with fail
      go_ret
      exact ⟨rfl, hk.out⟩
end
end Go.Proofs.Ytcmpbablmofofaa
