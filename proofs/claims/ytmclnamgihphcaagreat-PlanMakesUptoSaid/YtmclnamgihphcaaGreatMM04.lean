/- The document's Words, walked. -/
import Derived.Test.YtmclnamgihphcaaGreatMM03
import Derived.Laws.IdiomStrings
import Derived.StillTailTactics
set_option linter.unusedVariables false
set_option linter.unusedSimpArgs false
namespace Go.Proofs.YtmclnamgihphcaaGreat
open Go.RowKit

theorem row_len : wordRow.length = 66 := by decide +kernel
theorem getD_at (s : ByteArray) (j : Nat) (h : j < s.size) : s.data.toList.getD j 0 = s[j] := by
  have hl : j < s.data.toList.length := by simpa using h
  rw [List.getD_eq_getElem?_getD, List.getElem?_eq_getElem hl, Option.getD_some, Array.getElem_toList]; rfl
theorem nat_beq_no {a b : Nat} (h : a ≠ b) : (a == b) = false := by simpa using h
set_option maxRecDepth 100000 in
theorem rIn_any (c : UInt8) (w : World) :
    Calls Tryz.prog 94 #[.int .u8 (c.toNat : Nat)] w fun e w' => e = .returned (.bool (wordB c)) ∧ w = w' := by
  go_enter Tryz.func94, Tryz.ntmps94
  go_wp2
  generalize hS0 : ByteArray.mk _ = S
  have hrow : Hid (S.data.toList = wordRow) := Lib.hid (by rw [← hS0]; unfold wordRow; decide +kernel)
  have hS1 : Hid (S.size = 66) := Lib.hid (by rw [← hS0]; rfl)
  clear hS0
  go_loop [4] (fun iv => ∃ (j : Nat), j ≤ 66 ∧ iv = .int .i64 j ∧ Hid (∀ m, m < j → wordRow[m]? ≠ some c)) (fun iv => 66 - (intOf iv).toNat)
  case atStart => exact ⟨0, by omega, rfl, Lib.hid (by omega)⟩
  case round =>
    obtain ⟨j, hj, rfl, hno⟩ := hrel
    have hS := hS1.out
    by_cases hlt : j < 66
    · have hjs : j < S.size := by omega
      have hget : wordRow[j]? = some S[j] := by
        rw [← hrow.out, List.getElem?_eq_getElem (by simp; omega), Array.getElem_toList]; rfl
      by_cases he : S[j] = c
      · have h1 : (S[j].toNat == c.toNat) = true := by rw [he]; simp
        have h2 : ((S[j].toNat : Int) == (c.toNat : Int)) = true := by rw [he]; simp
        have hw : Hid (wordB c = true) := by
          refine Lib.hid ?_
          rw [← wordRow_has]
          rw [he] at hget
          simpa using List.mem_of_getElem? hget
        clear hS he hget
        go_wp2
        go_ret
        exact ⟨by rw [hw.out]; rfl, rfl⟩
      · have hne : S[j].toNat ≠ c.toNat := fun h => he (UInt8.toNat_inj.mp h)
        have h1 : (S[j].toNat == c.toNat) = false := by simpa using hne
        have h2 : ((S[j].toNat : Int) == (c.toNat : Int)) = false := by rw [beq_eq_false_iff_ne]; omega
        have hno' : Hid (∀ m, m < j + 1 → wordRow[m]? ≠ some c) := by
          refine Lib.hid fun m hm => ?_
          by_cases e : m = j
          · subst e; rw [hget]; intro h; injection h with h; exact he h
          · exact hno.out m (by omega)
        clear hS he hget hno hne
        go_wp2
        go_round
        case rel => exact ⟨j + 1, by omega, by go_num, hno'⟩
        case measure => simp [intOf]; omega
    · have hw : Hid (wordB c = false) := by
        refine Lib.hid ?_
        rw [← wordRow_has, ← Bool.not_eq_true]
        intro h
        have h : c ∈ wordRow := by simpa using h
        obtain ⟨m, hm⟩ := List.getElem?_of_mem h
        have hm2 := (List.getElem?_eq_some_iff.1 hm).1
        rw [row_len] at hm2
        exact hno.out m (by omega) hm
      have hS' : ¬ j < S.size := by omega
      clear hS hlt
      go_wp2
      go_ret
      exact ⟨by rw [hw.out]; rfl, rfl⟩
theorem rIn_r (c : UInt8) (r : Bool) (w : World) (hr : Hid (wordB c = r)) :
    Calls Tryz.prog 94 #[.int .u8 (c.toNat : Nat)] w fun e w' => e = .returned (.bool r) ∧ w = w' :=
  (rIn_any c w).mono fun e w' ⟨he, hw⟩ => ⟨by rw [he, hr.out], hw⟩

/-- string([]byte{c}), as the walk meets it -/
theorem conv_one (W : World) (c : Int) (x : UInt8) (hx : c = x.toNat) : (convert 79 9 (.slice (some ⟨W.heap.size, 0, none⟩) 1 1)).run Tryz.prog (W.alloc (.cells #[.int .u8 c] 5)) = .ok (.string ⟨#[x]⟩) (W.alloc (.cells #[.int .u8 c] 5)) := by
  have := run_convert_bytes_back (P := Tryz.prog) (W.alloc (.cells #[.int .u8 c] 5)) 79 9 5 ⟨W.heap.size, 0, none⟩ 1 [x] Tryz.underlying79 Tryz.underlying5 Tryz.underlying9 (fun j hj => by
    have hj0 : j = 0 := by simp at hj; exact hj
    subst hj0; subst hx
    rw [Addr.add_mid, cell_of_row _ _ _ _ _ _ (heap_alloc_last W _)]; simp)
  exact this

set_option maxRecDepth 100000 in
set_option maxHeartbeats 2000000 in
theorem rWords_any (s : ByteArray) (w : World) (hs : s.size ≤ 8796093022208) :
    Calls Tryz.prog 87 #[.string s] w (WordsPost s.data.toList w) := by
  obtain ⟨i0, hi, hz0, hz1, hz2⟩ := info_parts strInfoAll
  go_enter Tryz.func87, Tryz.ntmps87
  go_wp2
  go_loopw [5, 6] (fun v i wr => ∃ (k : Nat) (acc : List (List UInt8)), k ≤ s.size ∧ acc.length ≤ k ∧ i = .int .i64 k ∧ Hid (OwnStrs w wr v acc) ∧ Hid (Keeps (fun _ => False) w wr) ∧ Hid (lexL s.data.toList = (lexL (s.data.toList.drop k)).app acc)) (fun _ i _ => s.size - (intOf i).toNat)
  case atStart => exact ⟨0, [], by omega, by simp, rfl, Lib.hid (OwnStrs.nil _ _), Lib.hid (Keeps.refl _ _), Lib.hid (by rw [List.drop_zero, LexR.app_nil])⟩
  case round =>
    obtain ⟨k, acc, hk, hal, rfl, hown, hkeep, hlex⟩ := hrel
    by_cases hlt : k < s.size
    · have hd := drop_at s k hlt
      by_cases hb : blankB s[k] = true
      · have hlex' : Hid (lexL s.data.toList = (lexL (s.data.toList.drop (k + 1))).app acc) := by
          have := hlex.out
          rw [hd, lexL_blank hb] at this
          exact Lib.hid this
        clear hlex hd
        rw [blank_dec, decide_eq_true_eq] at hb
        rcases hb with h | h | h
        · have d1 : ((s[k].toNat : Int) == 32) = true := by rw [h]; rfl
          clear h
          go_wp2
          go_roundw
          case rel => exact ⟨k + 1, acc, by omega, by omega, by go_num, hown, hkeep, hlex'⟩
          case measure => simp [intOf]; omega
        · have d1 : ((s[k].toNat : Int) == 32) = false := by rw [h]; rfl
          have d2 : ((s[k].toNat : Int) == 9) = true := by rw [h]; rfl
          clear h
          go_wp2
          go_roundw
          case rel => exact ⟨k + 1, acc, by omega, by omega, by go_num, hown, hkeep, hlex'⟩
          case measure => simp [intOf]; omega
        · have d1 : ((s[k].toNat : Int) == 32) = false := by rw [h]; rfl
          have d2 : ((s[k].toNat : Int) == 9) = false := by rw [h]; rfl
          have d3 : ((s[k].toNat : Int) == 10) = true := by rw [h]; rfl
          clear h
          go_wp2
          go_roundw
          case rel => exact ⟨k + 1, acc, by omega, by omega, by go_num, hown, hkeep, hlex'⟩
          case measure => simp [intOf]; omega
      have hb' : blankB s[k] = false := by simpa using hb
      have hbn := hb'
      rw [blank_dec, decide_eq_false_iff_not] at hbn
      have d1 : ((s[k].toNat : Int) == 32) = false := by rw [beq_eq_false_iff_ne]; omega
      have d2 : ((s[k].toNat : Int) == 9) = false := by rw [beq_eq_false_iff_ne]; omega
      have d3 : ((s[k].toNat : Int) == 10) = false := by rw [beq_eq_false_iff_ne]; omega
      clear hb hbn
      by_cases hc : s[k] = 35
      · have hcl := clen_le (s.data.toList.drop k)
        simp at hcl
        have hlex' : Hid (lexL s.data.toList = (lexL (s.data.toList.drop (k + clen (s.data.toList.drop k)))).app acc) := by
          have := hlex.out
          rw [hd, lexL_hash' hc] at this
          refine Lib.hid (this.trans ?_)
          have e : k + clen (s.data.toList.drop k) = k + 1 + clen (s.data.toList.drop (k + 1)) := by
            rw [hd, clen_cons (by rw [hc]; decide)]; omega
          rw [e, List.drop_drop]
        have hpos : 0 < clen (s.data.toList.drop k) := by rw [hd, clen_cons (by rw [hc]; decide)]; omega
        have d4 : ((s[k].toNat : Int) == 35) = true := by rw [hc]; rfl
        obtain ⟨r, hr⟩ : ∃ r, k + clen (s.data.toList.drop k) = r := ⟨_, rfl⟩
        rw [hr] at hlex'
        have hr1 : k < r := by omega
        have hr2 : r ≤ s.size := by omega
        have hr' := Lib.hid hr; clear hr hcl hpos hc hlex hd hb'
        obtain ⟨wo, hwo⟩ : ∃ wo : World, wo = wr := ⟨_, rfl⟩
        go_wp2
        go_loop [6] (fun i => ∃ j : Nat, k ≤ j ∧ j ≤ s.size ∧ i = .int .i64 j ∧ Hid (j + clen (s.data.toList.drop j) = r)) (fun i => s.size - (intOf i).toNat)
        case atStart => exact ⟨k, by omega, hk, rfl, hr'⟩
        case round =>
          obtain ⟨j, hj1, hj2, rfl, hrel⟩ := hrel
          by_cases hjlt : j < s.size
          · have hd := drop_at s j hjlt
            by_cases hw : s[j] = 10
            · have hrel' : j = r := by
                have := hrel.out
                rw [hd, hw, clen_cons_no] at this
                omega
              have hN : ((s[j].toNat : Int) != 10) = false := by rw [hw]; rfl
              have hre := Lib.hid hrel'; clear hrel hrel' hd hw
              go_wp2
              go_roundw
              case rel => exact ⟨j, acc, by omega, by omega, rfl, hown, hkeep, by rw [hre.out]; exact hlex'⟩
              case measure => have := hre.out; simp [intOf]; omega
            · have hrel' : Hid (j + 1 + clen (s.data.toList.drop (j + 1)) = r) := by
                have := hrel.out
                rw [hd, clen_cons hw] at this
                exact Lib.hid (by omega)
              clear hrel hd
              have hN : ((s[j].toNat : Int) != 10) = true := by
                rw [bne_iff_ne]; intro h; apply hw; apply UInt8.toNat_inj.mp; show s[j].toNat = 10; omega
              clear hw
              go_wp2
              go_round
              case rel => exact ⟨j + 1, by omega, by omega, by go_num, hrel'⟩
              case measure => simp [intOf]; omega
          · have hrel' : j = r := by
              have := hrel.out
              obtain rfl : j = s.size := by omega
              rw [drop_end] at this
              simpa [clen] using this
            have hre := Lib.hid hrel'; clear hrel hrel'
            go_wp2
            go_roundw
            case rel => exact ⟨j, acc, by omega, by omega, rfl, hown, hkeep, by rw [hre.out]; exact hlex'⟩
            case measure => have := hre.out; simp [intOf]; omega
      have d4 : ((s[k].toNat : Int) == 35) = false := by
        rw [beq_eq_false_iff_ne]; intro h; apply hc; apply UInt8.toNat_inj.mp; show s[k].toNat = 35; omega
      by_cases hsg : signB s[k] = true
      · have hlex' : Hid (lexL s.data.toList = (lexL (s.data.toList.drop (k + 1))).app (acc ++ [[s[k]]])) := by
          have := hlex.out
          rw [hd, lexL_sign hsg, LexR.app_app] at this
          exact Lib.hid this
        clear hlex hc hd hb'
        have hcv := conv_one wr (s[k].toNat : Nat) s[k] rfl
        rw [sign_dec, decide_eq_true_eq] at hsg
        rcases hsg with h | h | h
        · skip
          have d5 : ((s[k].toNat : Int) == 123) = true := by rw [h]; rfl
          clear h
          go_wp2_with ((with_reducible refine at_slot 61 ?_); refine wpList_append_sep rfl (.tmp 56) (.tmp 60) 38 rfl 9 i0 (.string ⟨#[]⟩) 1 16 Tryz.underlying38 hi hz0 hz1 hz2 rfl (by decide) _ acc.length (acc.map strv) rfl ((hown.out.1.alloc _).alloc _) ⟨wr.heap.size + 1, 0, none⟩ 1 1 [.string ⟨#[s[k]]⟩] rfl rfl (cells_one (by simp) _ _) (by simp [Value.oneCell']) (by unfold maxLen; omega) (by omega) ?_; intro q d w1 ho1 hg1 hs1; have ho := Lib.hid ho1; clear ho1; have hg := Lib.hid hg1; clear hg1)
          have hR := OwnStrs.push hown.out [s[k]] ((hkeep.out.alloc _).alloc _) hg.out ho.out hs1.out
          go_roundw
          case rel => exact ⟨k + 1, acc ++ [[s[k]]], by omega, by simp; omega, by go_num, Lib.hid hR.1, Lib.hid hR.2, hlex'⟩
          case measure => simp [intOf]; omega
        · skip
          have d5 : ((s[k].toNat : Int) == 123) = false := by rw [h]; rfl
          have d6 : ((s[k].toNat : Int) == 125) = true := by rw [h]; rfl
          clear h
          go_wp2_with ((with_reducible refine at_slot 61 ?_); refine wpList_append_sep rfl (.tmp 56) (.tmp 60) 38 rfl 9 i0 (.string ⟨#[]⟩) 1 16 Tryz.underlying38 hi hz0 hz1 hz2 rfl (by decide) _ acc.length (acc.map strv) rfl ((hown.out.1.alloc _).alloc _) ⟨wr.heap.size + 1, 0, none⟩ 1 1 [.string ⟨#[s[k]]⟩] rfl rfl (cells_one (by simp) _ _) (by simp [Value.oneCell']) (by unfold maxLen; omega) (by omega) ?_; intro q d w1 ho1 hg1 hs1; have ho := Lib.hid ho1; clear ho1; have hg := Lib.hid hg1; clear hg1)
          have hR := OwnStrs.push hown.out [s[k]] ((hkeep.out.alloc _).alloc _) hg.out ho.out hs1.out
          go_roundw
          case rel => exact ⟨k + 1, acc ++ [[s[k]]], by omega, by simp; omega, by go_num, Lib.hid hR.1, Lib.hid hR.2, hlex'⟩
          case measure => simp [intOf]; omega
        · skip
          have d5 : ((s[k].toNat : Int) == 123) = false := by rw [h]; rfl
          have d6 : ((s[k].toNat : Int) == 125) = false := by rw [h]; rfl
          have d7 : ((s[k].toNat : Int) == 59) = true := by rw [h]; rfl
          clear h
          go_wp2_with ((with_reducible refine at_slot 61 ?_); refine wpList_append_sep rfl (.tmp 56) (.tmp 60) 38 rfl 9 i0 (.string ⟨#[]⟩) 1 16 Tryz.underlying38 hi hz0 hz1 hz2 rfl (by decide) _ acc.length (acc.map strv) rfl ((hown.out.1.alloc _).alloc _) ⟨wr.heap.size + 1, 0, none⟩ 1 1 [.string ⟨#[s[k]]⟩] rfl rfl (cells_one (by simp) _ _) (by simp [Value.oneCell']) (by unfold maxLen; omega) (by omega) ?_; intro q d w1 ho1 hg1 hs1; have ho := Lib.hid ho1; clear ho1; have hg := Lib.hid hg1; clear hg1)
          have hR := OwnStrs.push hown.out [s[k]] ((hkeep.out.alloc _).alloc _) hg.out ho.out hs1.out
          go_roundw
          case rel => exact ⟨k + 1, acc ++ [[s[k]]], by omega, by simp; omega, by go_num, Lib.hid hR.1, Lib.hid hR.2, hlex'⟩
          case measure => simp [intOf]; omega
      have hsg' : signB s[k] = false := by simpa using hsg
      have hsn := hsg'
      rw [sign_dec, decide_eq_false_iff_not] at hsn
      have d5 : ((s[k].toNat : Int) == 123) = false := by rw [beq_eq_false_iff_ne]; omega
      have d6 : ((s[k].toNat : Int) == 125) = false := by rw [beq_eq_false_iff_ne]; omega
      have d7 : ((s[k].toNat : Int) == 59) = false := by rw [beq_eq_false_iff_ne]; omega
      clear hsg hsn
      by_cases hwb : wordB s[k] = true
      · have hwl := wlen_le (s.data.toList.drop k)
        simp at hwl
        have hpos : 1 ≤ wlen (s.data.toList.drop k) := by rw [hd, wlen_cons hwb]; omega
        have hlexd := hlex.out
        obtain ⟨r, hr⟩ : ∃ r, k + wlen (s.data.toList.drop k) = r := ⟨_, rfl⟩
        have hx : Hid (Value.string (s.extract k r) = strv ((s.data.toList.drop k).take (wlen (s.data.toList.drop k)))) := by
          refine Lib.hid ?_
          rw [extract_strv, ← hr, Nat.add_sub_cancel_left]
        have hr1 : k + 1 ≤ r := by omega
        have hr2 : r ≤ s.size := by omega
        have hlex1 : Hid (r - k ≤ 31 → lexL s.data.toList = (lexL (s.data.toList.drop r)).app (acc ++ [(s.data.toList.drop k).take (wlen (s.data.toList.drop k))])) := by
          refine Lib.hid fun h31 => ?_
          rw [hd, lexL_word hb' hc hsg' (by rw [← hd]; exact hpos) (by rw [← hd]; omega), ← hd, List.drop_drop, LexR.app_app] at hlexd
          rw [hlexd, hr]
        have hlex2 : Hid (31 < r - k → lexL s.data.toList = .bad (s.data.toList.length - k)) := by
          refine Lib.hid fun h31 => ?_
          rw [hd, lexL_bad hb' hc hsg' (by rw [← hd]; omega)] at hlexd
          refine hlexd.trans ?_
          unfold LexR.app
          congr 1
          simp; omega
        have hB := Lib.hid hwb
        have hr' := Lib.hid hr; clear hr hwl hc hlex hlexd hd hb' hsg' hwb hpos
        obtain ⟨x, hxe⟩ : ∃ x, x = (s.data.toList.drop k).take (wlen (s.data.toList.drop k)) := ⟨_, rfl⟩
        rw [← hxe] at hlex1 hx
        clear hxe
        go_wp2_with (go_at_call 94; refine (rIn_r _ true _ hB).mono ?_; rintro e w' ⟨rfl, rfl⟩)
        go_loop [8] (fun i => ∃ j : Nat, k ≤ j ∧ j ≤ s.size ∧ i = .int .i64 j ∧ Hid (j + wlen (s.data.toList.drop j) = r)) (fun i => s.size - (intOf i).toNat)
        case atStart => exact ⟨k, by omega, hk, rfl, hr'⟩
        case round =>
          obtain ⟨j, hj1, hj2, rfl, hrel⟩ := hrel
          by_cases hjlt : j < s.size ∧ wordB (s.data.toList.getD j 0) = true
          · obtain ⟨hjs, hw⟩ := hjlt
            have hd := drop_at s j hjs
            have hg : s.data.toList.getD j 0 = s[j] := getD_at s j hjs
            rw [hg] at hw
            have hrel' : Hid (j + 1 + wlen (s.data.toList.drop (j + 1)) = r) := by
              have := hrel.out
              rw [hd, wlen_cons hw] at this
              exact Lib.hid (by omega)
            have hW := Lib.hid hw
            clear hrel hd hg hw
            go_wp2_with (go_at_call 94; refine (rIn_r _ true _ hW).mono ?_; rintro e w' ⟨rfl, rfl⟩)
            go_round
            case rel => exact ⟨j + 1, by omega, by omega, by go_num, hrel'⟩
            case measure => simp [intOf]; omega
          · have hre : Hid (j = r) := by
              have := hrel.out
              by_cases hjs : j < s.size
              · have hd := drop_at s j hjs
                have hg : s.data.toList.getD j 0 = s[j] := getD_at s j hjs
                rw [hd, wlen_cons_no (by rw [← hg]; simpa [hjs] using hjlt)] at this
                exact Lib.hid (by omega)
              · obtain rfl : j = s.size := by omega
                rw [drop_end] at this
                exact Lib.hid (by simpa [wlen] using this)
            have hW : j < s.size → Hid (∃ h : j < s.size, wordB s[j] = false) := fun hjs => Lib.hid ⟨hjs, by
              have hg : s.data.toList.getD j 0 = s[j] := getD_at s j hjs
              rw [← hg]; simpa [hjs] using hjlt⟩
            have hjr : j = r := hre.out
            subst hjr
            clear hre hrel hjlt
            by_cases hjs : j < s.size
            · have hW1 : Hid (wordB s[j] = false) := Lib.hid (hW hjs).out.2
              have hW' := Lib.hid hW; clear hW
              by_cases h31 : j - k ≤ 31
              · have hlex' := Lib.hid (hlex1.out h31)
                have h31' : (j : Int) - k ≤ 31 := by omega
                go_wp2_with (first | (go_at_call 94; refine (rIn_r _ false _ hW1).mono ?_; rintro e w' ⟨rfl, rfl⟩) | ((with_reducible refine at_slot 91 ?_); refine wpList_append_sep rfl (.tmp 85) (.tmp 90) 38 rfl 9 i0 (.string ⟨#[]⟩) 1 16 Tryz.underlying38 hi hz0 hz1 hz2 rfl (by decide) _ acc.length (acc.map strv) rfl (hown.out.1.alloc _) ⟨wr.heap.size, 0, none⟩ 1 1 [.string (s.extract k j)] rfl rfl (cells_one rfl _ _) (by simp [Value.oneCell']) (by unfold maxLen; omega) (by omega) ?_; intro q d w1 ho1 hg1 hs1; have ho := Lib.hid ho1; clear ho1; have hg := Lib.hid hg1; clear hg1))
                have hR := OwnStrs.push hown.out x (hkeep.out.alloc _) hg.out (hx.out ▸ ho.out) hs1.out
                go_roundw
                case rel => exact ⟨j, acc ++ [x], by omega, by simp; omega, rfl, Lib.hid hR.1, Lib.hid hR.2, hlex'⟩
                case measure => simp [intOf]; omega
              · have hbad := Lib.hid (hlex2.out (by omega))
                have h31' : 31 < (j : Int) - k := by omega
                go_wp2_with (go_at_call 94; refine (rIn_r _ false _ hW1).mono ?_; rintro e w' ⟨rfl, rfl⟩)
                go_ret3
                exact WordsPost.bad hbad.out (by simp; omega) hkeep.out
            · have hW' := Lib.hid hW; clear hW
              by_cases h31 : j - k ≤ 31
              · have hlex' := Lib.hid (hlex1.out h31)
                have h31' : (j : Int) - k ≤ 31 := by omega
                go_wp2_with ((with_reducible refine at_slot 91 ?_); refine wpList_append_sep rfl (.tmp 85) (.tmp 90) 38 rfl 9 i0 (.string ⟨#[]⟩) 1 16 Tryz.underlying38 hi hz0 hz1 hz2 rfl (by decide) _ acc.length (acc.map strv) rfl (hown.out.1.alloc _) ⟨wr.heap.size, 0, none⟩ 1 1 [.string (s.extract k j)] rfl rfl (cells_one rfl _ _) (by simp [Value.oneCell']) (by unfold maxLen; omega) (by omega) ?_; intro q d w1 ho1 hg1 hs1; have ho := Lib.hid ho1; clear ho1; have hg := Lib.hid hg1; clear hg1)
                have hR := OwnStrs.push hown.out x (hkeep.out.alloc _) hg.out (hx.out ▸ ho.out) hs1.out
                go_roundw
                case rel => exact ⟨j, acc ++ [x], by omega, by simp; omega, rfl, Lib.hid hR.1, Lib.hid hR.2, hlex'⟩
                case measure => simp [intOf]; omega
              · have hbad := Lib.hid (hlex2.out (by omega))
                have h31' : 31 < (j : Int) - k := by omega
                go_wp2
                go_ret3
                exact WordsPost.bad hbad.out (by simp; omega) hkeep.out
      · have hbad : Hid (lexL s.data.toList = .bad (s.data.toList.length - k)) := by
          have := hlex.out
          rw [hd, lexL_bad hb' hc hsg' (by rw [wlen_cons_no (by simpa using hwb)]; omega)] at this
          refine Lib.hid (this.trans ?_)
          unfold LexR.app
          congr 1
          simp; omega
        have hB := Lib.hid (show wordB s[k] = false by simpa using hwb)
        clear hc hlex hd hb' hsg' hwb
        go_wp2_with (go_at_call 94; refine (rIn_r _ false _ hB).mono ?_; rintro e w' ⟨rfl, rfl⟩)
        go_ret3
        exact WordsPost.bad hbad.out (by simp; omega) hkeep.out
    · have hlex' : Hid (lexL s.data.toList = .ok acc) := by
        have := hlex.out
        obtain rfl : k = s.size := by omega
        rw [drop_end, lexL_nil] at this
        exact Lib.hid (by rw [this]; simp [LexR.app])
      clear hlex
      go_wp2
      go_ret3
      exact WordsPost.good hlex'.out (by simp) hown.out hkeep.out
end Go.Proofs.YtmclnamgihphcaaGreat
/- Rows of texts; IsWord. -/
namespace Go.Proofs.YtmclnamgihphcaaGreat
open Go.RowKit

def StrsAt (w : World) (v : Value) (xs : List (List UInt8)) : Prop := ∃ p c, v = .slice p xs.length c ∧ (0 < xs.length → ∃ g o, p = some ⟨g, o, none⟩ ∧ w.rangeAt g o (xs.map strv))
theorem OwnStrs.at {w0 w : World} {v : Value} {xs : List (List UInt8)} (h : OwnStrs w0 w v xs) : StrsAt w v xs := by
  obtain ⟨p, c, rfl⟩ := h.slice
  refine ⟨p, c, rfl, fun h0 => ?_⟩
  rcases h.1.2 with ⟨_, h2⟩ | ⟨g, cap, cur, he, _⟩
  · first | omega | (simp at h2; subst h2; simp at h0)
  · injection he with e1 e2 e3
    subst e1
    refine ⟨g, 0, rfl, fun j u hu => ?_⟩
    have := h.1.cells (g := g) rfl j u hu
    rw [Addr.add_mid] at this
    exact this
theorem StrsAt.keep {F : Nat → Prop} {w w' : World} {v : Value} {xs : List (List UInt8)} (h : StrsAt w v xs) (k : Keeps F w w') (hF : 0 < xs.length → ∀ i, v.ownBlock = some i → ¬ F i) : StrsAt w' v xs := by
  obtain ⟨p, c, rfl, h⟩ := h
  refine ⟨p, c, rfl, fun h0 => ?_⟩
  obtain ⟨g, o, rfl, hr⟩ := h h0
  exact ⟨g, o, rfl, k.rangeAt hr (hF h0 g rfl)⟩

theorem ba_toList (x : List UInt8) : (⟨x.toArray⟩ : ByteArray).toList = x := by simp

set_option maxRecDepth 100000 in
theorem isWord_any (s : ByteArray) (r : Bool) (w : World) (hs : s.size ≤ 9223372036854775807) (hr : Hid (isWordB s.data.toList = r)) :
    Calls Tryz.prog 89 #[.string s] w fun e w' => e = .returned (.bool r) ∧ w = w' := by
  have hiff := isWord_iff (s := s.data.toList)
  rw [hr.out] at hiff
  have hl : s.data.toList.length = s.size := by simp
  rw [hl] at hiff
  by_cases h1 : 1 ≤ s.size ∧ s.size ≤ 31
  · have hf : Hid (decide ((1 : Int) ≤ (s.size : Int) ∧ (s.size : Int) ≤ 31) = true) := Lib.hid (by simp; omega)
    obtain ⟨m, hm⟩ : ∃ m, 0 + wlen (s.data.toList.drop 0) = m := ⟨_, rfl⟩
    have hm2 : wlen s.data.toList = m := by simpa using hm
    rw [hm2] at hiff
    by_cases h2 : m = s.size
    · obtain rfl : r = true := by rw [hiff]; simp [h1, h2]
      have h3 : ((m : Int) == (s.size : Int)) = true := by rw [h2]; simp
      have h4 : (m == s.size) = true := by simp [h2]
      have hm' := Lib.hid hm; clear hm hm2 hiff hl h1 h2
      go_enter Tryz.func89, Tryz.ntmps89
      go_wp2_with (first | (go_at_call 96; refine (fits_r _ true _ (by omega) hf).mono ?_; rintro e w' ⟨rfl, rfl⟩) | (go_at_call 97; refine (wordEnd_any s 0 m _ hm' hs (by omega)).mono ?_; rintro e w' ⟨rfl, rfl⟩))
      go_ret
      exact ⟨rfl, rfl⟩
    · obtain rfl : r = false := by rw [hiff]; simp [h2]
      have h3 : ((m : Int) == (s.size : Int)) = false := by rw [beq_eq_false_iff_ne]; omega
      have h4 : (m == s.size) = false := by simpa using h2
      have hm' := Lib.hid hm; clear hm hm2 hiff hl h1 h2
      go_enter Tryz.func89, Tryz.ntmps89
      go_wp2_with (first | (go_at_call 96; refine (fits_r _ true _ (by omega) hf).mono ?_; rintro e w' ⟨rfl, rfl⟩) | (go_at_call 97; refine (wordEnd_any s 0 m _ hm' hs (by omega)).mono ?_; rintro e w' ⟨rfl, rfl⟩))
      go_ret
      exact ⟨rfl, rfl⟩
  · have hf : Hid (decide ((1 : Int) ≤ (s.size : Int) ∧ (s.size : Int) ≤ 31) = false) := Lib.hid (by simp; omega)
    obtain rfl : r = false := by rw [hiff, decide_eq_false_iff_not]; rintro ⟨a, b, _⟩; exact h1 ⟨a, b⟩
    clear hiff hl h1
    go_enter Tryz.func89, Tryz.ntmps89
    go_wp2_with (go_at_call 96; refine (fits_r _ false _ (by omega) hf).mono ?_; rintro e w' ⟨rfl, rfl⟩)
    go_ret
    exact ⟨rfl, rfl⟩

theorem strs_lit (w w1 : World) (xs : List (List UInt8)) (n : Nat) (hn : n = xs.length) (hc : ∀ j u, (xs.map strv)[j]? = some u → w.cell? ⟨w1.heap.size, j, none⟩ = some u) : StrsAt w (.slice (some ⟨w1.heap.size, 0, none⟩) n n) xs := by
  subst hn
  exact ⟨_, _, rfl, fun _ => ⟨_, _, rfl, fun j u hu => by rw [Nat.zero_add]; exact hc j u hu⟩⟩
theorem OwnStrs.after {w0 w w' : World} {v : Value} {xs : List (List UInt8)} (h : OwnStrs w0 w v xs) {F : Nat → Prop} (k : Keeps F w w') (hF : ∀ i, F i → i < w0.heap.size) : StrsAt w' v xs :=
  h.at.keep k (fun _ i e f => by have := h.2 i e; have := hF i f; omega)

end Go.Proofs.YtmclnamgihphcaaGreat
/- The document's Parts, walked. -/
namespace Go.Proofs.YtmclnamgihphcaaGreat
open Go.RowKit

theorem OwnStrs.one (w : World) (x : List UInt8) : OwnStrs w (w.alloc (.cells #[strv x] 9)) (.slice (some ⟨w.heap.size, 0, none⟩) 1 1) [x] :=
  ⟨⟨rfl, .inr ⟨w.heap.size, 1, #[strv x], rfl, Nat.zero_le _, heap_alloc_last w _, Nat.le_refl _, by unfold maxLen; omega, rfl, rfl⟩⟩, fun k e => by
    have e : some w.heap.size = some k := e
    injection e with e; omega⟩
theorem OwnStrs.last {w0 w : World} {v : Value} {ps : List (List UInt8)} {p : List UInt8} (h : OwnStrs w0 w v (ps ++ [p])) :
    ∃ g c, v = .slice (some ⟨g, 0, none⟩) (ps.length + 1) c ∧ w0.heap.size ≤ g ∧ w.cell? ⟨g, ps.length, none⟩ = some (strv p) ∧ w.frozen? ⟨g, ps.length, none⟩ = false ∧
      ∀ (q : List UInt8) (w' : World), (∀ k, k < w.heap.size → w'.heap[k]? = w.heap[k]?) → OwnStrs w0 (w'.setCell ⟨g, ps.length, none⟩ (strv q)) v (ps ++ [q]) := by
  rcases h.1.2 with ⟨_, h2⟩ | ⟨g, cap, cur, rfl, hb, hgg, hnc, hcm, hcs, htake⟩
  · simp at h2
  · have hl : (ps ++ [p]).length = ps.length + 1 := by simp
    rw [hl] at hnc htake h
    refine ⟨g, cap, by rw [hl], h.2 g rfl, ?_, ?_, ?_⟩
    · have := h.1.cells (g := g) (by simp [Value.ownBlock]) ps.length (strv p) (by simp)
      rw [Addr.add_mid] at this
      simpa using this
    · simp [World.frozen?, hgg]
    · intro q w' hw'
      refine ⟨⟨by simp, .inr ⟨g, cap, cur.setIfInBounds ps.length (strv q), by simp, hb, ?_, by simpa using hnc, hcm, by simp [hcs], ?_⟩⟩, h.2⟩
      · have hlt := lt_of_block hgg
        have hg' := (hw' g hlt).trans hgg
        simp [World.setCell, Array.getElem?_modify, hg']
      · have e : ((ps ++ [p]).map strv).set ps.length (strv q) = (ps ++ [q]).map strv := by
          rw [List.map_append, List.map_append, List.set_append_right _ _ (by simp)]
          simp
        rw [← e, ← htake]
        simp [List.take_set]

def PartsPost (t : List UInt8) (c : UInt8) (w0 : World) (e : Ending) (w' : World) : Prop :=
  ∃ p d, e = .returned (.slice p (partsL c t).length d) ∧ OwnStrs w0 w' (.slice p (partsL c t).length d) (partsL c t) ∧ Keeps (fun _ => False) w0 w'
theorem PartsPost.mk {t : List UInt8} {c : UInt8} {w0 w' : World} {v : Value} (h : OwnStrs w0 w' v (partsL c t)) (k : Keeps (fun _ => False) w0 w') : PartsPost t c w0 (.returned v) w' := by
  obtain ⟨p, d, rfl⟩ := h.slice
  exact ⟨p, d, rfl, h, k⟩
theorem partsL_len (c : UInt8) (l : List UInt8) : (partsL c l).length ≤ l.length + 1 := by
  induction l with
  | nil => simp [partsL]
  | cons b l ih =>
    unfold partsL
    split
    · simp; omega
    · cases hp : partsL c l with
      | nil => simp
      | cons p ps => rw [hp] at ih; simp at ih ⊢; omega
theorem partsL_each (c : UInt8) (l : List UInt8) : ∀ p ∈ partsL c l, p.length ≤ l.length := by
  induction l with
  | nil => simp [partsL]
  | cons b l ih =>
    unfold partsL
    split
    · intro p hp
      rcases List.mem_cons.1 hp with rfl | hp
      · simp
      · have := ih p hp; simp; omega
    · cases hp : partsL c l with
      | nil => simp
      | cons q ps =>
        rw [hp] at ih
        intro p hpm
        rcases List.mem_cons.1 hpm with rfl | hpm
        · have := ih q (by simp); simp; omega
        · have := ih p (by simp [hpm]); simp; omega

set_option maxRecDepth 100000 in
set_option maxHeartbeats 1000000 in
theorem parts_any (s : ByteArray) (c : UInt8) (w : World) (hs : s.size ≤ 8796093022000) :
    Calls Tryz.prog 75 #[.string s, .int .u8 (c.toNat : Nat)] w (PartsPost s.data.toList c w) := by
  obtain ⟨i0, hi, hz0, hz1, hz2⟩ := info_parts strInfoAll
  go_enter Tryz.func75, Tryz.ntmps75
  go_wp2
  go_loopw [5, 6] (fun v i wr => ∃ (k : Nat), k ≤ s.size ∧ i = .int .i64 k ∧ Hid (OwnStrs w wr v (partsL c (s.data.toList.take k))) ∧ Hid (Keeps (fun _ => False) w wr)) (fun _ i _ => s.size - (intOf i).toNat)
  case atStart => exact ⟨0, by omega, rfl, Lib.hid (OwnStrs.one w []), Lib.hid ((Keeps.refl _ _).alloc _)⟩
  case round =>
    obtain ⟨k, hk, rfl, hown, hkeep⟩ := hrel
    by_cases hlt : k < s.size
    · have hl : k < s.data.toList.length := by simpa using hlt
      have hgk : s.data.toList[k] = s[k] := by rw [Array.getElem_toList]; rfl
      have hts : s.data.toList.take (k + 1) = s.data.toList.take k ++ [s[k]] := by rw [List.take_succ_eq_append_getElem hl, hgk]
      have hsn := partsL_snoc c s[k] (s.data.toList.take k)
      rw [← hts] at hsn
      have hpl := partsL_len c (s.data.toList.take k)
      have hpe := partsL_each c (s.data.toList.take k)
      obtain ⟨ps, hps⟩ : ∃ ps, ps = partsL c (s.data.toList.take k) := ⟨_, rfl⟩
      rw [← hps] at hown hsn hpl hpe
      have hpl' : ps.length ≤ k + 1 := by simp at hpl; omega
      have hne : ps ≠ [] := by rw [hps]; exact partsL_ne _ _
      clear hps hts hgk hpl
      by_cases hc : s[k] = c
      · rw [if_pos hc] at hsn
        have d1 : (s[k].toNat == c.toNat) = true := by rw [hc]; simp
        have d2 : ((s[k].toNat : Int) == (c.toNat : Int)) = true := by rw [hc]; simp
        have hsn' := Lib.hid hsn; clear hsn hc hne hpe
        go_wp2_with ((with_reducible refine at_slot 21 ?_); refine wpList_append_sep rfl (.tmp 19) (.tmp 20) 38 rfl 9 i0 (.string ⟨#[]⟩) 1 16 Tryz.underlying38 hi hz0 hz1 hz2 rfl (by decide) _ ps.length (ps.map strv) rfl (hown.out.1.alloc _) ⟨wr.heap.size, 0, none⟩ 1 1 [strv []] rfl rfl (cells_one rfl _ _) (by simp [Value.oneCell', strv]) (by unfold maxLen; omega) (by omega) ?_; intro q d w1 ho1 hg1 hs1; have ho := Lib.hid ho1; clear ho1; have hg := Lib.hid hg1; clear hg1)
        have hR := OwnStrs.push hown.out [] (hkeep.out.alloc _) hg.out ho.out hs1.out
        go_roundw
        case rel => exact ⟨k + 1, by omega, by go_num, by rw [hsn'.out]; exact Lib.hid hR.1, Lib.hid hR.2⟩
        case measure => simp [intOf]; omega
      · rw [if_neg hc] at hsn
        have d1 : (s[k].toNat == c.toNat) = false := by rw [beq_eq_false_iff_ne]; exact fun h => hc (UInt8.toNat_inj.mp h)
        have d2 : ((s[k].toNat : Int) == (c.toNat : Int)) = false := by rw [beq_eq_false_iff_ne]; exact fun h => hc (UInt8.toNat_inj.mp (by omega))
        obtain ⟨qs, q, rfl⟩ : ∃ qs q, ps = qs ++ [q] := ⟨ps.dropLast, ps.getLast hne, (List.dropLast_concat_getLast hne).symm⟩
        rw [pushLast_snoc] at hsn
        obtain ⟨g, cp, rfl, hgb, hcell, hfro, hset⟩ := hown.out.last
        have hql := hpe q (by simp)
        obtain ⟨X, hX⟩ : ∃ X : ByteArray, X = ⟨q.toArray⟩ := ⟨_, rfl⟩
        have hXs : X.size ≤ s.size := by rw [hX]; simp at hql; show q.toArray.size ≤ _; simp; omega
        have hcell' : wr.cell? ⟨g, qs.length, none⟩ = some (.string X) := by rw [hcell, hX]; rfl
        have hnew : Hid (strv (q ++ [s[k]]) = .string (X ++ s.extract k (k + 1))) := Lib.hid (by
          unfold strv
          have e := Lib.extract_eq s k (k + 1)
          rw [drop_at s k hlt, show k + 1 - k = 1 by omega] at e
          rw [e, hX]
          congr 1)
        have hqs : qs.length ≤ k := by simp at hpl'; omega
        have hset' := Lib.hid hset; clear hset
        have hsn' := Lib.hid hsn; have hX' := Lib.hid hX; clear hsn hX hc hne hpe hcell hql hpl'
        go_wp2_with fail
        have l1 : IntKind.i64.wrap (qs.length : Int) = (qs.length : Int) := IntWalk.i64_in _ (by omega)
        have l2 : IntKind.i64.wrap ((k : Int) + 1) = (k : Int) + 1 := IntWalk.i64_in _ (by omega)
        have l3 : (0 : Int) ≤ (qs.length : Int) := by omega
        have l4 : (qs.length : Int) < (qs.length : Int) + 1 := by omega
        have l5 : (0 : Int) ≤ (k : Int) + 1 := by omega
        have l6 : ((k : Int) + 1).toNat = k + 1 := by omega
        have l7 : (k : Int) ≤ (k : Int) + 1 := by omega
        have l8 : (k : Int) + 1 ≤ s.size := by omega
        have l9 : ¬ (9223372036854775807 < X.size + (min (k + 1) s.size - k)) := by omega
        have l10 : ∀ W : World, (Op.stringOp .add X (s.extract k (k + 1))).run Tryz.prog W = .ok (.string (X ++ s.extract k (k + 1))) W := fun W => run_string_add_sum W _ _ (by rw [ByteArray.size_extract]; omega)
        go_still_tail 17, (by kernel_rfl)
        change wpList _ _ _ _ _ wr.drew
        clear l1 l2 l3 l4 l5 l6 l7 l8 l9 l10
        go_wp2_with fail
        have hR := hset'.out (q ++ [s[k]]) wr (fun _ _ => rfl)
        rw [hnew.out, ← hsn'.out] at hR
        exact ⟨⟨k + 1, by omega, by go_num, Lib.hid ⟨hR.1, hR.2⟩, Lib.hid ((hkeep.out.setCell (p := ⟨g, qs.length, none⟩) (.inr hgb) _).drew)⟩, by simp [intOf]; omega⟩
    · obtain rfl : k = s.size := by omega
      have ht : s.data.toList.take s.size = s.data.toList := List.take_of_length_le (by simp)
      rw [ht] at hown
      clear ht
      go_wp2
      go_ret
      exact PartsPost.mk hown.out hkeep.out
end Go.Proofs.YtmclnamgihphcaaGreat
