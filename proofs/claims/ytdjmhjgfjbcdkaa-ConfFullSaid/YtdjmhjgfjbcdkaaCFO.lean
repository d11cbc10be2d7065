/- ConfFull's walk (gen_cfo.py). -/
import Derived.Test.YtdjmhjgfjbcdkaaCFN
import Derived.Test.YtdjmhjgfjbcdkaaCFH
set_option linter.unusedVariables false
set_option linter.unusedSimpArgs false
namespace Go.Proofs.Ytdjmhjgfjbcdkaa
open Go.RowKit

theorem lineI_text (k : Nat) (D NN : ByteArray) (v : List UInt8) (V : ByteArray) (hk : k < 1000) (hD : D = ⟨(digs k).toArray⟩) (hN : NN = ⟨#[48, 46, 48, 46, 48, 46]⟩ ++ D) (hV : V.data.toList = v) : (⟨1, NN.data.toList, (⟨#[99, 111, 115, 116]⟩ : ByteArray).data.toList, V.data.toList⟩ : LineD) = lineI k v := by
  have e : NN.data.toList = [48, 46, 48, 46, 48, 46] ++ digs3 k := by
    rw [hN, hD, digs_3 hk]; simp
  rw [e, hV]; rfl
theorem fullOk_at {k : Nat} (h : k < 64) : lineB (lineI k [53]) = true ∧ rightC (fullL k) = true ∧ thereB (lineI k [53]) (fullL k) = false ∧ (fullL k).length = k ∧ LinesLt (fullL k) 9223372036854775807 := by
  have := List.all_eq_true.1 full_ok k (List.mem_range.2 h)
  unfold fullOk at this
  simp only [Bool.and_eq_true, decide_eq_true_eq, Bool.not_eq_true'] at this
  exact ⟨this.1.1.1.1, this.1.1.1.2, this.1.1.2, this.1.2, small_lt this.2⟩
theorem full_end : rightC (fullL 64) = true ∧ (fullL 64).length = 64 ∧ LinesLt (fullL 64) 9223372036854775807 ∧ (namesFrom 1 none (fullL 64)).length = 64 := by
  have := end_ok
  simp only [Bool.and_eq_true, decide_eq_true_eq] at this
  exact ⟨this.1.1.1, this.1.1.2, small_lt this.1.2, this.2⟩
theorem full_len {k : Nat} (h : k ≤ 64) : (fullL k).length = k := by
  by_cases e : k < 64
  · exact (fullOk_at e).2.2.2.1
  · obtain rfl : k = 64 := by omega
    exact full_end.2.1
theorem lastOk_at {k : Nat} (h : k < 64) : lineB (lineI k [55]) = true ∧ thereB (lineI k [55]) (fullL 64) = true ∧ rightC (setC (lineI k [55]) (fullL 64)) = true ∧ LinesLt (setC (lineI k [55]) (fullL 64)) 9223372036854775807 ∧ thereB (bare (lineI k [55])) (setC (lineI k [55]) (fullL 64)) = true ∧
    ∃ q, (setC (lineI k [55]) (fullL 64))[posL (bare (lineI k [55])) (setC (lineI k [55]) (fullL 64))]? = some q ∧ q.value = [55] := by
  have := List.all_eq_true.1 last_ok k (List.mem_range.2 h)
  unfold lastOk at this
  simp only [Bool.and_eq_true, decide_eq_true_eq] at this
  refine ⟨this.1.1.1.1.1, this.1.1.1.1.2, this.1.1.1.2, small_lt this.1.1.2, this.1.2, ?_⟩
  have h2 := this.2
  revert h2
  cases hq : (setC (lineI k [55]) (fullL 64))[posL (bare (lineI k [55])) (setC (lineI k [55]) (fullL 64))]? with
  | none => intro h; cases h
  | some q => intro h; exact ⟨q, rfl, by simpa using h⟩
theorem overOk_at {k : Nat} (h1 : 64 ≤ k) (h2 : k < 200) : lineB (lineI k [55]) = true ∧ thereB (lineI k [55]) (fullL 64) = false := by
  have := List.all_eq_true.1 over_ok (k - 64) (List.mem_range.2 (by omega))
  unfold overOk at this
  rw [show 64 + (k - 64) = k by omega] at this
  simp only [Bool.and_eq_true, Bool.not_eq_true'] at this
  exact this
def lawEnd (w : World) (e : Ending) (w' : World) : Prop := e = .returned (.bool true) ∧ Keeps (fun _ => False) w w'
theorem u64_mod (m : Int) : ∃ K : Nat, wrap64 ((IntKind.u64.wrap m).tmod 200) = (K : Int) ∧ K < 200 := by
  have e : IntKind.u64.wrap m = m % 18446744073709551616 := by simp [IntKind.wrap, IntKind.bits, IntKind.signed]
  rw [e]
  have h0 : 0 ≤ m % 18446744073709551616 := Int.emod_nonneg _ (by omega)
  rw [Int.tmod_eq_emod_of_nonneg h0]
  unfold wrap64
  exact ⟨(m % 18446744073709551616 % 200).toNat, by omega, by omega⟩
theorem pre_size (D NN : ByteArray) (k : Nat) (hk : k < 1000) (hD : D = ⟨(digs k).toArray⟩) (hN : NN = ⟨#[48, 46, 48, 46, 48, 46]⟩ ++ D) : D.size ≤ 3 ∧ NN.size ≤ 9 := by
  have h1 : (digs k).length ≤ 3 := digs_len 3 k (by omega) (by omega)
  have h2 : D.size = (digs k).length := by rw [hD]; rfl
  have h3 : NN.size = 6 + D.size := by rw [hN, ByteArray.size_append]; rfl
  omega

set_option maxRecDepth 100000 in
set_option maxHeartbeats 4000000 in
theorem confFull_law (m : Int) (w : World) (hm1 : -9223372036854775808 ≤ m) (hm2 : m ≤ 9223372036854775807) :
    Calls Try.prog 7 #[.int .i64 m] w (lawEnd w) := by
  go_enter Try.func7, Try.ntmps7
  go_wp2_with fail
  go_loopw [4, 3] (fun iv cv wr => ∃ (k : Nat) (q : Option Addr) (d : Nat), k ≤ 64 ∧ iv = .int .i64 k ∧ cv = .slice q (fullL k).length d ∧ Hid (RowsAt 4 lineVals wr cv (fullL k)) ∧ Hid (Keeps (fun _ => False) w wr)) (fun iv _ _ => 64 - (intOf iv).toNat)
  case atStart => exact ⟨0, none, 0, by omega, rfl, rfl, Lib.hid (RowsAt.nil _), Lib.hid (Keeps.refl _ _)⟩
  case round =>
    obtain ⟨k, q, d, hk, rfl, rfl, hR, hK⟩ := hrel
    have hlen := Lib.hid (full_len hk)
    generalize hfl : (fullL k).length = fl at hlen hR ⊢
    have hfl' := Lib.hid hfl
    clear hfl
    by_cases hlt : k < 64
    · obtain ⟨f1, f2, f3, f4, f5⟩ := fullOk_at hlt
      obtain ⟨D, hD⟩ : ∃ D : ByteArray, D = ⟨(digs k).toArray⟩ := ⟨_, rfl⟩
      obtain ⟨NN, hNN⟩ : ∃ NN : ByteArray, NN = ⟨#[48, 46, 48, 46, 48, 46]⟩ ++ D := ⟨_, rfl⟩
      obtain ⟨z1, z2⟩ := pre_size D NN k (by omega) hD hNN
      have hline := Lib.hid (lineI_text k D NN [53] ⟨#[53]⟩ (by omega) hD hNN rfl)
      have g1 := Lib.hid f1; have g2 := Lib.hid f2; have g3 := Lib.hid f3; have g5 := Lib.hid f5; have hD' := Lib.hid hD; have hNN' := Lib.hid hNN
      clear f1 f2 f3 f4 f5 hD hNN
      go_wp2_with fail
      refine (l5digits_D k D _ (by omega) hD').mono ?_
      rintro e w2 ⟨rfl, k2⟩
      have hR2 := Lib.hid (hR.out.keep k2)
      have hK2 := Lib.hid (hK.out.trans k2)
      clear k2 hR hK
      go_wp2_with fail
      rw [← hNN'.out]
      have hs := set_ok (.slice q fl d) (fullL k) 1 NN ⟨#[99, 111, 115, 116]⟩ ⟨#[53]⟩ false w2 hR2 g5 (by omega) (by decide) g2 (Lib.hid (by rw [hline.out]; exact g1.out)) (Lib.hid (by rw [hline.out]; exact g3.out)) (by rw [hfl'.out, hlen.out]; omega) (fun _ => by rw [hfl'.out, hlen.out]; exact hlt)
      rw [hline.out] at hs
      refine hs.mono ?_
      rintro e w3 ⟨q3, d3, rfl, hO, k3⟩
      have hR3 : Hid (RowsAt 4 lineVals w3 (.slice q3 (fullL (k + 1)).length d3) (fullL (k + 1))) := Lib.hid (hO.at lineVals_len)
      have hK3 := Lib.hid (hK2.out.trans k3)
      clear hO k3 hs hR2 hK2 hline
      have hfe : (setC (lineI k [53]) (fullL k)).length = (fullL (k + 1)).length := rfl
      rw [hfe]
      go_wp2_with fail
      exact ⟨⟨k + 1, q3, d3, by omega, by go_num, rfl, hR3, hK3⟩, by simp [intOf]; omega⟩
    · obtain rfl : k = 64 := by omega
      clear hk hlt
      go_wp2_with fail
      obtain ⟨K, hKm, hK2⟩ := u64_mod m
      rw [hKm]
      obtain ⟨r1, r2, r3, r4⟩ := full_end
      obtain ⟨D, hD⟩ : ∃ D : ByteArray, D = ⟨(digs K).toArray⟩ := ⟨_, rfl⟩
      obtain ⟨NN, hNN⟩ : ∃ NN : ByteArray, NN = ⟨#[48, 46, 48, 46, 48, 46]⟩ ++ D := ⟨_, rfl⟩
      obtain ⟨z1, z2⟩ := pre_size D NN K (by omega) hD hNN
      have hline := Lib.hid (lineI_text K D NN [55] ⟨#[55]⟩ (by omega) hD hNN rfl)
      have hbare : Hid ((⟨1, NN.data.toList, (⟨#[99, 111, 115, 116]⟩ : ByteArray).data.toList, []⟩ : LineD) = bare (lineI K [55])) := Lib.hid (by rw [← hline.out]; rfl)
      have g1 := Lib.hid r1; have g2 := Lib.hid r2; have g3 := Lib.hid r3; have g4 := Lib.hid r4; have hD' := Lib.hid hD; have hNN' := Lib.hid hNN; have hKm' := Lib.hid hKm
      clear r1 r2 r3 r4 hD hNN hKm
      refine (l5digits_D K D _ (by omega) hD').mono ?_
      rintro e w2 ⟨rfl, k2⟩
      have hR2 := Lib.hid (hR.out.keep k2)
      have hK2' := Lib.hid (hK.out.trans k2)
      clear k2 hR hK
      go_wp2_with fail
      rw [← hNN'.out]
      by_cases h64 : K < 64
      · obtain ⟨f1, f2, f3, f4, f5, x, f6, f7⟩ := lastOk_at h64
        have m1 := Lib.hid f1; have m2 := Lib.hid f2; have m3 := Lib.hid f3; have m4 := Lib.hid f4; have m5 := Lib.hid f5; have m6 := Lib.hid f6; have m7 := Lib.hid f7
        clear f1 f2 f3 f4 f5 f6 f7
        have hs := set_ok (.slice q fl d) (fullL 64) 1 NN ⟨#[99, 111, 115, 116]⟩ ⟨#[55]⟩ true w2 hR2 g3 (by omega) (by decide) g1 (Lib.hid (by rw [hline.out]; exact m1.out)) (Lib.hid (by rw [hline.out]; exact m2.out)) (by rw [g2.out]; omega) (fun e => by cases e)
        rw [hline.out] at hs
        refine hs.mono ?_
        rintro e w3 ⟨q3, d3, rfl, hO, k3⟩
        have hsl : (setC (lineI K [55]) (fullL 64)).length = 64 := by rw [setC_len, if_pos m2.out, g2.out]
        have hR3 := Lib.hid (hO.at lineVals_len)
        rw [hsl] at hR3 ⊢
        have hK3 := Lib.hid (hK2'.out.trans k3)
        clear hO k3 hs hR2 hK2' hline
        have hsl' := Lib.hid hsl
        clear hsl
        go_wp2_with fail
        refine (writes_any _).mono ?_
        rintro e w4 ⟨rfl, k4⟩
        have hR4 := Lib.hid (hR3.out.keep k4)
        have hK4 := Lib.hid (hK3.out.trans k4)
        clear k4 hR3 hK3
        go_wp2_with fail
        refine (l5digits_D K D _ (by omega) hD').mono ?_
        rintro e w5 ⟨rfl, k5⟩
        have hR5 := Lib.hid (hR4.out.keep k5)
        have hK5 := Lib.hid (hK4.out.trans k5)
        clear k5 hR4 hK4
        go_wp2_with fail
        rw [← hNN'.out]
        refine (value_there (.slice q3 64 d3) (setC (lineI K [55]) (fullL 64)) x 1 NN ⟨#[99, 111, 115, 116]⟩ ⟨#[55]⟩ _ hR5 (by rw [hsl'.out]; omega) m4 m3 (Lib.hid (by rw [hbare.out]; exact m5.out)) (Lib.hid (by rw [hbare.out]; exact m6.out)) (Lib.hid (by rw [m7.out]))).mono ?_
        rintro e w6 ⟨rfl, k6⟩
        have hK6 := Lib.hid (hK5.out.trans k6)
        clear k6
        go_wp2_with fail
        go_ret
        exact ⟨rfl, hK6.out⟩
      · obtain ⟨f1, f2⟩ := overOk_at (by omega) hK2
        have m1 := Lib.hid f1; have m2 := Lib.hid f2
        clear f1 f2
        refine (set_full (.slice q fl d) (fullL 64) 1 NN ⟨#[99, 111, 115, 116]⟩ ⟨#[55]⟩ w2 hR2 g3 (by omega) (by decide) g1 (Lib.hid (by rw [hline.out]; exact m1.out)) (Lib.hid (by rw [hline.out]; exact m2.out)) g2).mono ?_
        rintro e w3 ⟨rfl, k3⟩
        have hR3 := Lib.hid (hR2.out.keep k3)
        have hK3 := Lib.hid (hK2'.out.trans k3)
        clear k3 hR2 hK2' hline
        go_wp2_with fail
        refine (writes_any _).mono ?_
        rintro e w4 ⟨rfl, k4⟩
        have hR4 := Lib.hid (hR3.out.keep k4)
        have hK4 := Lib.hid (hK3.out.trans k4)
        clear k4 hR3 hK3
        go_wp2_with fail
        have hnn := names_any (.slice q fl d) (fullL 64) 1 w4 hR4 (by rw [g2.out]; omega) g3 g1 (by decide)
        refine hnn.mono ?_
        rintro e w5 ⟨q5, d5, rfl, hO5, k5⟩
        have hK5 := Lib.hid (hK4.out.trans k5)
        rw [g4.out]
        clear hnn hO5 k5
        go_wp2_with fail
        go_ret
        exact ⟨rfl, hK5.out⟩
end Go.Proofs.Ytdjmhjgfjbcdkaa
