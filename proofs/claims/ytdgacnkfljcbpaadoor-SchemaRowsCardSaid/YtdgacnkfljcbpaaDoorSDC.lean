/- The document's Digits and Dotted, walked. -/
import Derived.Test.YtdgacnkfljcbpaaDoorSDB
namespace Go.Proofs.YtdgacnkfljcbpaaDoor
open Go.RowKit

/-- what stands behind some rounds of Digits -/
def DigRel (N m : Nat) (S : ByteArray) : Prop := (S.data.toList = [] ∧ m = N) ∨ (S.data.toList ≠ [] ∧ ((m = 0 ∧ S.data.toList = digs N) ∨ (0 < m ∧ digs N = digs m ++ S.data.toList)))
theorem DigRel.next {N m : Nat} {S : ByteArray} (h : DigRel N m S) (hgo : 0 < m ∨ S.data.toList = []) : DigRel N (m / 10) (⟨#[UInt8.ofNat (48 + m % 10)]⟩ ++ S) := by
  have e : ((⟨#[UInt8.ofNat (48 + m % 10)]⟩ : ByteArray) ++ S).data.toList = UInt8.ofNat (48 + m % 10) :: S.data.toList := by simp
  right
  rw [e]
  refine ⟨by simp, ?_⟩
  rcases h with ⟨h1, rfl⟩ | ⟨h1, h2⟩
  · rw [h1]
    by_cases hm : m < 10
    · left; exact ⟨by omega, by rw [digs_lt hm, Nat.mod_eq_of_lt hm]⟩
    · right; exact ⟨by omega, digs_ge hm⟩
  · rcases h2 with ⟨h2, _⟩ | ⟨h2, h3⟩
    · rcases hgo with h | h
      · omega
      · exact (h1 h).elim
    · by_cases hm : m < 10
      · left; refine ⟨by omega, ?_⟩
        rw [h3, digs_lt hm, Nat.mod_eq_of_lt hm]; rfl
      · right; refine ⟨by omega, ?_⟩
        rw [h3, digs_ge hm]; simp

set_option maxRecDepth 100000 in
set_option maxHeartbeats 1000000 in
theorem rDigits_D (N : Nat) (D : ByteArray) (w : World) (hN : N < 1000000000) (hD : Hid (D = ⟨(digs N).toArray⟩)) :
    Calls Tryd.prog 24 #[.int .i64 N] w (NewRes (.string D) w) := by
  go_enter Tryd.func24, Tryd.ntmps24
  go_wp2
  go_loopw [0, 3] (fun nv sv wr => ∃ (m : Nat) (S : ByteArray), m ≤ N ∧ nv = .int .i64 m ∧ sv = .string S ∧ S.size ≤ 100 + (N - m) ∧ Hid (DigRel N m S) ∧ Hid (Keeps (fun _ => False) w wr)) (fun nv sv _ => (intOf nv).toNat + match sv with | .string S => if S.data.toList = [] then 1 else 0 | _ => 0)
  case atStart => exact ⟨N, _, by omega, rfl, rfl, Nat.zero_le _, Lib.hid (.inl ⟨rfl, rfl⟩), Lib.hid (Keeps.refl _ _)⟩
  case round =>
    obtain ⟨m, S, hm, rfl, rfl, hSs, hrel, hk⟩ := hrel
    by_cases hgo : 0 < m ∨ S.data.toList = []
    · have hnext := Lib.hid (hrel.out.next hgo)
      have hmod : m % 10 < 10 := Nat.mod_lt _ (by omega)
      have hcv := conv_one wr (48 + (m : Int) % 10) (UInt8.ofNat (48 + m % 10)) (by rw [dig_toNat hmod]; omega)
      have hdec : (m / 10) + 0 < m + (if S.data.toList = [] then 1 else 0) := by
        rcases hgo with h | h
        · omega
        · rw [if_pos h]; omega
      have hne : ((⟨#[UInt8.ofNat (48 + m % 10)]⟩ : ByteArray) ++ S).data.toList ≠ [] := by simp
      have hdec' := Lib.hid hdec; have hne' := Lib.hid hne; clear hdec hne
      obtain ⟨C, hC⟩ : ∃ C : ByteArray, C = ⟨#[UInt8.ofNat (48 + m % 10)]⟩ := ⟨_, rfl⟩
      rw [← hC] at hcv hnext hne'
      have hCs : C.size ≤ 1 := by rw [hC]; exact Nat.le_refl _
      have hC' := Lib.hid hC; clear hC
      by_cases h0 : 0 < m
      · clear hgo
        go_wp2
        have hsz : (C ++ S).size ≤ 100 + (N - m / 10) := by rw [ByteArray.size_append]; omega
        refine ⟨⟨m / 10, C ++ S, by omega, by first | rfl | go_num, rfl, hsz, hnext, Lib.hid (hk.out.alloc _)⟩, ?_⟩
        have h1 := hdec'.out
        simp only [intOf]
        rw [if_neg hne'.out]
        omega
      · obtain rfl : m = 0 := by omega
        have hSe : S.toList = [] := by rcases hgo with h | h; omega; rw [Lib.toList_data]; exact h
        have hS1 : S.toList.isEmpty = true := by rw [hSe]; rfl
        have hS0 : S.size = 0 := by
          have : S.data.toList.length = 0 := by rw [← Lib.toList_data, hSe]; rfl
          simpa using this
        have hS0' : S.size ≤ 0 := by omega
        have hcv0 : (convert 59 9 (.slice (some ⟨wr.heap.size, 0, none⟩) 1 1)).run Tryd.prog (wr.alloc (.cells #[.int .u8 48] 5)) = .ok (.string C) (wr.alloc (.cells #[.int .u8 48] 5)) := by simpa using hcv
        have hSe' := Lib.hid hSe; clear hSe hgo hcv hS0
        go_wp2
        have hsz : (C ++ S).size ≤ 100 + (N - 0 / 10) := by rw [ByteArray.size_append]; omega
        refine ⟨⟨0 / 10, C ++ S, by omega, by first | rfl | go_num, rfl, hsz, hnext, Lib.hid (hk.out.alloc _)⟩, ?_⟩
        have h1 := hdec'.out
        simp only [intOf]
        rw [if_neg hne'.out]
        omega
    · have hm0 : m = 0 := by omega
      subst hm0
      have hSne : S.toList ≠ [] := fun h => hgo (.inr (by rw [← Lib.toList_data]; exact h))
      have hS1 : S.toList.isEmpty = false := by cases hl : S.toList with | nil => exact (hSne hl).elim | cons => rfl
      have hend : Hid (S = D) := Lib.hid (by
        rw [hD.out]
        have : S.data.toList = digs N := by
          rcases hrel.out with ⟨h, _⟩ | ⟨_, ⟨_, h⟩ | ⟨h, _⟩⟩
          · exact (hgo (.inr h)).elim
          · exact h
          · omega
        rw [← this])
      clear hgo hSne hrel
      go_wp2
      go_ret
      exact ⟨by rw [← hend.out]; rfl, hk.out⟩
theorem ba_ex (l : List UInt8) (k : Nat) (h : l.length ≤ k) : ∃ D : ByteArray, Hid (D = ⟨l.toArray⟩) ∧ D.size ≤ k := ⟨_, Lib.hid rfl, h⟩
theorem shr_part (n : Nat) : ((n / 16777216 : Nat) : Int) = ((n / 16777216 % 256 : Nat) : Int) ∨ 4294967296 ≤ n := by omega
set_option maxRecDepth 100000 in
set_option maxHeartbeats 1000000 in
theorem rDotted_any (n : Nat) (w : World) (hn : n < 4294967296) :
    Calls Tryd.prog 14 #[.int .u32 (n : Nat)] w (NewRes (strv (dotted n)) w) := by
  obtain ⟨a, ha⟩ : ∃ a, a = n / 16777216 % 256 := ⟨_, rfl⟩
  obtain ⟨b, hb⟩ : ∃ b, b = n / 65536 % 256 := ⟨_, rfl⟩
  obtain ⟨c, hc⟩ : ∃ c, c = n / 256 % 256 := ⟨_, rfl⟩
  obtain ⟨d, hd⟩ : ∃ d, d = n % 256 := ⟨_, rfl⟩
  have a2 : a < 256 := by omega
  have b2 : b < 256 := by omega
  have c2 : c < 256 := by omega
  have d2 : d < 256 := by omega
  have f1 : (n : Int) / 16777216 = (a : Int) := by omega
  have f2 : bits .and .u32 ((n : Int) / 65536) 255 = (b : Int) := by rw [hb]; exact and255 n 65536 hn
  have f3 : bits .and .u32 ((n : Int) / 256) 255 = (c : Int) := by rw [hc]; exact and255 n 256 hn
  have f4 : bits .and .u32 (n : Int) 255 = (d : Int) := by rw [hd]; exact and255' n hn
  obtain ⟨A, hA, lA⟩ := ba_ex (digs a) 3 (digs_len3 a2)
  obtain ⟨B, hB, lB⟩ := ba_ex (digs b) 3 (digs_len3 b2)
  obtain ⟨C, hC, lC⟩ := ba_ex (digs c) 3 (digs_len3 c2)
  obtain ⟨D, hD, lD⟩ := ba_ex (digs d) 3 (digs_len3 d2)
  have hfin : Hid (Value.string (A ++ ⟨#[46]⟩ ++ B ++ ⟨#[46]⟩ ++ C ++ ⟨#[46]⟩ ++ D) = strv (dotted n)) := Lib.hid (by
    rw [hA.out, hB.out, hC.out, hD.out, ha, hb, hc, hd]
    unfold strv dotted dottedOf
    congr 1)
  clear ha hb hc hd
  go_enter Tryd.func14, Tryd.ntmps14
  go_wp2_with fail
  refine (rDigits_D a A _ (by omega) hA).mono ?_
  rintro e w1 ⟨rfl, hk1⟩
  have hk1' := Lib.hid hk1; clear hk1
  go_wp2_with fail
  refine (rDigits_D b B _ (by omega) hB).mono ?_
  rintro e w2 ⟨rfl, hk2⟩
  have hk2' := Lib.hid hk2; clear hk2
  go_wp2_with fail
  refine (rDigits_D c C _ (by omega) hC).mono ?_
  rintro e w3 ⟨rfl, hk3⟩
  have hk3' := Lib.hid hk3; clear hk3
  go_wp2_with fail
  refine (rDigits_D d D _ (by omega) hD).mono ?_
  rintro e w4 ⟨rfl, hk4⟩
  have hk4' := Lib.hid hk4; clear hk4
  go_wp2_with fail
  go_ret
  exact ⟨by rw [← hfin.out]; rfl, ((hk1'.out.trans hk2'.out).trans hk3'.out).trans hk4'.out⟩
end Go.Proofs.YtdgacnkfljcbpaaDoor
