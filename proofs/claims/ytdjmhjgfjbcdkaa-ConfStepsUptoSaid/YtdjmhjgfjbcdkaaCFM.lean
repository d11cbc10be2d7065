/- The law's digits, walked (out of ZRN). -/
import Derived.Test.YtdjmhjgfjbcdkaaCFK
import Derived.Test.YtdjmhjgfjbcdkaaSDA
namespace Go.Proofs.Ytdjmhjgfjbcdkaa
open Go.RowKit

/-- what stands behind some rounds of Digits -/
def DigRel (N m : Nat) (S : ByteArray) : Prop := (S.data.toList = [] ∧ m = N) ∨ (S.data.toList ≠ [] ∧ ((m = 0 ∧ S.data.toList = digs N) ∨ (0 < m ∧ digs N = digs m ++ S.data.toList)))
theorem DigRel.next {N m : Nat} {S : ByteArray} (h : DigRel N m S) (hgo : 0 < m ∨ S.data.toList = []) : DigRel N (m / 10) (⟨#[UInt8.ofNat (48 + m % 10)]⟩ ++ S) := by
  have e : ((⟨#[UInt8.ofNat (48 + m % 10)]⟩ : ByteArray) ++ S).data.toList = UInt8.ofNat (48 + m % 10) :: S.data.toList := by simp
  right
  rw [e]
  refine ⟨by simp, ?_⟩
  rcases h with ⟨h1, rfl⟩ | ⟨h1, h2⟩
  · rw [h1]
    by_cases hm : m < 10
    · left; exact ⟨by omega, by rw [digs_lt hm, Nat.mod_eq_of_lt hm]⟩
    · right; exact ⟨by omega, digs_ge hm⟩
  · rcases h2 with ⟨h2, _⟩ | ⟨h2, h3⟩
    · rcases hgo with h | h
      · omega
      · exact (h1 h).elim
    · by_cases hm : m < 10
      · left; refine ⟨by omega, ?_⟩
        rw [h3, digs_lt hm, Nat.mod_eq_of_lt hm]; rfl
      · right; refine ⟨by omega, ?_⟩
        rw [h3, digs_ge hm]; simp

theorem DigRel.size {N m : Nat} {S : ByteArray} (h : DigRel N m S) (hN : N ≤ 9223372036854775807) : S.size ≤ 19 := by
  have hl := digs_len 19 N (by omega) (by omega)
  have hs : S.data.toList.length = S.size := by simp
  rcases h with ⟨h1, _⟩ | ⟨_, ⟨_, h2⟩ | ⟨_, h2⟩⟩
  · rw [h1] at hs; simp at hs; omega
  · rw [h2] at hs; omega
  · rw [h2, List.length_append] at hl; omega
set_option maxRecDepth 100000 in
set_option maxHeartbeats 1000000 in
theorem l5digits_D (N : Nat) (D : ByteArray) (w : World) (hN : N ≤ 9223372036854775807) (hD : Hid (D = ⟨(digs N).toArray⟩)) :
    Calls Try.prog 34 #[.int .i64 N] w (NewRes (.string D) w) := by
  go_enter Try.func34, Try.ntmps34
  go_wp2
  go_loopw [0, 3] (fun nv sv wr => ∃ (m : Nat) (S : ByteArray), m ≤ N ∧ nv = .int .i64 m ∧ sv = .string S ∧ Hid (DigRel N m S) ∧ Hid (Keeps (fun _ => False) w wr)) (fun nv sv _ => (intOf nv).toNat + match sv with | .string S => if S.data.toList = [] then 1 else 0 | _ => 0)
  case atStart => exact ⟨N, _, by omega, rfl, rfl, Lib.hid (.inl ⟨rfl, rfl⟩), Lib.hid (Keeps.refl _ _)⟩
  case round =>
    obtain ⟨m, S, hm, rfl, rfl, hrel, hk⟩ := hrel
    have hSs : S.size ≤ 19 := hrel.out.size hN
    by_cases hgo : 0 < m ∨ S.data.toList = []
    · have hnext := Lib.hid (hrel.out.next hgo)
      have hmod : m % 10 < 10 := Nat.mod_lt _ (by omega)
      have hcv := conv_one wr (48 + (m : Int) % 10) (UInt8.ofNat (48 + m % 10)) (by rw [dig_toNat hmod]; omega)
      have hdec : (m / 10) + 0 < m + (if S.data.toList = [] then 1 else 0) := by
        rcases hgo with h | h
        · omega
        · rw [if_pos h]; omega
      have hne : ((⟨#[UInt8.ofNat (48 + m % 10)]⟩ : ByteArray) ++ S).data.toList ≠ [] := by simp
      have hdec' := Lib.hid hdec; have hne' := Lib.hid hne; clear hdec hne
      obtain ⟨C, hC⟩ : ∃ C : ByteArray, C = ⟨#[UInt8.ofNat (48 + m % 10)]⟩ := ⟨_, rfl⟩
      rw [← hC] at hcv hnext hne'
      have hCs : C.size ≤ 1 := by rw [hC]; exact Nat.le_refl _
      have hC' := Lib.hid hC; clear hC
      by_cases h0 : 0 < m
      · clear hgo
        go_wp2
        refine ⟨⟨m / 10, C ++ S, by omega, by first | rfl | go_num, rfl, hnext, Lib.hid (hk.out.alloc _)⟩, ?_⟩
        have h1 := hdec'.out
        simp only [intOf]
        rw [if_neg hne'.out]
        omega
      · obtain rfl : m = 0 := by omega
        have hSe : S.toList = [] := by rcases hgo with h | h; omega; rw [Lib.toList_data]; exact h
        have hS1 : S.toList.isEmpty = true := by rw [hSe]; rfl
        have hS0 : S.size = 0 := by
          have : S.data.toList.length = 0 := by rw [← Lib.toList_data, hSe]; rfl
          simpa using this
        have hS0' : S.size ≤ 0 := by omega
        have hcv0 : (convert 50 9 (.slice (some ⟨wr.heap.size, 0, none⟩) 1 1)).run Try.prog (wr.alloc (.cells #[.int .u8 48] 5)) = .ok (.string C) (wr.alloc (.cells #[.int .u8 48] 5)) := by simpa using hcv
        have hSe' := Lib.hid hSe; clear hSe hgo hcv hS0
        go_wp2
        have hsz : (C ++ S).size ≤ 100 + (N - 0 / 10) := by rw [ByteArray.size_append]; omega
        refine ⟨⟨0 / 10, C ++ S, by omega, by first | rfl | go_num, rfl, hnext, Lib.hid (hk.out.alloc _)⟩, ?_⟩
        have h1 := hdec'.out
        simp only [intOf]
        rw [if_neg hne'.out]
        omega
    · have hm0 : m = 0 := by omega
      subst hm0
      have hSne : S.toList ≠ [] := fun h => hgo (.inr (by rw [← Lib.toList_data]; exact h))
      have hS1 : S.toList.isEmpty = false := by cases hl : S.toList with | nil => exact (hSne hl).elim | cons => rfl
      have hend : Hid (S = D) := Lib.hid (by
        rw [hD.out]
        have : S.data.toList = digs N := by
          rcases hrel.out with ⟨h, _⟩ | ⟨_, ⟨_, h⟩ | ⟨h, _⟩⟩
          · exact (hgo (.inr h)).elim
          · exact h
          · omega
        rw [← this])
      clear hgo hSne hrel
      go_wp2
      go_ret
      exact ⟨by rw [← hend.out]; rfl, hk.out⟩
end Go.Proofs.Ytdjmhjgfjbcdkaa
