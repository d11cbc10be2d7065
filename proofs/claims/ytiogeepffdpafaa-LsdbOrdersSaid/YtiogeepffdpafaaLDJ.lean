/- What an Lsa's bytes tell of its age and number; Lsas of one Key with numbers. -/
import Derived.Test.YtiogeepffdpafaaLDF
namespace Go.Proofs.Ytiogeepffdpafaa
open Go.RowKit

theorem putB_shape (l : LsaD) : ∃ r, putB l = be 2 (lo64 l.age) ++ ([2, UInt8.ofNat (lo8 l.type)] ++ (be 4 l.id ++ (be 4 l.adv ++ (be 4 (lo64 l.seq) ++ r)))) := by
  unfold putB
  obtain ⟨a, ha⟩ : ∃ a, UInt8.ofNat (flX (zed ((baseB l).drop 2) 14) ((baseB l).length - 2) 14) = a := ⟨_, rfl⟩
  obtain ⟨b, hb⟩ : ∃ b, UInt8.ofNat (flY (zed ((baseB l).drop 2) 14) ((baseB l).length - 2) 14) = b := ⟨_, rfl⟩
  rw [ha, hb]
  have hs : baseB l = be 2 (lo64 l.age) ++ ([2, UInt8.ofNat (lo8 l.type)] ++ (be 4 l.id ++ (be 4 l.adv ++ (be 4 (lo64 l.seq) ++ (be 2 0 ++ be 2 (lo64 (20 + ((tellB l).length : Int))) ++ tellB l))))) := by
    unfold baseB headB; simp only [List.append_assoc]
  rw [hs]
  generalize be 2 0 ++ be 2 (lo64 (20 + ((tellB l).length : Int))) ++ tellB l = r
  have step : ∀ (n : Nat) (x : UInt8) (r : List UInt8), (be 2 (lo64 l.age) ++ ([2, UInt8.ofNat (lo8 l.type)] ++ (be 4 l.id ++ (be 4 l.adv ++ (be 4 (lo64 l.seq) ++ r))))).set (16 + n) x = be 2 (lo64 l.age) ++ ([2, UInt8.ofNat (lo8 l.type)] ++ (be 4 l.id ++ (be 4 l.adv ++ (be 4 (lo64 l.seq) ++ r.set n x)))) := fun n x r => by
    rw [List.set_append_right _ _ (by rw [be_len]; omega), be_len, List.set_append_right _ _ (by simp; omega), List.set_append_right _ _ (by rw [be_len]; simp; omega), be_len, List.set_append_right _ _ (by rw [be_len]; simp; omega), be_len, List.set_append_right _ _ (by rw [be_len]; simp; omega), be_len]
    congr 6
    simp
    omega
  exact ⟨(r.set 0 a).set 1 b, by rw [step 0 a r, step 1 b]⟩
theorem hA_age (l : LsaD) : hA l = lo64 l.age % 65536 := by
  obtain ⟨r, hr⟩ := putB_shape l
  unfold hA
  rw [hr, show sub (be 2 (lo64 l.age) ++ ([2, UInt8.ofNat (lo8 l.type)] ++ (be 4 l.id ++ (be 4 l.adv ++ (be 4 (lo64 l.seq) ++ r))))) 0 2 = be 2 (lo64 l.age) from by
    unfold sub; rw [List.drop_zero, List.take_append_of_le_length (by rw [be_len]; omega), List.take_of_length_le (by rw [be_len]; omega)], beVal_be]
theorem hdD_seq (l : LsaD) : (hdD l).seq = sgn32 (lo64 l.seq % 4294967296) := by
  obtain ⟨r, hr⟩ := putB_shape l
  unfold hdD headOf
  simp only
  rw [hr, show sub (be 2 (lo64 l.age) ++ ([2, UInt8.ofNat (lo8 l.type)] ++ (be 4 l.id ++ (be 4 l.adv ++ (be 4 (lo64 l.seq) ++ r))))) 12 4 = be 4 (lo64 l.seq) from by
    rfl, beVal_be]
theorem seq_back (s : Int) (h1 : -2147483648 ≤ s) (h2 : s ≤ 2147483647) : sgn32 (lo64 s % 4294967296) = s := by
  unfold sgn32 lo64
  split <;> omega
/-- the Lsa of the law -/
def mL (k : Nat) (s : Int) : LsaD := ⟨0, 1, k, 1, s, [], 0, [], 0⟩
theorem mBare (k : Nat) (s : Int) (hk : k < 4294967296) (h1 : -1000 < s) (h2 : s < 1000) : Bare (mL k s) := by
  refine ⟨rfl, rfl, ?_, hk, (by show (1 : Nat) < 4294967296; decide), (by show (0 : Nat) < 4294967296; decide)⟩
  unfold canB
  have h3 : withinB s (-2147483647) 2147483647 = true := by unfold withinB; rw [decide_eq_true_iff]; omega
  show (withinB 0 0 3600 && (withinB s (-2147483647) 2147483647 && toldB (mL k s))) = true
  rw [h3]; rfl
theorem mAge (k : Nat) (s : Int) : hA (mL k s) ≤ 3600 := by rw [hA_age]; show lo64 0 % 65536 ≤ 3600; decide
theorem mPos (k : Nat) (s t : Int) : posK [mL k t] (mL k s).type (mL k s).id (mL k s).adv = some 0 := by
  unfold posK hasKey; simp [mL]
theorem mNewer (k : Nat) (s t : Int) (h1 : -1000 < s) (h2 : s < 1000) (h3 : -1000 < t) (h4 : t < 1000) : newerD (mL k s) (mL k t) = decide (t < s) := by
  by_cases e : s = t
  · subst e
    unfold newerD
    rw [cmpH_self]; simp
  · unfold newerD cmpH
    have e1 : (hdD (mL k s)).seq = s := by rw [hdD_seq]; exact seq_back s (by omega) (by omega)
    have e2 : (hdD (mL k t)).seq = t := by rw [hdD_seq]; exact seq_back t (by omega) (by omega)
    rw [e1, e2, if_pos e]
    unfold cmpI
    by_cases h : s < t
    · rw [if_pos h, decide_eq_decide]; omega
    · rw [if_neg h, if_pos (by omega), decide_eq_decide]; omega
theorem mPut (k : Nat) (s t : Int) (h1 : -1000 < s) (h2 : s < 1000) (h3 : -1000 < t) (h4 : t < 1000) : putD [mL k t] (mL k s) = (decide (t < s), 0, [mL k (if t < s then s else t)]) := by
  unfold putD
  rw [mPos]
  simp only [List.getElem?_cons_zero, mNewer k s t h1 h2 h3 h4]
  by_cases h : t < s <;> simp [h]
theorem mFind (k : Nat) (t : Int) : findD [mL k t] 1 k 1 = (mL k t, true) := by
  unfold findD
  have := mPos k t t
  rw [show posK [mL k t] 1 k 1 = some 0 from this]; rfl
end Go.Proofs.Ytiogeepffdpafaa
