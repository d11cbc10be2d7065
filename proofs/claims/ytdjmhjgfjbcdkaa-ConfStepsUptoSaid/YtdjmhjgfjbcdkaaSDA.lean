/- Numbers and addresses as texts, plain. -/
import Derived.Test.YtdjmhjgfjbcdkaaSCH
import Derived.Lib.ItoaNum
namespace Go.Proofs.Ytdjmhjgfjbcdkaa

def digs (n : Nat) : List UInt8 := if n < 10 then [UInt8.ofNat (48 + n)] else digs (n / 10) ++ [UInt8.ofNat (48 + n % 10)]
termination_by n
decreasing_by omega
theorem digs_lt {n : Nat} (h : n < 10) : digs n = [UInt8.ofNat (48 + n)] := by rw [digs, if_pos h]
theorem digs_ge {n : Nat} (h : ¬ n < 10) : digs n = digs (n / 10) ++ [UInt8.ofNat (48 + n % 10)] := by rw [digs, if_neg h]
theorem dig_toNat {n : Nat} (h : n < 10) : (UInt8.ofNat (48 + n)).toNat = 48 + n := by simp; omega
theorem digs_ne (n : Nat) : digs n ≠ [] := by
  by_cases h : n < 10
  · rw [digs_lt h]; simp
  · rw [digs_ge h]; simp
theorem digs_all (k : Nat) : ∀ n, n ≤ k → (digs n).all digB = true := by
  induction k with
  | zero => intro n hn; obtain rfl : n = 0 := by omega
            rw [digs_lt (by omega)]; decide
  | succ k ih =>
    intro n hn
    by_cases h : n < 10
    · rw [digs_lt h]
      simp only [List.all_cons, List.all_nil, Bool.and_true, digB, decide_eq_true_eq, dig_toNat h]; omega
    · rw [digs_ge h, List.all_append, ih (n / 10) (by omega)]
      simp only [List.all_cons, List.all_nil, Bool.and_true, Bool.true_and, digB, decide_eq_true_eq, dig_toNat (show n % 10 < 10 by omega)]; omega
theorem digs_val (k : Nat) : ∀ n, n ≤ k → decVal (digs n) = n := by
  induction k with
  | zero => intro n hn; obtain rfl : n = 0 := by omega
            rw [digs_lt (by omega)]; decide
  | succ k ih =>
    intro n hn
    by_cases h : n < 10
    · rw [digs_lt h]
      show (0 * 10 + ((UInt8.ofNat (48 + n)).toNat - 48)) = n
      rw [dig_toNat h]; omega
    · rw [digs_ge h, decVal_snoc, ih (n / 10) (by omega), dig_toNat (by omega)]; omega
theorem digs_len (d : Nat) : ∀ n, n < 10 ^ d → 0 < d → (digs n).length ≤ d := by
  induction d with
  | zero => intro n _ h; omega
  | succ d ih =>
    intro n hn _
    by_cases h : n < 10
    · rw [digs_lt h]; simp
    · rw [digs_ge h]
      have hd : 0 < d := by
        rcases Nat.eq_zero_or_pos d with rfl | h'
        · simp at hn; omega
        · exact h'
      have := ih (n / 10) (by rw [Nat.pow_succ] at hn; omega) hd
      simp; omega
theorem digs_head (k : Nat) : ∀ n, n ≤ k → 10 ≤ n → (digs n).head? ≠ some 48 := by
  induction k with
  | zero => intro n h1 h2; omega
  | succ k ih =>
    intro n hn h10
    rw [digs_ge (by omega)]
    by_cases h : n / 10 < 10
    · rw [digs_lt h]
      simp only [List.cons_append, List.head?_cons]
      intro e
      injection e with e
      have := congrArg UInt8.toNat e
      rw [dig_toNat h] at this
      have e2 : (48 : UInt8).toNat = 48 := rfl
      omega
    · have := ih (n / 10) (by omega) (by omega)
      cases hd : digs (n / 10) with
      | nil => exact (digs_ne _ hd).elim
      | cons a l => rw [hd] at this; simpa using this
theorem decL_digs_eq {n : Nat} (h : n < 1000000000) : decL (digs n) = some n := by
  have h1 := digs_all n n (Nat.le_refl _)
  have h2 := digs_len 9 n (by omega) (by omega)
  have h3 : 1 ≤ (digs n).length := by
    cases hd : digs n with
    | nil => exact (digs_ne _ hd).elim
    | cons => simp
  have hs : decShape (digs n) = true := by
    unfold decShape
    rw [decide_eq_true_eq]
    refine ⟨h3, h2, fun ⟨a, b⟩ => ?_⟩
    by_cases h10 : n < 10
    · rw [digs_lt h10] at a; simp at a
    · exact digs_head n n (Nat.le_refl _) (by omega) b
  unfold decL
  rw [hs, h1, if_pos (by rfl), digs_val n n (Nat.le_refl _)]
theorem decL_nought (n : Nat) : decL (48 :: digs n) = none := by
  have h3 : 1 ≤ (digs n).length := by
    cases hd : digs n with
    | nil => exact (digs_ne _ hd).elim
    | cons => simp
  have hs : decShape (48 :: digs n) = false := by
    unfold decShape
    rw [decide_eq_false_iff_not]
    rintro ⟨_, _, h⟩
    exact h ⟨by simp; omega, rfl⟩
  unfold decL
  rw [hs, if_neg (by simp)]
theorem decL_plus (n : Nat) : decL (43 :: digs n) = none := by
  unfold decL
  rw [if_neg]
  simp [digB]
theorem digs_not (n : Nat) {c : UInt8} (hc : digB c = false) : c ∉ digs n := by
  intro hm
  have := List.all_eq_true.1 (digs_all n n (Nat.le_refl _)) c hm
  rw [hc] at this; cases this

/-- four numbers with dots between -/
def dottedOf (a b c d : Nat) : List UInt8 := digs a ++ [46] ++ digs b ++ [46] ++ digs c ++ [46] ++ digs d
def dotted (n : Nat) : List UInt8 := dottedOf (n / 16777216 % 256) (n / 65536 % 256) (n / 256 % 256) (n % 256)
theorem before_app {c : UInt8} {p : List UInt8} (h : c ∉ p) (r : List UInt8) : before c (p ++ c :: r) = p.length := by
  induction p with
  | nil => exact before_cons_eq
  | cons b p ih =>
    have hb : b ≠ c := by rintro rfl; exact h (by simp)
    rw [List.cons_append, before_cons_ne hb, ih (fun m => h (by simp [m]))]; simp
theorem partsL_app {c : UInt8} {p : List UInt8} (h : c ∉ p) (r : List UInt8) : partsL c (p ++ c :: r) = p :: partsL c r := by
  rw [partsL_yes (by simp), before_app h]
  simp [List.take_left, ← List.drop_drop]
theorem dotted_parts (a b c d : Nat) (r : List UInt8) : partsL 46 (digs a ++ [46] ++ digs b ++ [46] ++ digs c ++ [46] ++ r) = digs a :: digs b :: digs c :: partsL 46 r := by
  have e : digs a ++ [46] ++ digs b ++ [46] ++ digs c ++ [46] ++ r = digs a ++ 46 :: (digs b ++ 46 :: (digs c ++ 46 :: r)) := by simp
  rw [e, partsL_app (digs_not a (by decide)), partsL_app (digs_not b (by decide)), partsL_app (digs_not c (by decide))]
theorem addrL_dotted {n : Nat} (h : n < 4294967296) : addrL (dotted n) = some n := by
  rw [addrL_eq]
  unfold dotted dottedOf
  rw [dotted_parts _ _ _ 0, partsL_no (digs_not _ (by decide)), if_pos (by simp)]
  simp only [foldParts]
  rw [decL_digs_eq (by omega), decL_digs_eq (by omega), decL_digs_eq (by omega), decL_digs_eq (by omega)]
  simp only
  rw [if_pos (by omega), if_pos (by omega), if_pos (by omega), if_pos (by omega)]
  congr 1; omega
theorem addrL_dot (n : Nat) : addrL (dotted n ++ [46]) = none := by
  rw [addrL_eq]
  unfold dotted dottedOf
  rw [List.append_assoc, dotted_parts _ _ _ 0, partsL_app (digs_not _ (by decide)), if_neg (by simp [partsL])]
theorem slash_dotted (n : Nat) : (47 : UInt8) ∉ dotted n := by
  unfold dotted dottedOf
  simp only [List.mem_append, List.mem_singleton, not_or]
  refine ⟨⟨⟨⟨⟨⟨digs_not _ (by decide), by decide⟩, digs_not _ (by decide)⟩, by decide⟩, digs_not _ (by decide)⟩, by decide⟩, digs_not _ (by decide)⟩
theorem netL_dotted {n l : Nat} (h : n < 4294967296) (h1 : 1 ≤ l) (h2 : l ≤ 32) : netL (dotted n ++ [47] ++ digs l) = some (n, l) := by
  rw [netL_eq, List.append_assoc, List.singleton_append, partsL_app (slash_dotted n), partsL_no (digs_not _ (by decide))]
  simp only [netParts]
  rw [addrL_dotted h, decL_digs_eq (by omega)]
  simp only
  rw [if_pos ⟨h1, h2⟩]
theorem netL_slash (n : Nat) : netL (dotted n ++ [47]) = none := by
  rw [netL_eq, partsL_app (slash_dotted n)]
  simp only [netParts, partsL]
  rw [decL_nil]
  cases addrL (dotted n) <;> rfl
theorem digs_dec (k : Nat) : ∀ n, n ≤ k → Lib.decDigits n = digs n := by
  induction k with
  | zero => intro n hn; obtain rfl : n = 0 := by omega
            rw [digs_lt (by omega), Lib.decDigits_one (by omega)]
  | succ k ih =>
    intro n hn
    by_cases h : n < 10
    · rw [digs_lt h, Lib.decDigits_one h]
    · rw [digs_ge h, Lib.decDigits, dif_neg h, ih (n / 10) (by omega)]
theorem itoa_digs (n : Nat) : Lib.itoa (n : Int) = digs n := by
  unfold Lib.itoa
  rw [if_neg (by omega), Int.toNat_natCast, digs_dec n n (Nat.le_refl _)]
end Go.Proofs.Ytdjmhjgfjbcdkaa
