/- LB -/
import Derived.Test.YtmggbljkehclpaaP03
import Derived.Test.YtmggbljkehclpaaP04
set_option linter.unusedVariables false
set_option linter.unusedSimpArgs false
namespace Go.Proofs.Ytmggbljkehclpaa
open Go.RowKit
theorem be_get (k n : Nat) : ∀ m, m < k → (be k n)[m]? = some (UInt8.ofNat (n / 256 ^ (k - 1 - m))) := by
 induction k with
 | zero => intro m h; omega
 | succ k ih =>
  intro m h
  cases m with
  | zero => simp [be]
  | succ m =>
   have := ih m (by omega)
   rw [be, List.getElem?_cons_succ, this, show k + 1 - 1 - (m + 1) = k - 1 - m by omega]
theorem r0v (k n j : Nat) (h : j < k) : (be k n).take (k - (j + 1)) ++ [UInt8.ofNat (n / 256 ^ j)] = (be k n).take (k - j) := by
 have hl := a08 k n
 have hg := be_get k n (k - (j + 1)) (by omega)
 rw [show k - 1 - (k - (j + 1)) = j by omega] at hg
 rw [show k - j = k - (j + 1) + 1 by omega, List.take_succ_eq_append_getElem (by omega)]
 rw [List.getElem?_eq_getElem (by omega)] at hg
 injection hg with hg
 rw [hg]
def i0s (l : List UInt8) (w : World) (e : Ending) (w' : World) : Prop :=
 ∃ p c, e = .returned (.slice p l.length c) ∧ OwnB w w' (.slice p l.length c) l ∧ a03 (fun _ => False) w w'
theorem pow256 (j : Nat) : (2 : Int) ^ (8 * j) = ((256 ^ j : Nat) : Int) := by
 rw [Int.natCast_pow]
 rw [show ((256 : Nat) : Int) = 2 ^ 8 from rfl, ← Int.pow_mul]
set_option maxRecDepth 100000 in
set_option maxHeartbeats 1000000 in
theorem b0b (n k : Nat) (hn : n < 18446744073709551616) (hk : k ≤ 8) (w : World) :
 Calls Try.prog 53 #[.int .u64 n, .int .i64 k] w (i0s (be k n) w) := by
 obtain ⟨i0, hi0, hz0, hz1, hz2⟩ := info_parts b0v
 have hbl := Hi (a08 k n)
 go_enter Try.func53, Try.ntmps53
 go_wp2
 go_loopw [5, 6] (fun v iv wr => ∃ j : Nat, j ≤ k ∧ iv = .int .i64 ((j : Int) - 1) ∧ Hid (OwnB w wr v ((be k n).take (k - j)) ∧ a03 (fun _ => False) w wr)) (fun _ iv _ => (intOf iv + 1).toNat)
 case atStart => exact ⟨k, by omega, rfl, Hi ⟨by rw [Nat.sub_self]; exact OwnB.nil _ _ (Nat.le_refl _), a03.refl _ _⟩⟩
 case round =>
  obtain ⟨j, hj, rfl, hO⟩ := hrel
  have hlen : ((be k n).take (k - j)).length = k - j := by rw [List.length_take, hbl.out]; omega
  obtain ⟨q, d, hq⟩ := hO.out.1.slice
  rw [hlen] at hq
  subst hq
  cases j with
  | succ j =>
   have hp := pow256 j
   obtain ⟨m, hm⟩ : ∃ m, m = n / 256 ^ j := ⟨_, rfl⟩
   have hdiv : (n : Int) / 2 ^ (8 * j) = (m : Int) := by rw [hp, hm]; exact (Int.natCast_ediv _ _).symm
   have hsh : IntKind.i64.wrap (8 * (j : Int)) = 8 * (j : Int) := IntWalk.i64_in _ (by omega)
   have hsrc : Hid (a0b (wr.alloc (.cells #[.int .u8 ((m : Int) % 256)] 5)) (.slice (some ⟨wr.heap.size, 0, none⟩) 1 1) [UInt8.ofNat m]) := Hi (by
    have := (OwnB.new wr wr (Nat.le_refl _) [UInt8.ofNat m] (n := 1) rfl (by unfold maxLen; omega)).bytes
    rw [List.map_cons, List.map_nil, e0l] at this
    exact this)
   have hO2 := Hi (hO.out.1.keep ((a03.refl (fun _ => False) _).alloc (.cells #[.int .u8 ((m : Int) % 256)] 5)) (fun _ _ f => f))
   have hK2 := Hi (hO.out.2.alloc (.cells #[.int .u8 ((m : Int) % 256)] 5))
   have hbt := Hi (r0v k n j (by omega))
   rw [← hm] at hbt
   have hlen' := Hi hlen
   clear hp hm hlen hO
   go_wp2_with ((with_reducible refine a0a 20 ?_); refine a0h rfl (.tmp 13) (.tmp 19) 31 rfl i0 Try.underlying31 hi0 hz0 hz1 hz2 w _ ((be k n).take (k - (j + 1))) rfl hO2.out _ rfl [UInt8.ofNat m] hsrc.out (by rw [hlen'.out]; simp; omega) ?_; intro q2 d2 w2 hO3 hG3)
   refine ⟨⟨j, by omega, rfl, Hi ⟨?_, hK2.out.trans' hG3.out.k (fun i e => .inr (hO2.out.2.1 i e))⟩⟩, by simp [intOf]⟩
   have h3 := hO3.out
   rw [hbt.out] at h3
   simpa using h3
  | zero =>
   have hO' := hO.out
   rw [List.take_of_length_le (by rw [hbl.out]; omega)] at hO'
   have hO2 := Hi hO'
   clear hO hO' hlen
   go_wp2
   go_ret
   exact ⟨q, d, by rw [hbl.out]; rfl, by rw [hbl.out]; exact hO2.out.1, hO2.out.2⟩
set_option maxHeartbeats 1000000 in
theorem l03 (sl : Value) (l : List UInt8) (hl : l.length ≤ 4) (w : World) (h : Hid (a0b w sl l)) :
 Calls Try.prog 32 #[sl] w fun e w' => e = .returned (.int .i64 (a0d l : Nat)) ∧ w = w' := by
 obtain ⟨p, c, rfl, -, -, hb⟩ := h.out
 have hb' := Hi hb; clear hb h
 go_enter Try.func32, Try.ntmps32
 go_wp2
 go_loop [3, 4] (fun nv iv => ∃ k : Nat, k ≤ l.length ∧ nv = .int .i64 (a0d (l.take k) : Nat) ∧ iv = .int .i64 k) (fun _ iv => 4 - (intOf iv).toNat)
 case atStart => exact ⟨0, by omega, by simp [a0d], rfl⟩
 case round =>
  obtain ⟨k, hk, rfl, rfl⟩ := hrel
  by_cases hlk : k < l.length
  ·obtain ⟨g, o, rfl, hr⟩ := hb'.out (by omega)
   have hc := a0k hr k hlk
   have hs : a0d (l.take (k + 1)) = a0d (l.take k) * 256 + (l[k]).toNat := by
    rw [List.take_succ_eq_append_getElem (by omega), j06]
   have hs' := Hi hs; clear hs
   have hm : a0d (l.take k) < 16777216 := by
    have h1 := f0f (l.take k)
    have h2 : (l.take k).length ≤ 3 := by simp; omega
    have h3 : 256 ^ (l.take k).length ≤ 256 ^ 3 := Nat.pow_le_pow_right (by omega) h2
    omega
   have hx := (l[k]).toNat_lt
   obtain ⟨m, hmm⟩ : ∃ m, m = a0d (l.take k) := ⟨_, rfl⟩
   rw [← hmm] at hm hs' ⊢
   clear hmm hr
   go_wp2
   exact ⟨⟨k + 1, by omega, by rw [hs'.out]; go_num, by go_num⟩, by simp [intOf]; omega⟩
  ·obtain rfl : k = l.length := by omega
   rw [List.take_length]
   go_wp2
   go_ret
   exact ⟨rfl, rfl⟩
end Go.Proofs.Ytmggbljkehclpaa
