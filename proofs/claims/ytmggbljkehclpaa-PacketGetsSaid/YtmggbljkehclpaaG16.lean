/- PI -/
import Derived.Test.YtmggbljkehclpaaG08
import Derived.Test.YtmggbljkehclpaaG13
set_option linter.unusedVariables false
set_option linter.unusedSimpArgs false
namespace Go.Proofs.Ytmggbljkehclpaa
open Go.RowKit
set_option maxRecDepth 100000 in
set_option maxHeartbeats 4000000 in
theorem j07 (g o c : Nat) (x : List UInt8) (S : Nat) (hx : 24 ≤ x.length) (hx2 : x.length ≤ 900000) (hc : x.length ≤ c) (w : World) (hr : Hid (w.rangeAt g o (x.map bv))) (hS : Hid (sumX x = S)) :
 Calls Try.prog 21 #[.slice (some ⟨g, o, none⟩) x.length c] w fun e w' => e = .returned (.int .u16 S) ∧ a02 (fun _ => False) w w' := by
 obtain ⟨i0, hi0, hz0, hz1, hz2⟩ := info_parts b0g
 have i12 : (12 : Int) ≤ c := by omega
 have i16 : (16 : Int) ≤ c := by omega
 have i24 : (24 : Int) ≤ x.length := by omega
 have i24c : (24 : Int) ≤ c := by omega
 have j14 : ¬ c = 14 := by omega
 obtain ⟨A, hA⟩ : ∃ A, sub x 0 12 = A := ⟨_, rfl⟩
 obtain ⟨B, hB⟩ : ∃ B, sub x 14 2 = B := ⟨_, rfl⟩
 obtain ⟨C, hC⟩ : ∃ C, x.drop 24 = C := ⟨_, rfl⟩
 have lA : A.length = 12 := by rw [← hA]; exact a0k (by omega)
 have lB : B.length = 2 := by rw [← hB]; exact a0k (by omega)
 have lC : C.length = x.length - 24 := by rw [← hC]; simp
 obtain ⟨n, hn⟩ : ∃ n, n = x.length := ⟨_, rfl⟩
 rw [← hn] at hx hx2 hc i24 lC ⊢
 have hall : Hid (inet (A ++ [0, 0] ++ B ++ C) = S) := Hi (by rw [← hS.out, ← hA, ← hB, ← hC]; rfl)
 have hrA : Hid (∀ W, a02 (fun _ => False) w W → a0a W (.slice (some ⟨g, o, none⟩) 12 c) A) := Hi (fun W k => by
  have := a0c (k.rangeAt hr.out id) (c := c) (by omega) 0 12 (by omega)
  rw [hA] at this; exact this)
 have hrB : Hid (∀ W, a02 (fun _ => False) w W → a0a W (.slice (some ⟨g, o + 14, none⟩) 2 (c - 14)) B) := Hi (fun W k => by
  have := a0c (k.rangeAt hr.out id) (c := c) (by omega) 14 2 (by omega)
  rw [hB] at this; exact this)
 have hrC : Hid (∀ W, a02 (fun _ => False) w W → a0a W (.slice (if c = 24 then some ⟨g, o, none⟩ else some ⟨g, o + 24, none⟩) (n - 24) (c - 24)) C) := Hi (fun W k => by
  have := a0w (k.rangeAt hr.out id) (c := c) (by omega) 24 (by omega)
  rw [hC, ← hn] at this
  exact this)
 have lA' := Hi lA; have lB' := Hi lB; have lC' := Hi lC
 clear hA hB hC lA lB lC hS hr hn
 have hO0 : Hid (OwnB w (w.alloc (.cells #[] 5)) (.slice (some ⟨w.heap.size, 0, none⟩) 0 0) []) := Hi (OwnB.empty w w (Nat.le_refl _))
 have hk0 : Hid (a02 (fun _ => False) w (w.alloc (.cells #[] 5))) := Hi ((a02.refl _ _).alloc _)
 go_enter Try.func21, Try.ntmps21
 go_upto_region 2 with (first | ((with_reducible refine a09 7 ?_); go_must (refine a0f rfl (.tmp 4) (.tmp 6) 31 rfl i0 Try.underlying31 hi0 hz0 hz1 hz2 w _ [] rfl hO0.out _ rfl A (hrA.out _ hk0.out) (by rw [lA'.out]; simp) ?_; intro q1 d1 w1 hO1 hg1; have hO2 := d05 (N := 12) (show ([] : List UInt8).length = 0 from rfl) (by rw [lA'.out]) (show [] ++ A = A from rfl) hO1; have k1 := Hi (hO0.out.keeps hk0.out hg1.out); clear hO1 hg1; rw [show ([] : List UInt8).length + A.length = 12 by rw [lA'.out]; rfl]; have hO3 := Hi (hO2.out.keep ((a02.refl (fun _ => False) _).alloc (.cells #[.int .u8 0, .int .u8 0] 5)) (fun _ _ f => f)); have k3 := Hi (k1.out.alloc (.cells #[.int .u8 0, .int .u8 0] 5)); have hz2s := Hi ((OwnB.new w1 w1 (Nat.le_refl _) [0, 0] (n := 2) rfl (by unfold maxLen; omega)).bytes); clear hO2 k1)) | ((with_reducible refine a09 9 ?_); go_must (refine a0f rfl (.tmp 7) (.tmp 8) 31 rfl i0 Try.underlying31 hi0 hz0 hz1 hz2 w _ A rfl (hv20 lA'.out hO3).out _ rfl [0, 0] hz2s.out (by rw [lA'.out]; simp) ?_; intro q4 d4 w4 hO4 hg4)))
 obtain ⟨X4, hX4⟩ : ∃ X, A ++ [0, 0] = X := ⟨_, rfl⟩
 have l4 : X4.length = 14 := by rw [← hX4, List.length_append, lA'.out]; rfl
 have hO5 := d05 (N := 14) lA'.out (show 14 = 12 + ([0, 0] : List UInt8).length from rfl) hX4 hO4
 have k5 := Hi (hO3.out.keeps k3.out hg4.out)
 rw [show A.length + 2 = 14 by rw [lA'.out]]
 have hX4' := Hi hX4; have l4' := Hi l4
 clear hO4 hg4 hX4 l4 hO3 k3 hz2s hO0 hk0
 go_upto_region 3 with ((with_reducible refine a09 13 ?_); go_must (refine a0f rfl (.tmp 10) (.tmp 12) 31 rfl i0 Try.underlying31 hi0 hz0 hz1 hz2 w _ X4 rfl (hv20 l4'.out hO5).out _ rfl B (hrB.out _ k5.out) (by rw [l4'.out, lB'.out]; simp) ?_; intro q6 d6 w6 hO6 hg6))
 obtain ⟨X6, hX6⟩ : ∃ X, X4 ++ B = X := ⟨_, rfl⟩
 have l6 : X6.length = 16 := by rw [← hX6, List.length_append, l4'.out, lB'.out]
 have hO7 := d05 (N := 16) l4'.out (by rw [lB'.out]) hX6 hO6
 have k7 := Hi (hO5.out.keeps k5.out hg6.out)
 rw [show X4.length + B.length = 16 by rw [l4'.out, lB'.out]]
 have hX6' := Hi hX6; have l6' := Hi l6
 clear hO6 hg6 hX6 l6 hO5 k5
 have hrC7 := Hi (hrC.out _ k7.out)
 by_cases hc24 : c = 24
 ·rw [if_pos hc24, show c - 24 = 0 by omega] at hrC7
  go_wp2_with ((with_reducible refine a09 17 ?_); go_must (refine a0f rfl (.tmp 14) (.tmp 16) 31 rfl i0 Try.underlying31 hi0 hz0 hz1 hz2 w _ X6 rfl (hv20 l6'.out hO7).out _ rfl C hrC7.out (by rw [l6'.out, lC'.out]; omega) ?_; intro q8 d8 w8 hO8 hg8))
  have hb := hO8.out.bytes
  have k8 := Hi (hO7.out.keeps k7.out hg8.out)
  have hlen : (X6 ++ C).length = X6.length + C.length := List.length_append
  refine (g0o _ (X6 ++ C) (by rw [hlen, l6'.out, lC'.out]; omega) _ (Hi hb)).mono ?_
  rintro e w9 ⟨rfl, m, rfl⟩
  have hS2 : Hid (inet (X6 ++ C) = S) := Hi (by rw [← hall.out, ← hX6'.out, ← hX4'.out])
  rw [hS2.out]
  clear hO8 hg8 hb hlen
  go_wp2_with fail
  go_ret
  exact ⟨rfl, k8.out.drewN m⟩
 ·rw [if_neg hc24] at hrC7
  go_wp2_with ((with_reducible refine a09 17 ?_); go_must (refine a0f rfl (.tmp 14) (.tmp 16) 31 rfl i0 Try.underlying31 hi0 hz0 hz1 hz2 w _ X6 rfl (hv20 l6'.out hO7).out _ rfl C hrC7.out (by rw [l6'.out, lC'.out]; omega) ?_; intro q8 d8 w8 hO8 hg8))
  have hb := hO8.out.bytes
  have k8 := Hi (hO7.out.keeps k7.out hg8.out)
  have hlen : (X6 ++ C).length = X6.length + C.length := List.length_append
  refine (g0o _ (X6 ++ C) (by rw [hlen, l6'.out, lC'.out]; omega) _ (Hi hb)).mono ?_
  rintro e w9 ⟨rfl, m, rfl⟩
  have hS2 : Hid (inet (X6 ++ C) = S) := Hi (by rw [← hall.out, ← hX6'.out, ← hX4'.out])
  rw [hS2.out]
  clear hO8 hg8 hb hlen
  go_wp2_with fail
  go_ret
  exact ⟨rfl, k8.out.drewN m⟩
end Go.Proofs.Ytmggbljkehclpaa
