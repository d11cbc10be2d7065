/- readHalf. -/
import Derived.Test.YtcmpbablmofofaaJR
set_option linter.unusedVariables false
set_option linter.unusedSimpArgs false
namespace Go.Proofs.Ytcmpbablmofofaa
open Go.RowKit
section
variable [Inhabited BaseN]

/-- a half's bytes, as they are read: of so many sectors -/
def halfB (D : Dk) (s : Nat) : Nat → List UInt8
  | 0 => []
  | k + 1 => halfB D s k ++ D.la (s + k)
theorem la_len {D : Dk} {w : World} (h : DkAt D w) {i : Nat} (hi : i < D.n) : (D.la i).length = 64 := by
  obtain ⟨v, hm, -⟩ := h
  exact hm.secs.lla i hi
theorem halfB_len {D : Dk} {w : World} (h : DkAt D w) (s : Nat) : ∀ k, s + k ≤ D.n → (halfB D s k).length = k * 64 := by
  intro k
  induction k with
  | zero => intro _; rfl
  | succ k ih =>
    intro hk
    unfold halfB
    rw [List.length_append, ih (by omega), la_len h (by omega)]; omega
set_option maxRecDepth 100000 in
set_option maxHeartbeats 4000000 in
theorem readHalf_any (D : Dk) (half : Nat) (w : World) (hD : Hid (DkAt D w)) (h4 : 4 ≤ D.n) (hh : half ≤ 1) (hon : D.on = true) :
    Calls Try.prog 55 #[.pointer (some ⟨D.b, 0, none⟩), .int .i64 half] w fun e w' => ∃ p c, e = .returned (.tuple #[.slice p (hsz D * 64) c, .int .i64 0]) ∧ OwnB w w' (.slice p (hsz D * 64) c) (halfB D (2 + half * hsz D) (hsz D)) ∧ Keeps (fun _ => False) w w' := by
  have hn := hD.out.n1.2
  obtain ⟨i0, hi0, hi1, hi2, hi3⟩ := info_parts u8InfoAll
  obtain ⟨H, hH⟩ : ∃ H, hsz D = H := ⟨_, rfl⟩
  have hH1 : (D.n - 2) / 2 = H := hH
  have hs := Lib.hid (halfSize_any _ D w hD.out.own hn h4)
  have hst := Lib.hid (halfStart_any _ D half hh w hD.out.own hn h4)
  rw [hH1] at hs hst
  have hHl : H ≤ 511 := by omega
  have hH2 : 2 + 2 * H ≤ D.n := by omega
  rw [hH]
  obtain ⟨S, hS⟩ : ∃ S, 2 + half * H = S := ⟨_, rfl⟩
  have hSH : S + H ≤ D.n := by
    have : half * H ≤ 1 * H := Nat.mul_le_mul_right H hh
    omega
  rw [hS] at hst ⊢
  clear hS hH1 hH
  go_enter Try.func55, Try.ntmps55
  go_wp2_with fail
  refine hst.out.mono ?_
  rintro e w1 ⟨rfl, rfl⟩
  go_wp2_with fail
  refine hs.out.mono ?_
  rintro e w1 ⟨rfl, rfl⟩
  clear hs hst
  go_wp2_with fail
  go_loopw [16, 6] (fun iv lv wr => ∃ (k R : Nat) (p : Option Addr) (c : Nat), k ≤ H ∧ Hid (R = k * 64) ∧ iv = .int .i64 k ∧ lv = .slice p R c ∧ Hid (OwnB w wr lv (halfB D S k)) ∧ Hid (Keeps (fun _ => False) w wr)) (fun iv _ _ => H - (intOf iv).toNat)
  case atStart => exact ⟨0, 0, none, 0, by omega, Lib.hid rfl, rfl, rfl, Lib.hid (OwnB.nil _ _ (Nat.le_refl _)), Lib.hid (Keeps.refl _ _)⟩
  case round =>
    obtain ⟨k, R, p, c, hk, hRk, rfl, rfl, hO, hK⟩ := hrel
    by_cases hlk : k < H
    · have hR := Lib.hid (own_read_yes _ D wr (S + k) (hD.out.keep hK.out).own hon (by omega))
      obtain ⟨X, hX⟩ : ∃ X, D.la (S + k) = X := ⟨_, rfl⟩
      have hXl : X.length = 64 := by rw [← hX]; exact la_len hD.out (by omega)
      have hlen := halfB_len hD.out S k (by omega)
      have hstep : Hid (halfB D S (k + 1) = halfB D S k ++ X) := Lib.hid (by show halfB D S k ++ D.la (S + k) = _; rw [hX])
      unfold ReadOk at hR
      rw [hX] at hR
      have m2 : (k : Int) < (H : Int) := by omega
      have e1 : IntKind.i64.wrap ((S : Int) + (k : Int)) = ((S + k : Nat) : Int) := by rw [IntWalk.i64_in _ (by omega)]; omega
      clear hX
      rw [show ((S + k : Nat) : Int) = (S : Int) + (k : Int) by omega] at hR
      have hlen' := Lib.hid hlen
      clear hlen e1
      have e1 : IntKind.i64.wrap ((S : Int) + (k : Int)) = (S : Int) + (k : Int) := IntWalk.i64_in _ (by omega)
      go_wp2_with fail
      refine hR.out.mono ?_
      rintro e w2 ⟨rfl, rfl⟩
      have hB2 : Hid (BytesAt (wr.alloc (.cells (X.map bv).toArray 87)) (.slice (some ⟨wr.heap.size, 0, none⟩) 64 64) X) := Lib.hid (BytesAt.of hXl (Nat.le_refl _) (fun j u hu => by
        have h := cells_new (n := wr.heap.size) rfl (X.map bv) 87 j u hu
        rw [Addr.add_mid] at h; exact h))
      have ka : Keeps (fun _ => False) wr (wr.alloc (.cells (X.map bv).toArray 87)) := (Keeps.refl _ _).alloc _
      have hO2 := Lib.hid (hO.out.keep ka (fun _ _ f => f))
      have hK2 := Lib.hid (hK.out.trans ka)
      generalize hgb : wr.heap.size = ab at hB2 ⊢
      generalize hgw : wr.alloc (.cells (X.map bv).toArray 87) = W2 at hB2 hO2 hK2 ⊢
      clear hgb hgw ka hR hO hK
      obtain ⟨Y, hY⟩ : ∃ Y, halfB D S k = Y := ⟨_, rfl⟩
      rw [hY] at hO2 hstep hlen'
      have hRY : R = Y.length := by rw [hRk.out, hlen'.out]
      subst hRY
      have hYl : Y.length ≤ 100000 := by rw [hlen'.out]; omega
      clear hY
      go_wp2_with ((with_reducible refine at_slot 32 ?_); go_must (refine wpList_append_b rfl (.tmp 30) (.tmp 31) 27 rfl i0 Try.underlying27 hi0 hi1 hi2 hi3 w _ Y rfl hO2.out _ rfl X hB2.out (by omega) ?_); intro q8 d8 w8 hO8 hg8)
      have hK8 := Lib.hid (Keeps.trans' hK2.out hg8.out.k (fun i e => .inr (hO2.out.2.1 i e)))
      have hn8 : Hid (Y.length + 64 = (k + 1) * 64) := Lib.hid (by rw [hlen'.out]; omega)
      rw [hXl] at hO8
      exact ⟨⟨k + 1, Y.length + 64, q8, d8, by omega, hn8, by go_num, rfl, by rw [hstep.out]; exact hO8, hK8⟩, by simp [intOf]; omega⟩
    · obtain rfl : k = H := by omega
      have m2 : ¬ (k : Int) < (k : Int) := by omega
      have hR2 := hRk.out
      subst hR2
      go_wp2_with fail
      go_ret2
      exact ⟨p, c, rfl, hO.out, hK.out⟩
end
end Go.Proofs.Ytcmpbablmofofaa
