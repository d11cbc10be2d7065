/- SumsInternet, walked. -/
import Derived.Test.YtjggfobnlgppjaaSUF
namespace Go.Proofs.Ytjggfobnlgppjaa
open Go.RowKit

theorem conv_any {W : World} {v : Value} {x : List UInt8} (h : BytesAt W v x) : (convert 22 9 v).run Try.prog W = .ok (.string ⟨x.toArray⟩) W := by
  cases x with
  | cons a x => exact conv_bytes h (by simp)
  | nil =>
    obtain ⟨p, c, rfl, hp, -, -⟩ := h
    cases p with
    | none => obtain rfl := hp rfl; exact conv_nil W
    | some a => exact run_convert_bytes_back W 22 9 5 a c [] Try.underlying22 Try.underlying5 Try.underlying9 (fun j hj => by simp at hj)
theorem BytesAt.head {w : World} {p : Option Addr} {n c : Nat} {x : List UInt8} (h : BytesAt w (.slice p n c) x) (k : Nat) (hk : k ≤ x.length) : BytesAt w (.slice p k c) (x.take k) := by
  obtain ⟨p', c', e, hp, hc, hr⟩ := h
  injection e with e1 e2 e3
  subst e1; subst e3
  refine ⟨p, c, by rw [List.length_take, Nat.min_eq_left hk], hp, by rw [List.length_take]; omega, fun h0 => ?_⟩
  rw [List.length_take] at h0
  obtain ⟨b, o, rfl, hra⟩ := hr (by omega)
  have := range_part hra 0 k
  exact ⟨b, o, rfl, by simpa using this⟩
/-- a copy of the first bytes, of a law's own: b = append([]byte{}, b[:m]...) -/
def own1 (w0 w : World) (v : Value) (x : List UInt8) : Prop := OwnB w0 w v x ∧ Keeps (fun _ => False) w0 w

theorem own1.next {w0 w w' : World} {v : Value} {x : List UInt8} (h : own1 w0 w v x) (k : Keeps (fun _ => False) w w') : own1 w0 w' v x :=
  ⟨h.1.keep k (fun _ _ f => f), h.2.trans k⟩
/-- what the copy leaves -/
theorem own_first {w w1 : World} {q : Option Addr} {d : Nat} {x : List UInt8} {t : TypeId} (h : Hid (OwnB w w1 (.slice q (([] : List UInt8).length + x.length) d) ([] ++ x))) (g : Hid (Grown (w.alloc (.cells #[] t)) (.slice (some ⟨w.heap.size, 0, none⟩) 0 0) q (([] : List UInt8).length + x.length) d w1)) :
    Hid (own1 w w1 (.slice q x.length d) x) :=
  Lib.hid ⟨by simpa using h.out, ((Keeps.refl _ _).alloc _).trans' g.out.k (fun i e => by simp only [Value.ownBlock, Option.some.injEq] at e; exact .inr (by omega))⟩
/-- the first 300 bytes, as the walk spells how many -/
theorem cut300 {w : World} {p : Option Addr} {c : Nat} {l : List UInt8} (h : BytesAt w (.slice p l.length c) l) :
    (300 < l.length ∧ ∃ x : List UInt8, x.length = 300 ∧ BytesAt w (.slice p 300 c) x) ∨ (0 < l.length ∧ l.length ≤ 300 ∧ BytesAt w (.slice p l.length c) l) ∨ (l = [] ∧ BytesAt w (.slice p 0 c) []) := by
  by_cases h3 : 300 < l.length
  · exact .inl ⟨h3, l.take 300, by rw [List.length_take]; omega, h.head 300 (by omega)⟩
  · by_cases h0 : 0 < l.length
    · exact .inr (.inl ⟨h0, by omega, h⟩)
    · have : l = [] := List.length_eq_zero_iff.1 (by omega)
      subst this
      exact .inr (.inr ⟨rfl, h⟩)
theorem bv_lt (n : Nat) (h : n < 256) : bv (UInt8.ofNat n) = .int .u8 (n : Int) := by
  unfold bv
  have : (UInt8.ofNat n).toNat = n := by simp; omega
  rw [this]
theorem bne_self_int (a : Int) : (a != a) = false := by simp
set_option maxRecDepth 100000 in
set_option maxHeartbeats 2000000 in
theorem sumsInternet_law (bw : Value) (l : List UInt8) (w : World) (h : Hid (BytesAt w bw l)) (hl : l.length ≤ 9223372036854775807) :
    Calls Try.prog 3 #[bw] w fun e w' => e = .returned (.bool true) ∧ Keeps (fun _ => False) w w' := by
  obtain ⟨i0, hi0, hz0, hz1, hz2⟩ := info_parts u8InfoAll
  obtain ⟨p, c, rfl, hp0, hc0, hb0⟩ := h.out
  have key : ∀ (M : Nat) (x : List UInt8), x.length = M → M ≤ 300 → BytesAt w (.slice p M c) x → Hid (BytesAt (w.alloc (.cells #[] 5)) (.slice p M c) x ∧ x.length = M) := fun M x e _ hB => Lib.hid ⟨hB.keep ((Keeps.refl _ _).alloc _), e⟩
  have hcut := cut300 h.out
  clear hp0 hb0 h
  rcases hcut with ⟨h3, x, hxl, hx⟩ | ⟨h0, h3, hx⟩ | ⟨rfl, hx⟩
  · have hB1 := key 300 x hxl (by omega) hx
    have hx3 : x.length ≤ 300 := by omega
    clear key hx hxl
    go_enter Try.func3, Try.ntmps3
    go_wp2_with ((with_reducible refine at_slot 11 ?_); refine wpList_append_b rfl (.tmp 5) (.tmp 10) 22 rfl i0 Try.underlying22 hi0 hz0 hz1 hz2 w _ [] rfl (OwnB.empty w w (Nat.le_refl _)) _ rfl x hB1.out.1 (by simp; omega) ?_; intro q d w1 hO1 hG1; have hO := own_first hO1 hG1; clear hO1 hG1; have hcv1 := conv_any hO.out.1.bytes)
    clear hcv1 hB1
    refine (suInternet_any _ x (by omega) _ (Lib.hid hO.out.1.bytes)).mono ?_
    rintro e w2 ⟨rfl, n2, hw2⟩
    have hO2 : Hid (own1 w w2 (.slice q x.length d) x) := Lib.hid (hO.out.next (by rw [hw2]; exact (Keeps.refl _ _).drewN n2))
    clear hw2 hO
    go_wp2_with fail
    refine (known9_any _).mono ?_
    rintro e w3 ⟨rfl, k3⟩
    have hO3 := Lib.hid (hO2.out.next k3)
    clear hO2 k3
    go_wp2_with fail
    refine (r9Internet_any _ x (by omega) _ (Lib.hid hO3.out.1.bytes)).mono ?_
    rintro e w4 ⟨rfl, rfl⟩
    have hne := bne_self_int (inet x : Nat)
    have hcv3 := conv_any hO3.out.1.bytes
    have hin : inet x < 65536 := by unfold inet; omega
    obtain ⟨N, hN⟩ : ∃ N, N = inet x := ⟨_, rfl⟩
    rw [← hN] at hne hin ⊢
    by_cases hev : x.length % 2 = 1
    · have hev1 : ((x.length : Int) % 2 == 1) = true := by rw [beq_iff_eq]; omega
      clear hev hN
      go_wp2_with fail
      go_ret
      exact ⟨rfl, hO3.out.2⟩
    · have hev1 : ((x.length : Int) % 2 == 1) = false := by rw [beq_eq_false_iff_ne]; omega
      have hw := inet_with x (by omega) (UInt8.ofNat (N / 256)) (UInt8.ofNat (N % 256)) (by rw [hN] at hin ⊢; simp; omega) (by rw [hN]; simp)
      have hw' := Lib.hid hw
      have hsrc : Hid (BytesAt (w3.alloc (.cells #[.int .u8 ((N : Int) / 256), .int .u8 ((N : Int) % 256)] 5)) (.slice (some ⟨w3.heap.size, 0, none⟩) 2 2) [UInt8.ofNat (N / 256), UInt8.ofNat (N % 256)]) := Lib.hid (by
        have := (OwnB.new w3 w3 (Nat.le_refl _) [UInt8.ofNat (N / 256), UInt8.ofNat (N % 256)] (n := 2) rfl (by unfold maxLen; omega)).bytes
        rw [List.map_cons, List.map_cons, List.map_nil, bv_lt _ (by omega), bv_lt _ (by omega)] at this
        exact this)
      have hO4 := Lib.hid (hO3.out.next ((Keeps.refl _ _).alloc (.cells #[.int .u8 ((N : Int) / 256), .int .u8 ((N : Int) % 256)] 5)))
      clear hev hN hw hO3
      go_wp2_with ((with_reducible refine at_slot 41 ?_); refine wpList_append_b rfl (.tmp 34) (.tmp 40) 22 rfl i0 Try.underlying22 hi0 hz0 hz1 hz2 w _ x rfl hO4.out.1 _ rfl [UInt8.ofNat (N / 256), UInt8.ofNat (N % 256)] hsrc.out (by simp; omega) ?_; intro q2 d2 w5 hO5 hG5)
      have k5 : Hid (Keeps (fun _ => False) w w5) := Lib.hid (hO4.out.2.trans' hG5.out.k (fun i e => .inr (hO4.out.1.2.1 i e)))
      clear hG5 hsrc hO4
      refine (suInternet_any _ (x ++ [UInt8.ofNat (N / 256), UInt8.ofNat (N % 256)]) (by simp; omega) _ (Lib.hid hO5.out.bytes)).mono ?_
      rintro e w6 ⟨rfl, n6, hw6⟩
      have k6 : Hid (Keeps (fun _ => False) w w6) := Lib.hid (by rw [hw6]; exact k5.out.drewN n6)
      rw [hw'.out]
      clear hw6 hO5 k5 hw'
      go_wp2_with fail
      go_ret
      exact ⟨rfl, k6.out⟩
  · obtain ⟨x, hxe⟩ : ∃ x, x = l := ⟨_, rfl⟩
    have hB1 := key l.length x (by rw [hxe]) h3 (by rw [hxe]; exact hx)
    have hx3 : x.length ≤ 300 := by rw [hxe]; exact h3
    clear key hx hxe
    go_enter Try.func3, Try.ntmps3
    go_wp2_with ((with_reducible refine at_slot 11 ?_); refine wpList_append_b rfl (.tmp 5) (.tmp 10) 22 rfl i0 Try.underlying22 hi0 hz0 hz1 hz2 w _ [] rfl (OwnB.empty w w (Nat.le_refl _)) _ rfl x hB1.out.1 (by simp; omega) ?_; intro q d w1 hO1 hG1; have hO := own_first hO1 hG1; clear hO1 hG1; have hcv1 := conv_any hO.out.1.bytes)
    clear hcv1 hB1
    refine (suInternet_any _ x (by omega) _ (Lib.hid hO.out.1.bytes)).mono ?_
    rintro e w2 ⟨rfl, n2, hw2⟩
    have hO2 : Hid (own1 w w2 (.slice q x.length d) x) := Lib.hid (hO.out.next (by rw [hw2]; exact (Keeps.refl _ _).drewN n2))
    clear hw2 hO
    go_wp2_with fail
    refine (known9_any _).mono ?_
    rintro e w3 ⟨rfl, k3⟩
    have hO3 := Lib.hid (hO2.out.next k3)
    clear hO2 k3
    go_wp2_with fail
    refine (r9Internet_any _ x (by omega) _ (Lib.hid hO3.out.1.bytes)).mono ?_
    rintro e w4 ⟨rfl, rfl⟩
    have hne := bne_self_int (inet x : Nat)
    have hcv3 := conv_any hO3.out.1.bytes
    have hin : inet x < 65536 := by unfold inet; omega
    obtain ⟨N, hN⟩ : ∃ N, N = inet x := ⟨_, rfl⟩
    rw [← hN] at hne hin ⊢
    by_cases hev : x.length % 2 = 1
    · have hev1 : ((x.length : Int) % 2 == 1) = true := by rw [beq_iff_eq]; omega
      clear hev hN
      go_wp2_with fail
      go_ret
      exact ⟨rfl, hO3.out.2⟩
    · have hev1 : ((x.length : Int) % 2 == 1) = false := by rw [beq_eq_false_iff_ne]; omega
      have hw := inet_with x (by omega) (UInt8.ofNat (N / 256)) (UInt8.ofNat (N % 256)) (by rw [hN] at hin ⊢; simp; omega) (by rw [hN]; simp)
      have hw' := Lib.hid hw
      have hsrc : Hid (BytesAt (w3.alloc (.cells #[.int .u8 ((N : Int) / 256), .int .u8 ((N : Int) % 256)] 5)) (.slice (some ⟨w3.heap.size, 0, none⟩) 2 2) [UInt8.ofNat (N / 256), UInt8.ofNat (N % 256)]) := Lib.hid (by
        have := (OwnB.new w3 w3 (Nat.le_refl _) [UInt8.ofNat (N / 256), UInt8.ofNat (N % 256)] (n := 2) rfl (by unfold maxLen; omega)).bytes
        rw [List.map_cons, List.map_cons, List.map_nil, bv_lt _ (by omega), bv_lt _ (by omega)] at this
        exact this)
      have hO4 := Lib.hid (hO3.out.next ((Keeps.refl _ _).alloc (.cells #[.int .u8 ((N : Int) / 256), .int .u8 ((N : Int) % 256)] 5)))
      clear hev hN hw hO3
      go_wp2_with ((with_reducible refine at_slot 41 ?_); refine wpList_append_b rfl (.tmp 34) (.tmp 40) 22 rfl i0 Try.underlying22 hi0 hz0 hz1 hz2 w _ x rfl hO4.out.1 _ rfl [UInt8.ofNat (N / 256), UInt8.ofNat (N % 256)] hsrc.out (by simp; omega) ?_; intro q2 d2 w5 hO5 hG5)
      have k5 : Hid (Keeps (fun _ => False) w w5) := Lib.hid (hO4.out.2.trans' hG5.out.k (fun i e => .inr (hO4.out.1.2.1 i e)))
      clear hG5 hsrc hO4
      refine (suInternet_any _ (x ++ [UInt8.ofNat (N / 256), UInt8.ofNat (N % 256)]) (by simp; omega) _ (Lib.hid hO5.out.bytes)).mono ?_
      rintro e w6 ⟨rfl, n6, hw6⟩
      have k6 : Hid (Keeps (fun _ => False) w w6) := Lib.hid (by rw [hw6]; exact k5.out.drewN n6)
      rw [hw'.out]
      clear hw6 hO5 k5 hw'
      go_wp2_with fail
      go_ret
      exact ⟨rfl, k6.out⟩
  · obtain ⟨x, hxe⟩ : ∃ x : List UInt8, x = [] := ⟨_, rfl⟩
    have hB1 := key 0 x (by rw [hxe]; rfl) (by omega) (by rw [hxe]; exact hx)
    have hx3 : x.length ≤ 300 := by rw [hxe]; simp
    clear key hx hxe
    show Calls Try.prog 3 #[.slice p 0 c] w _
    go_enter Try.func3, Try.ntmps3
    go_wp2_with ((with_reducible refine at_slot 11 ?_); refine wpList_append_b rfl (.tmp 5) (.tmp 10) 22 rfl i0 Try.underlying22 hi0 hz0 hz1 hz2 w _ [] rfl (OwnB.empty w w (Nat.le_refl _)) _ rfl x hB1.out.1 (by simp; omega) ?_; intro q d w1 hO1 hG1; have hO := own_first hO1 hG1; clear hO1 hG1; have hcv1 := conv_any hO.out.1.bytes)
    clear hcv1 hB1
    refine (suInternet_any _ x (by omega) _ (Lib.hid hO.out.1.bytes)).mono ?_
    rintro e w2 ⟨rfl, n2, hw2⟩
    have hO2 : Hid (own1 w w2 (.slice q x.length d) x) := Lib.hid (hO.out.next (by rw [hw2]; exact (Keeps.refl _ _).drewN n2))
    clear hw2 hO
    go_wp2_with fail
    refine (known9_any _).mono ?_
    rintro e w3 ⟨rfl, k3⟩
    have hO3 := Lib.hid (hO2.out.next k3)
    clear hO2 k3
    go_wp2_with fail
    refine (r9Internet_any _ x (by omega) _ (Lib.hid hO3.out.1.bytes)).mono ?_
    rintro e w4 ⟨rfl, rfl⟩
    have hne := bne_self_int (inet x : Nat)
    have hcv3 := conv_any hO3.out.1.bytes
    have hin : inet x < 65536 := by unfold inet; omega
    obtain ⟨N, hN⟩ : ∃ N, N = inet x := ⟨_, rfl⟩
    rw [← hN] at hne hin ⊢
    by_cases hev : x.length % 2 = 1
    · have hev1 : ((x.length : Int) % 2 == 1) = true := by rw [beq_iff_eq]; omega
      clear hev hN
      go_wp2_with fail
      go_ret
      exact ⟨rfl, hO3.out.2⟩
    · have hev1 : ((x.length : Int) % 2 == 1) = false := by rw [beq_eq_false_iff_ne]; omega
      have hw := inet_with x (by omega) (UInt8.ofNat (N / 256)) (UInt8.ofNat (N % 256)) (by rw [hN] at hin ⊢; simp; omega) (by rw [hN]; simp)
      have hw' := Lib.hid hw
      have hsrc : Hid (BytesAt (w3.alloc (.cells #[.int .u8 ((N : Int) / 256), .int .u8 ((N : Int) % 256)] 5)) (.slice (some ⟨w3.heap.size, 0, none⟩) 2 2) [UInt8.ofNat (N / 256), UInt8.ofNat (N % 256)]) := Lib.hid (by
        have := (OwnB.new w3 w3 (Nat.le_refl _) [UInt8.ofNat (N / 256), UInt8.ofNat (N % 256)] (n := 2) rfl (by unfold maxLen; omega)).bytes
        rw [List.map_cons, List.map_cons, List.map_nil, bv_lt _ (by omega), bv_lt _ (by omega)] at this
        exact this)
      have hO4 := Lib.hid (hO3.out.next ((Keeps.refl _ _).alloc (.cells #[.int .u8 ((N : Int) / 256), .int .u8 ((N : Int) % 256)] 5)))
      clear hev hN hw hO3
      go_wp2_with ((with_reducible refine at_slot 41 ?_); refine wpList_append_b rfl (.tmp 34) (.tmp 40) 22 rfl i0 Try.underlying22 hi0 hz0 hz1 hz2 w _ x rfl hO4.out.1 _ rfl [UInt8.ofNat (N / 256), UInt8.ofNat (N % 256)] hsrc.out (by simp; omega) ?_; intro q2 d2 w5 hO5 hG5)
      have k5 : Hid (Keeps (fun _ => False) w w5) := Lib.hid (hO4.out.2.trans' hG5.out.k (fun i e => .inr (hO4.out.1.2.1 i e)))
      clear hG5 hsrc hO4
      refine (suInternet_any _ (x ++ [UInt8.ofNat (N / 256), UInt8.ofNat (N % 256)]) (by simp; omega) _ (Lib.hid hO5.out.bytes)).mono ?_
      rintro e w6 ⟨rfl, n6, hw6⟩
      have k6 : Hid (Keeps (fun _ => False) w w6) := Lib.hid (by rw [hw6]; exact k5.out.drewN n6)
      rw [hw'.out]
      clear hw6 hO5 k5 hw'
      go_wp2_with fail
      go_ret
      exact ⟨rfl, k6.out⟩
end Go.Proofs.Ytjggfobnlgppjaa
