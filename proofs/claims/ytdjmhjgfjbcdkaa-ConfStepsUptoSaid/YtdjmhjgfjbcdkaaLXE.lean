/- Rows of texts; IsWord. -/
import Derived.Test.YtdjmhjgfjbcdkaaLXD
namespace Go.Proofs.Ytdjmhjgfjbcdkaa
open Go.RowKit

def StrsAt (w : World) (v : Value) (xs : List (List UInt8)) : Prop := ∃ p c, v = .slice p xs.length c ∧ (0 < xs.length → ∃ g o, p = some ⟨g, o, none⟩ ∧ w.rangeAt g o (xs.map strv))
theorem OwnStrs.at {w0 w : World} {v : Value} {xs : List (List UInt8)} (h : OwnStrs w0 w v xs) : StrsAt w v xs := by
  obtain ⟨p, c, rfl⟩ := h.slice
  refine ⟨p, c, rfl, fun h0 => ?_⟩
  rcases h.1.2 with ⟨_, h2⟩ | ⟨g, cap, cur, he, _⟩
  · first | omega | (simp at h2; subst h2; simp at h0)
  · injection he with e1 e2 e3
    subst e1
    refine ⟨g, 0, rfl, fun j u hu => ?_⟩
    have := h.1.cells (g := g) rfl j u hu
    rw [Addr.add_mid] at this
    exact this
theorem StrsAt.keep {F : Nat → Prop} {w w' : World} {v : Value} {xs : List (List UInt8)} (h : StrsAt w v xs) (k : Keeps F w w') (hF : 0 < xs.length → ∀ i, v.ownBlock = some i → ¬ F i) : StrsAt w' v xs := by
  obtain ⟨p, c, rfl, h⟩ := h
  refine ⟨p, c, rfl, fun h0 => ?_⟩
  obtain ⟨g, o, rfl, hr⟩ := h h0
  exact ⟨g, o, rfl, k.rangeAt hr (hF h0 g rfl)⟩

theorem ba_toList (x : List UInt8) : (⟨x.toArray⟩ : ByteArray).toList = x := by simp

set_option maxRecDepth 100000 in
theorem isWord_any (s : ByteArray) (r : Bool) (w : World) (hs : s.size ≤ 9223372036854775807) (hr : Hid (isWordB s.data.toList = r)) :
    Calls Try.prog 59 #[.string s] w fun e w' => e = .returned (.bool r) ∧ w = w' := by
  have hiff := isWord_iff (s := s.data.toList)
  rw [hr.out] at hiff
  have hl : s.data.toList.length = s.size := by simp
  rw [hl] at hiff
  by_cases h1 : 1 ≤ s.size ∧ s.size ≤ 31
  · have hf : Hid (decide ((1 : Int) ≤ (s.size : Int) ∧ (s.size : Int) ≤ 31) = true) := Lib.hid (by simp; omega)
    obtain ⟨m, hm⟩ : ∃ m, 0 + wlen (s.data.toList.drop 0) = m := ⟨_, rfl⟩
    have hm2 : wlen s.data.toList = m := by simpa using hm
    rw [hm2] at hiff
    by_cases h2 : m = s.size
    · obtain rfl : r = true := by rw [hiff]; simp [h1, h2]
      have h3 : ((m : Int) == (s.size : Int)) = true := by rw [h2]; simp
      have h4 : (m == s.size) = true := by simp [h2]
      have hm' := Lib.hid hm; clear hm hm2 hiff hl h1 h2
      go_enter Try.func59, Try.ntmps59
      go_wp2_with (first | (go_at_call 67; refine (fits_r _ true _ (by omega) hf).mono ?_; rintro e w' ⟨rfl, rfl⟩) | (go_at_call 68; refine (wordEnd_any s 0 m _ hm' hs (by omega)).mono ?_; rintro e w' ⟨rfl, rfl⟩))
      go_ret
      exact ⟨rfl, rfl⟩
    · obtain rfl : r = false := by rw [hiff]; simp [h2]
      have h3 : ((m : Int) == (s.size : Int)) = false := by rw [beq_eq_false_iff_ne]; omega
      have h4 : (m == s.size) = false := by simpa using h2
      have hm' := Lib.hid hm; clear hm hm2 hiff hl h1 h2
      go_enter Try.func59, Try.ntmps59
      go_wp2_with (first | (go_at_call 67; refine (fits_r _ true _ (by omega) hf).mono ?_; rintro e w' ⟨rfl, rfl⟩) | (go_at_call 68; refine (wordEnd_any s 0 m _ hm' hs (by omega)).mono ?_; rintro e w' ⟨rfl, rfl⟩))
      go_ret
      exact ⟨rfl, rfl⟩
  · have hf : Hid (decide ((1 : Int) ≤ (s.size : Int) ∧ (s.size : Int) ≤ 31) = false) := Lib.hid (by simp; omega)
    obtain rfl : r = false := by rw [hiff, decide_eq_false_iff_not]; rintro ⟨a, b, _⟩; exact h1 ⟨a, b⟩
    clear hiff hl h1
    go_enter Try.func59, Try.ntmps59
    go_wp2_with (go_at_call 67; refine (fits_r _ false _ (by omega) hf).mono ?_; rintro e w' ⟨rfl, rfl⟩)
    go_ret
    exact ⟨rfl, rfl⟩

theorem strs_lit (w w1 : World) (xs : List (List UInt8)) (n : Nat) (hn : n = xs.length) (hc : ∀ j u, (xs.map strv)[j]? = some u → w.cell? ⟨w1.heap.size, j, none⟩ = some u) : StrsAt w (.slice (some ⟨w1.heap.size, 0, none⟩) n n) xs := by
  subst hn
  exact ⟨_, _, rfl, fun _ => ⟨_, _, rfl, fun j u hu => by rw [Nat.zero_add]; exact hc j u hu⟩⟩
theorem OwnStrs.after {w0 w w' : World} {v : Value} {xs : List (List UInt8)} (h : OwnStrs w0 w v xs) {F : Nat → Prop} (k : Keeps F w w') (hF : ∀ i, F i → i < w0.heap.size) : StrsAt w' v xs :=
  h.at.keep k (fun _ i e f => by have := h.2 i e; have := hF i f; omega)

end Go.Proofs.Ytdjmhjgfjbcdkaa
