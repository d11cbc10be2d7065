/- Named, and the document's Word and Named, walked. -/
import Derived.Test.YtdjmhjgfjbcdkaaSCH
namespace Go.Proofs.Ytdjmhjgfjbcdkaa
open Go.RowKit

theorem lexWords_one' {t : List UInt8} (h : isWordB t = true) : lexWords t = ([t], t.length, 0) := by
  have := (lexL_one (s := t)).2 h
  unfold lexWords; rw [this.1]
theorem lexWords_not' {t : List UInt8} {l : List (List UInt8)} {n : Nat} (h : isWordB t = false) (hw : lexWords t = (l, n, 0)) (h1 : l = [t]) : t = [123] ∨ t = [125] ∨ t = [59] := by
  subst h1
  have hl : lexL t = .ok [t] := by
    unfold lexWords at hw
    cases h : lexL t with
    | ok m => rw [h] at hw; injection hw with e _; rw [e]
    | bad m => rw [h] at hw; simp at hw
  have hn : ¬ ∀ c, t = [c] → signB c = false := fun hs => by
    have := (lexL_one (s := t)).1 ⟨hl, hs⟩
    rw [this] at h; cases h
  rw [Classical.not_forall] at hn
  obtain ⟨c, hc⟩ := hn
  rw [Classical.not_imp] at hc
  obtain ⟨rfl, hc⟩ := hc
  have hs : signB c = true := by simpa using hc
  have hc : c = 123 ∨ c = 125 ∨ c = 59 := by simpa [signB, or_assoc] using hs
  rcases hc with rfl | rfl | rfl <;> simp
theorem word_no_sign' {t : List UInt8} (h : isWordB t = true) : t ≠ [123] ∧ t ≠ [125] ∧ t ≠ [59] := by
  refine ⟨?_, ?_, ?_⟩ <;> (rintro rfl; revert h; decide)
theorem lexWords_err' (t : List UInt8) : (lexWords t).2.2 = 0 ∨ (lexWords t).2.2 = 3 := by
  unfold lexWords; cases lexL t <;> simp
theorem lexWords_len' (t : List UInt8) : (lexWords t).1.length ≤ t.length := by
  unfold lexWords
  cases h : lexL t with
  | bad n => simp
  | ok l =>
    have h1 := lexL_total t.length t (Nat.le_refl _) l h
    have h2 : ∀ m : List (List UInt8), (∀ w ∈ m, 1 ≤ w.length) → m.length ≤ total m := by
      intro m
      induction m with
      | nil => simp
      | cons a m ih =>
        intro h
        have := ih (fun w hw => h w (by simp [hw]))
        have := h a (by simp)
        simp [total] at *; omega
    have h3 := h2 l (fun w hw => by
      rcases h1.2 w hw with h | ⟨c, rfl, _⟩
      · unfold isWordB at h; simp at h; omega
      · simp)
    show l.length ≤ t.length
    omega
theorem rWords_l' (s : ByteArray) (l : List (List UInt8)) (n er : Nat) (w : World) (hs : s.size ≤ 8796093022208) (h : Hid (lexWords s.data.toList = (l, n, er))) :
    Calls Try.prog 65 #[.string s] w fun e w' => ∃ p c, e = .returned (.tuple #[.slice p l.length c, .int .i64 (n : Nat), .int .i64 (er : Nat)]) ∧ OwnStrs w w' (.slice p l.length c) l ∧ Keeps (fun _ => False) w w' :=
  (rWords_any s w hs).mono fun e w' h' => by unfold WordsPost at h'; rw [h.out] at h'; exact h'

set_option maxRecDepth 100000 in
set_option maxHeartbeats 1000000 in
theorem rWord_any (x : ByteArray) (r : Bool) (w : World) (hxs : x.size ≤ 8796093022000) (hr : Hid (isWordB x.data.toList = r)) :
    Calls Try.prog 54 #[.string x] w (NewRes (.bool r) w) := by
  go_enter Try.func54, Try.ntmps54
  go_wp2_with fail
  by_cases hw : isWordB x.data.toList = true
  · obtain rfl : r = true := by rw [← hr.out]; exact hw
    have hL := lexWords_one' hw
    have hL' := Lib.hid hL; clear hL
    obtain ⟨k1, k2, k3⟩ := word_no_sign' hw
    rw [← Lib.toList_data] at k1 k2 k3
    have e1 : (x.toList == [123]) = false := by simpa using k1
    have e2 : (x.toList == [125]) = false := by simpa using k2
    have e3 : (x.toList == [59]) = false := by simpa using k3
    clear k1 k2 k3 hw
    refine (rWords_l' x _ _ _ _ (by omega) hL').mono ?_
    rintro e w2 ⟨p2, c2, rfl, hown, hk⟩
    obtain ⟨g, o, rfl, hr1⟩ : ∃ g o, p2 = some ⟨g, o, none⟩ ∧ w2.rangeAt g o ([x.data.toList].map strv) := by
      obtain ⟨q, d, e, h⟩ := hown.at
      obtain ⟨g, o, rfl, hr⟩ := h (by simp)
      injection e with e1 e2 e3
      exact ⟨g, o, e1, hr⟩
    have c0 : w2.cell? ⟨g, o, none⟩ = some (.string x) := hr1 0 _ rfl
    have hown2 := Lib.hid hown; have hk2 := Lib.hid hk; clear hown hk hr1
    go_wp2
    go_ret
    exact ⟨rfl, hk2.out⟩
  · have hw1 : isWordB x.data.toList = false := by simpa using hw
    obtain rfl : r = false := by rw [← hr.out]; exact hw1
    obtain ⟨l, n, er, hL, hll, her⟩ : ∃ (l : List (List UInt8)) (n er : Nat), lexWords x.data.toList = (l, n, er) ∧ l.length ≤ x.size ∧ (er = 0 ∨ er = 3) :=
      ⟨(lexWords x.data.toList).1, (lexWords x.data.toList).2.1, (lexWords x.data.toList).2.2, rfl, by simpa using lexWords_len' x.data.toList, lexWords_err' _⟩
    have hnot : Hid (er = 0 → l = [x.data.toList] → x.data.toList = [123] ∨ x.data.toList = [125] ∨ x.data.toList = [59]) := Lib.hid fun h0 h1 => lexWords_not' hw1 (h0 ▸ hL) h1
    have hL' := Lib.hid hL; clear hL hw hw1
    refine (rWords_l' x l n er _ (by omega) hL').mono ?_
    rintro e w2 ⟨p2, c2, rfl, hown, hk⟩
    have hown2 := Lib.hid hown; have hk2 := Lib.hid hk; clear hown hk
    rcases her with rfl | rfl
    · by_cases hl1 : l.length = 1
      · obtain ⟨y, rfl⟩ := List.length_eq_one_iff.1 hl1
        clear hl1 hll
        obtain ⟨g, o, rfl, hr1⟩ : ∃ g o, p2 = some ⟨g, o, none⟩ ∧ w2.rangeAt g o ([y].map strv) := by
          obtain ⟨q, d, e, h⟩ := hown2.out.at
          obtain ⟨g, o, rfl, hr⟩ := h (by simp)
          injection e with e1 e2 e3
          exact ⟨g, o, e1, hr⟩
        obtain ⟨Y, hY⟩ : ∃ Y : ByteArray, Y = ⟨y.toArray⟩ := ⟨_, rfl⟩
        have c0 : w2.cell? ⟨g, o, none⟩ = some (.string Y) := by rw [hY]; exact hr1 0 _ rfl
        have hYl : Y.toList = y := by rw [hY, Lib.toList_data]
        clear hr1 hY
        by_cases hyx : y = x.data.toList
        · have hs3 := hnot.out rfl (by rw [hyx])
          rw [← Lib.toList_data] at hs3 hyx
          have hE : (Y.toList == x.toList) = true := by rw [hYl, hyx]; simp
          have hy' := Lib.hid hyx; have hYl' := Lib.hid hYl; clear hyx hYl
          rcases hs3 with h3 | h3 | h3
          · have e1 : (x.toList == [123]) = true := by rw [h3]; rfl
            have h3' := Lib.hid h3; clear h3
            go_wp2
            go_ret
            exact ⟨rfl, hk2.out⟩
          · have e1 : (x.toList == [123]) = false := by rw [h3]; rfl
            have e2 : (x.toList == [125]) = true := by rw [h3]; rfl
            have h3' := Lib.hid h3; clear h3
            go_wp2
            go_ret
            exact ⟨rfl, hk2.out⟩
          · have e1 : (x.toList == [123]) = false := by rw [h3]; rfl
            have e2 : (x.toList == [125]) = false := by rw [h3]; rfl
            have e3 : (x.toList == [59]) = true := by rw [h3]; rfl
            have h3' := Lib.hid h3; clear h3
            go_wp2
            go_ret
            exact ⟨rfl, hk2.out⟩
        · have hE : (Y.toList == x.toList) = false := by rw [hYl, Lib.toList_data]; simpa using hyx
          have hYl' := Lib.hid hYl; clear hyx hYl
          go_wp2
          go_ret
          exact ⟨rfl, hk2.out⟩
      · have hE : ((l.length : Int) == 1) = false := by rw [beq_eq_false_iff_ne]; omega
        have hE2 : (l.length == 1) = false := by simpa using hl1
        clear hl1
        go_wp2
        go_ret
        exact ⟨rfl, hk2.out⟩
    · go_wp2
      go_ret
      exact ⟨rfl, hk2.out⟩
end Go.Proofs.Ytdjmhjgfjbcdkaa
