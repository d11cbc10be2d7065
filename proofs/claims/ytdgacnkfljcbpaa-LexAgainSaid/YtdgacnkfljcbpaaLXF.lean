/- The statements of layer 3, walked. -/
import Derived.Test.YtdgacnkfljcbpaaLXK
namespace Go.Proofs.Ytdgacnkfljcbpaa
open Go.RowKit

theorem lexWords_len (t : List UInt8) : (lexWords t).1.length ≤ t.length := by
  unfold lexWords
  cases h : lexL t with
  | bad n => simp
  | ok l =>
    have h1 := lexL_total t.length t (Nat.le_refl _) l h
    have h2 : ∀ m : List (List UInt8), (∀ w ∈ m, 1 ≤ w.length) → m.length ≤ total m := by
      intro m
      induction m with
      | nil => simp
      | cons a m ih =>
        intro h
        have := ih (fun w hw => h w (by simp [hw]))
        have := h a (by simp)
        simp [total] at *; omega
    have h3 := h2 l (fun w hw => by
      rcases h1.2 w hw with h | ⟨c, rfl, _⟩
      · unfold isWordB at h; simp at h; omega
      · simp)
    show l.length ≤ t.length
    omega
theorem lexWords_err (t : List UInt8) : (lexWords t).2.2 = 0 ∨ (lexWords t).2.2 = 3 := by
  unfold lexWords; cases lexL t <;> simp

theorem words_l (s : ByteArray) (l : List (List UInt8)) (n er : Nat) (w : World) (hs : s.size ≤ 8796093022208) (h : Hid (lexWords s.data.toList = (l, n, er))) :
    Calls Try.prog 11 #[.string s] w fun e w' => ∃ p c, e = .returned (.tuple #[.slice p l.length c, .int .i64 (n : Nat), .int .i64 (er : Nat)]) ∧ OwnStrs w w' (.slice p l.length c) l ∧ Keeps (fun _ => False) w w' :=
  (words_any s w hs).mono fun e w' h' => by unfold WordsPost at h'; rw [h.out] at h'; exact h'
theorem rWords_l (s : ByteArray) (l : List (List UInt8)) (n er : Nat) (w : World) (hs : s.size ≤ 8796093022208) (h : Hid (lexWords s.data.toList = (l, n, er))) :
    Calls Try.prog 12 #[.string s] w fun e w' => ∃ p c, e = .returned (.tuple #[.slice p l.length c, .int .i64 (n : Nat), .int .i64 (er : Nat)]) ∧ OwnStrs w w' (.slice p l.length c) l ∧ Keeps (fun _ => False) w w' :=
  (rWords_any s w hs).mono fun e w' h' => by unfold WordsPost at h'; rw [h.out] at h'; exact h'
theorem lexWords_ex (s : ByteArray) : ∃ (l : List (List UInt8)) (n er : Nat), lexWords s.data.toList = (l, n, er) ∧ l.length ≤ s.size ∧ (er = 0 ∨ er = 3) := by
  refine ⟨(lexWords s.data.toList).1, (lexWords s.data.toList).2.1, (lexWords s.data.toList).2.2, rfl, ?_, lexWords_err _⟩
  have := lexWords_len s.data.toList
  simpa using this
theorem cut_size (s : ByteArray) (n : Nat) : (s.extract 0 n).size ≤ n := by simp; omega

/-- of a text of at most n bytes x the rest of the law -/
def lawEnd (w : World) (e : Ending) (w' : World) : Prop := e = .returned (.bool true) ∧ Below w.heap.size w w'
theorem lawEnd.mk {w w' : World} (h : Keeps (fun _ => False) w w') : lawEnd w (.returned (.bool true)) w' := ⟨rfl, h.below (Nat.le_refl _) (fun _ h => h.elim)⟩

set_option maxRecDepth 100000 in
theorem lexWords_law (s : ByteArray) (w : World) (hs : s.size ≤ 9223372036854775807) :
    Calls Try.prog 3 #[.string s] w (lawEnd w) := by
  by_cases h : s.size ≤ 200
  all_goals
    go_enter Try.func3, Try.ntmps3
    go_wp2_with fail
    first
      | (obtain ⟨x, hx⟩ : ∃ x : ByteArray, x = s.extract 0 200 := ⟨_, rfl⟩
         have hxs : x.size ≤ 200 := by rw [hx]; exact cut_size s 200
         rw [← hx])
      | (obtain ⟨x, hx⟩ : ∃ x : ByteArray, x = s := ⟨_, rfl⟩
         have hxs : x.size ≤ 200 := by rw [hx]; exact h
         rw [← hx])
    have hx' := Lib.hid hx; clear hx
    obtain ⟨l, n, er, hL, hll, her⟩ := lexWords_ex x
    have hL' := Lib.hid hL; clear hL
    refine (words_l x l n er _ (by omega) hL').mono ?_
    rintro e w1 ⟨p, c, rfl, hown, hk⟩
    have hown1 := Lib.hid hown; have hk1 := Lib.hid hk; clear hown hk
    go_wp2_with fail
    refine (rWords_l x l n er _ (by omega) hL').mono ?_
    rintro e w2 ⟨p2, c2, rfl, hown, hk⟩
    have hown2 := Lib.hid hown; have hk2 := Lib.hid hk; clear hown hk
    go_wp2_with fail
    refine (reads3_any _).mono ?_
    rintro e w3 ⟨rfl, hk⟩
    have hk3 := Lib.hid hk; clear hk
    go_wp2_with fail
    refine (rSame3_any _ _ l l _ (hown1.out.after (hk2.out.trans hk3.out) (fun _ h => h.elim)) (hown2.out.after hk3.out (fun _ h => h.elim)) (by omega) (by omega)).mono ?_
    rintro e w4 ⟨rfl, n4, rfl⟩
    have hb : (l == l) = true := by simp
    rcases her with rfl | rfl
    · go_wp2
      go_ret
      exact lawEnd.mk (((hk1.out.trans hk2.out).trans hk3.out).drewN _)
    · go_wp2
      go_ret
      exact lawEnd.mk (((hk1.out.trans hk2.out).trans hk3.out).drewN _)

theorem lexWords_one {t : List UInt8} (h : isWordB t = true) : lexWords t = ([t], t.length, 0) := by
  have := (lexL_one (s := t)).2 h
  unfold lexWords; rw [this.1]
theorem lexWords_not {t : List UInt8} {l : List (List UInt8)} {n : Nat} (h : isWordB t = false) (hw : lexWords t = (l, n, 0)) (h1 : l = [t]) : t = [123] ∨ t = [125] ∨ t = [59] := by
  subst h1
  have hl : lexL t = .ok [t] := by
    unfold lexWords at hw
    cases h : lexL t with
    | ok m => rw [h] at hw; injection hw with e _; rw [e]
    | bad m => rw [h] at hw; simp at hw
  have hn : ¬ ∀ c, t = [c] → signB c = false := fun hs => by
    have := (lexL_one (s := t)).1 ⟨hl, hs⟩
    rw [this] at h; cases h
  rw [Classical.not_forall] at hn
  obtain ⟨c, hc⟩ := hn
  rw [Classical.not_imp] at hc
  obtain ⟨rfl, hc⟩ := hc
  have hs : signB c = true := by simpa using hc
  have hc : c = 123 ∨ c = 125 ∨ c = 59 := by simpa [signB, or_assoc] using hs
  rcases hc with rfl | rfl | rfl <;> simp
theorem word_no_sign {t : List UInt8} (h : isWordB t = true) : t ≠ [123] ∧ t ≠ [125] ∧ t ≠ [59] := by
  refine ⟨?_, ?_, ?_⟩ <;> (rintro rfl; revert h; decide)
theorem ba_list (x : ByteArray) : x.toList = x.data.toList := ba_toList x.data.toList

set_option maxRecDepth 100000 in
theorem lexOne_law (s : ByteArray) (w : World) (hs : s.size ≤ 9223372036854775807) :
    Calls Try.prog 5 #[.string s] w (lawEnd w) := by
  by_cases h : s.size ≤ 60
  all_goals
    go_enter Try.func5, Try.ntmps5
    go_wp2_with fail
    first
      | (obtain ⟨x, hx⟩ : ∃ x : ByteArray, x = s.extract 0 60 := ⟨_, rfl⟩
         have hxs : x.size ≤ 60 := by rw [hx]; exact cut_size s 60
         rw [← hx])
      | (obtain ⟨x, hx⟩ : ∃ x : ByteArray, x = s := ⟨_, rfl⟩
         have hxs : x.size ≤ 60 := by rw [hx]; exact h
         rw [← hx])
    have hx' := Lib.hid hx; clear hx
    by_cases hw : isWordB x.data.toList = true
    · have hL := lexWords_one hw
      have hL' := Lib.hid hL; clear hL
      obtain ⟨k1, k2, k3⟩ := word_no_sign hw
      rw [← ba_list] at k1 k2 k3
      have e1 : (x.toList == [123]) = false := by simpa using k1
      have e2 : (x.toList == [125]) = false := by simpa using k2
      have e3 : (x.toList == [59]) = false := by simpa using k3
      clear k1 k2 k3
      have hw' := Lib.hid hw; clear hw
      refine (rWords_l x _ _ _ _ (by omega) hL').mono ?_
      rintro e w2 ⟨p2, c2, rfl, hown, hk⟩
      obtain ⟨g, o, rfl, hr⟩ : ∃ g o, p2 = some ⟨g, o, none⟩ ∧ w2.rangeAt g o ([x.data.toList].map strv) := by
        obtain ⟨q, d, e, h⟩ := hown.at
        obtain ⟨g, o, rfl, hr⟩ := h (by simp)
        injection e with e1 e2 e3
        exact ⟨g, o, e1, hr⟩
      have c0 : w2.cell? ⟨g, o, none⟩ = some (.string x) := hr 0 _ rfl
      have hown2 := Lib.hid hown; have hk2 := Lib.hid hk; clear hown hk hr
      go_wp2_with (first | (go_at_call 13; refine (reads3_any _).mono ?_; rintro e w3 ⟨rfl, hk⟩; have hk3 := Lib.hid hk; clear hk) | (go_at_call 15; refine (isWord_any _ true _ (by omega) hw').mono ?_; rintro e w' ⟨rfl, rfl⟩))
      go_ret
      exact lawEnd.mk (hk2.out.trans hk3.out)
    · have hw1 : isWordB x.data.toList = false := by simpa using hw
      obtain ⟨l, n, er, hL, hll, her⟩ := lexWords_ex x
      have hnot : Hid (er = 0 → l = [x.data.toList] → x.data.toList = [123] ∨ x.data.toList = [125] ∨ x.data.toList = [59]) := Lib.hid fun h0 h1 => lexWords_not hw1 (h0 ▸ hL) h1
      have hL' := Lib.hid hL; clear hL
      have hw' := Lib.hid hw1; clear hw hw1
      refine (rWords_l x l n er _ (by omega) hL').mono ?_
      rintro e w2 ⟨p2, c2, rfl, hown, hk⟩
      have hown2 := Lib.hid hown; have hk2 := Lib.hid hk; clear hown hk
      rcases her with rfl | rfl
      · by_cases hl1 : l.length = 1
        · obtain ⟨y, rfl⟩ := List.length_eq_one_iff.1 hl1
          clear hl1 hll
          obtain ⟨g, o, rfl, hr⟩ : ∃ g o, p2 = some ⟨g, o, none⟩ ∧ w2.rangeAt g o ([y].map strv) := by
            obtain ⟨q, d, e, h⟩ := hown2.out.at
            obtain ⟨g, o, rfl, hr⟩ := h (by simp)
            injection e with e1 e2 e3
            exact ⟨g, o, e1, hr⟩
          obtain ⟨Y, hY⟩ : ∃ Y : ByteArray, Y = ⟨y.toArray⟩ := ⟨_, rfl⟩
          have c0 : w2.cell? ⟨g, o, none⟩ = some (.string Y) := by rw [hY]; exact hr 0 _ rfl
          have hYl : Y.toList = y := by rw [hY, ba_toList]
          clear hr hY
          by_cases hyx : y = x.data.toList
          · have hs3 := hnot.out rfl (by rw [hyx])
            rw [← ba_list] at hs3 hyx
            have hE : (Y.toList == x.toList) = true := by rw [hYl, hyx]; simp
            have hy' := Lib.hid hyx; have hYl' := Lib.hid hYl; clear hyx hYl
            rcases hs3 with h3 | h3 | h3
            · have e1 : (x.toList == [123]) = true := by rw [h3]; rfl
              have h3' := Lib.hid h3; clear h3
              go_wp2_with (first | (go_at_call 13; refine (reads3_any _).mono ?_; rintro e w3 ⟨rfl, hk⟩; have hk3 := Lib.hid hk; clear hk) | (go_at_call 15; refine (isWord_any _ false _ (by omega) hw').mono ?_; rintro e w' ⟨rfl, rfl⟩))
              go_ret
              exact lawEnd.mk (hk2.out.trans hk3.out)
            · have e1 : (x.toList == [123]) = false := by rw [h3]; rfl
              have e2 : (x.toList == [125]) = true := by rw [h3]; rfl
              have h3' := Lib.hid h3; clear h3
              go_wp2_with (first | (go_at_call 13; refine (reads3_any _).mono ?_; rintro e w3 ⟨rfl, hk⟩; have hk3 := Lib.hid hk; clear hk) | (go_at_call 15; refine (isWord_any _ false _ (by omega) hw').mono ?_; rintro e w' ⟨rfl, rfl⟩))
              go_ret
              exact lawEnd.mk (hk2.out.trans hk3.out)
            · have e1 : (x.toList == [123]) = false := by rw [h3]; rfl
              have e2 : (x.toList == [125]) = false := by rw [h3]; rfl
              have e3 : (x.toList == [59]) = true := by rw [h3]; rfl
              have h3' := Lib.hid h3; clear h3
              go_wp2_with (first | (go_at_call 13; refine (reads3_any _).mono ?_; rintro e w3 ⟨rfl, hk⟩; have hk3 := Lib.hid hk; clear hk) | (go_at_call 15; refine (isWord_any _ false _ (by omega) hw').mono ?_; rintro e w' ⟨rfl, rfl⟩))
              go_ret
              exact lawEnd.mk (hk2.out.trans hk3.out)
          · have hE : (Y.toList == x.toList) = false := by rw [hYl, ba_list]; simpa using hyx
            have hYl' := Lib.hid hYl; clear hyx hYl
            go_wp2_with (first | (go_at_call 13; refine (reads3_any _).mono ?_; rintro e w3 ⟨rfl, hk⟩; have hk3 := Lib.hid hk; clear hk) | (go_at_call 15; refine (isWord_any _ false _ (by omega) hw').mono ?_; rintro e w' ⟨rfl, rfl⟩))
            go_ret
            exact lawEnd.mk (hk2.out.trans hk3.out)
        · have hE : ((l.length : Int) == 1) = false := by rw [beq_eq_false_iff_ne]; omega
          have hE2 : (l.length == 1) = false := by simpa using hl1
          clear hl1
          go_wp2_with (first | (go_at_call 13; refine (reads3_any _).mono ?_; rintro e w3 ⟨rfl, hk⟩; have hk3 := Lib.hid hk; clear hk) | (go_at_call 15; refine (isWord_any _ false _ (by omega) hw').mono ?_; rintro e w' ⟨rfl, rfl⟩))
          go_ret
          exact lawEnd.mk (hk2.out.trans hk3.out)
      · go_wp2_with (first | (go_at_call 13; refine (reads3_any _).mono ?_; rintro e w3 ⟨rfl, hk⟩; have hk3 := Lib.hid hk; clear hk) | (go_at_call 15; refine (isWord_any _ false _ (by omega) hw').mono ?_; rintro e w' ⟨rfl, rfl⟩))
        go_ret
        exact lawEnd.mk (hk2.out.trans hk3.out)
end Go.Proofs.Ytdgacnkfljcbpaa
