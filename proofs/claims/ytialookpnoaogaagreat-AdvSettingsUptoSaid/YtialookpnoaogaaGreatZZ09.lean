/- The document's Net, walked. -/
import Derived.Test.YtialookpnoaogaaGreatZZ08
set_option linter.unusedVariables false
set_option linter.unusedSimpArgs false
namespace Go.Proofs.YtialookpnoaogaaGreat
open Go.RowKit

set_option maxRecDepth 100000 in
set_option maxHeartbeats 2000000 in
theorem rNet_r (s : ByteArray) (r : Option (Nat × Nat)) (w : World) (hs : s.size ≤ 8796093022000) (hr : Hid (netL s.data.toList = r)) :
    Calls Tryz.prog 41 #[.string s] w (NewRes (netRes r) w) := by
  have hq := hr.out
  rw [netL_eq] at hq
  obtain ⟨ps, hps⟩ : ∃ ps, ps = partsL 47 s.data.toList := ⟨_, rfl⟩
  rw [← hps] at hq
  have hpl := partsL_len 47 s.data.toList
  have hpe := partsL_each 47 s.data.toList
  rw [← hps] at hpl hpe
  have hps' := Lib.hid hps; have hq' := Lib.hid hq; have hpe' := Lib.hid hpe; clear hps hq hpe hr
  have hpl' : ps.length ≤ 8796093022001 := by simp at hpl; omega
  clear hpl
  go_enter Tryz.func41, Tryz.ntmps41
  go_wp2_with fail
  refine (parts_any s 47 _ hs).mono ?_
  rintro e w1 ⟨p, d, rfl, hown, hk⟩
  rw [← hps'.out] at *
  have hown1 := Lib.hid hown; have hk1 := Lib.hid hk
  have hat := hown.at
  clear hown hk
  by_cases h2 : ps.length = 2
  · obtain ⟨x, y, rfl⟩ : ∃ x y, ps = [x, y] := by
      match ps, h2 with
      | [x, y], _ => exact ⟨x, y, rfl⟩
    have hq2 := hq'.out
    simp only [netParts] at hq2
    obtain ⟨p', c', hpe2, hr0⟩ := hat
    obtain ⟨g, o, rfl, hr1⟩ := hr0 (by simp)
    have e1 : p = some ⟨g, o, none⟩ := by injection hpe2
    subst e1
    obtain ⟨X, hX⟩ : ∃ X : ByteArray, X = ⟨x.toArray⟩ := ⟨_, rfl⟩
    obtain ⟨Y, hY⟩ : ∃ Y : ByteArray, Y = ⟨y.toArray⟩ := ⟨_, rfl⟩
    have c1 : w1.cell? ⟨g, o, none⟩ = some (.string X) := by rw [hX]; exact hr1 0 _ (by simp [strv])
    have c2 : w1.cell? ⟨g, o + 1, none⟩ = some (.string Y) := by rw [hY]; exact hr1 1 _ (by simp [strv])
    have hlt : g < w1.heap.size := World.block_lt_of_cell? w1 _ c1
    have hXl : X.data.toList = x := by rw [hX]
    have hYl : Y.data.toList = y := by rw [hY]
    have hXs : X.size ≤ s.size := by
      have := hpe'.out x (by simp)
      rw [← hXl] at this; simpa using this
    rw [← hXl, ← hYl] at hq2
    clear hX hXl hY hYl hpe2 hr0 hr1 h2
    rw [show [x, y].length = 2 from rfl]
    have kc : ∀ w2, Keeps (fun _ => False) w1 w2 → w2.cell? ⟨g, o + 1, none⟩ = some (.string Y) := fun w2 k => (k.cell (p := ⟨g, o + 1, none⟩) hlt id).trans c2
    have kc' := Lib.hid kc; clear kc c2
    cases ha : addrL X.data.toList with
    | none =>
      rw [ha] at hq2
      have ha' := Lib.hid ha; clear ha
      obtain rfl : r = none := by cases hd : decL Y.data.toList <;> rw [hd] at hq2 <;> exact hq2.symm
      clear hq2
      cases hd : decL Y.data.toList with
      | none =>
        have hd' := Lib.hid hd; clear hd
        go_wp2_with (first | (go_at_call 38; refine (rAddr_none X _ (by omega) ha').mono ?_; rintro e w2 ⟨rfl, hk2⟩; have c2 := kc'.out w2 hk2; have hkr := Lib.hid hk2; clear hk2) | (go_at_call 69; refine (rDec_none Y _ hd').mono ?_; rintro e w' ⟨rfl, rfl⟩))
        go_ret3
        exact ⟨rfl, hk1.out.trans hkr.out⟩
      | some n =>
        have hd' := Lib.hid hd; clear hd
        go_wp2_with (first | (go_at_call 38; refine (rAddr_none X _ (by omega) ha').mono ?_; rintro e w2 ⟨rfl, hk2⟩; have c2 := kc'.out w2 hk2; have hkr := Lib.hid hk2; clear hk2) | (go_at_call 69; refine (rDec_some Y n _ hd').mono ?_; rintro e w' ⟨rfl, rfl⟩))
        go_ret3
        exact ⟨rfl, hk1.out.trans hkr.out⟩
    | some a =>
      rw [ha] at hq2
      have ha' := Lib.hid ha; clear ha
      cases hd : decL Y.data.toList with
      | none =>
        rw [hd] at hq2
        obtain rfl : r = none := hq2.symm
        have hd' := Lib.hid hd; clear hd hq2
        go_wp2_with (first | (go_at_call 38; refine (rAddr_some X a _ (by omega) ha').mono ?_; rintro e w2 ⟨rfl, hk2⟩; have c2 := kc'.out w2 hk2; have hkr := Lib.hid hk2; clear hk2) | (go_at_call 69; refine (rDec_none Y _ hd').mono ?_; rintro e w' ⟨rfl, rfl⟩))
        go_ret3
        exact ⟨rfl, hk1.out.trans hkr.out⟩
      | some n =>
        rw [hd] at hq2
        simp only at hq2
        have hd' := Lib.hid hd; clear hd
        by_cases h1 : 1 ≤ n
        · by_cases h2 : n ≤ 32
          · rw [if_pos ⟨h1, h2⟩] at hq2
            obtain rfl : r = some (a, n) := hq2.symm
            clear hq2
            go_wp2_with (first | (go_at_call 38; refine (rAddr_some X a _ (by omega) ha').mono ?_; rintro e w2 ⟨rfl, hk2⟩; have c2 := kc'.out w2 hk2; have hkr := Lib.hid hk2; clear hk2) | (go_at_call 69; refine (rDec_some Y n _ hd').mono ?_; rintro e w' ⟨rfl, rfl⟩))
            go_ret3
            exact ⟨rfl, hk1.out.trans hkr.out⟩
          · rw [if_neg (by omega)] at hq2
            obtain rfl : r = none := hq2.symm
            clear hq2
            go_wp2_with (first | (go_at_call 38; refine (rAddr_some X a _ (by omega) ha').mono ?_; rintro e w2 ⟨rfl, hk2⟩; have c2 := kc'.out w2 hk2; have hkr := Lib.hid hk2; clear hk2) | (go_at_call 69; refine (rDec_some Y n _ hd').mono ?_; rintro e w' ⟨rfl, rfl⟩))
            go_ret3
            exact ⟨rfl, hk1.out.trans hkr.out⟩
        · rw [if_neg (by omega)] at hq2
          obtain rfl : r = none := hq2.symm
          clear hq2
          go_wp2_with (first | (go_at_call 38; refine (rAddr_some X a _ (by omega) ha').mono ?_; rintro e w2 ⟨rfl, hk2⟩; have c2 := kc'.out w2 hk2; have hkr := Lib.hid hk2; clear hk2) | (go_at_call 69; refine (rDec_some Y n _ hd').mono ?_; rintro e w' ⟨rfl, rfl⟩))
          go_ret3
          exact ⟨rfl, hk1.out.trans hkr.out⟩
  · have hq2 := hq'.out
    have hr2 : Hid (r = none) := Lib.hid (by
      rw [← hq2]
      match ps, h2 with
      | [], _ => rfl
      | [x], _ => rfl
      | [x, y], h => exact (h rfl).elim
      | x :: y :: z :: l, _ => rfl)
    have d1 : ((ps.length : Int) != 2) = true := by rw [bne_iff_ne]; omega
    have d2 : (ps.length != 2) = true := by simpa using h2
    clear hq2 h2 hat
    go_wp2
    go_ret3
    exact ⟨by rw [hr2.out]; rfl, hk1.out⟩
theorem rNet_none (s : ByteArray) (w : World) (hs : s.size ≤ 8796093022000) (h : Hid (netL s.data.toList = none)) :
    Calls Tryz.prog 41 #[.string s] w (NewRes (.tuple #[.int .u32 0, .int .i64 0, .bool false]) w) := rNet_r s none w hs h
theorem rNet_some (s : ByteArray) (a n : Nat) (w : World) (hs : s.size ≤ 8796093022000) (h : Hid (netL s.data.toList = some (a, n))) :
    Calls Tryz.prog 41 #[.string s] w (NewRes (.tuple #[.int .u32 (a : Nat), .int .i64 (n : Nat), .bool true]) w) := rNet_r s (some (a, n)) w hs h
end Go.Proofs.YtialookpnoaogaaGreat
/- Named, and the document's Word and Named, walked. -/
namespace Go.Proofs.YtialookpnoaogaaGreat
open Go.RowKit

theorem lexWords_one' {t : List UInt8} (h : isWordB t = true) : lexWords t = ([t], t.length, 0) := by
  have := (lexL_one (s := t)).2 h
  unfold lexWords; rw [this.1]
theorem lexWords_not' {t : List UInt8} {l : List (List UInt8)} {n : Nat} (h : isWordB t = false) (hw : lexWords t = (l, n, 0)) (h1 : l = [t]) : t = [123] ∨ t = [125] ∨ t = [59] := by
  subst h1
  have hl : lexL t = .ok [t] := by
    unfold lexWords at hw
    cases h : lexL t with
    | ok m => rw [h] at hw; injection hw with e _; rw [e]
    | bad m => rw [h] at hw; simp at hw
  have hn : ¬ ∀ c, t = [c] → signB c = false := fun hs => by
    have := (lexL_one (s := t)).1 ⟨hl, hs⟩
    rw [this] at h; cases h
  rw [Classical.not_forall] at hn
  obtain ⟨c, hc⟩ := hn
  rw [Classical.not_imp] at hc
  obtain ⟨rfl, hc⟩ := hc
  have hs : signB c = true := by simpa using hc
  have hc : c = 123 ∨ c = 125 ∨ c = 59 := by simpa [signB, or_assoc] using hs
  rcases hc with rfl | rfl | rfl <;> simp
theorem word_no_sign' {t : List UInt8} (h : isWordB t = true) : t ≠ [123] ∧ t ≠ [125] ∧ t ≠ [59] := by
  refine ⟨?_, ?_, ?_⟩ <;> (rintro rfl; revert h; decide)
theorem lexWords_err' (t : List UInt8) : (lexWords t).2.2 = 0 ∨ (lexWords t).2.2 = 3 := by
  unfold lexWords; cases lexL t <;> simp
theorem lexWords_len' (t : List UInt8) : (lexWords t).1.length ≤ t.length := by
  unfold lexWords
  cases h : lexL t with
  | bad n => simp
  | ok l =>
    have h1 := lexL_total t.length t (Nat.le_refl _) l h
    have h2 : ∀ m : List (List UInt8), (∀ w ∈ m, 1 ≤ w.length) → m.length ≤ total m := by
      intro m
      induction m with
      | nil => simp
      | cons a m ih =>
        intro h
        have := ih (fun w hw => h w (by simp [hw]))
        have := h a (by simp)
        simp [total] at *; omega
    have h3 := h2 l (fun w hw => by
      rcases h1.2 w hw with h | ⟨c, rfl, _⟩
      · unfold isWordB at h; simp at h; omega
      · simp)
    show l.length ≤ t.length
    omega
theorem rWords_l' (s : ByteArray) (l : List (List UInt8)) (n er : Nat) (w : World) (hs : s.size ≤ 8796093022208) (h : Hid (lexWords s.data.toList = (l, n, er))) :
    Calls Tryz.prog 132 #[.string s] w fun e w' => ∃ p c, e = .returned (.tuple #[.slice p l.length c, .int .i64 (n : Nat), .int .i64 (er : Nat)]) ∧ OwnStrs w w' (.slice p l.length c) l ∧ Keeps (fun _ => False) w w' :=
  (rWords_any s w hs).mono fun e w' h' => by unfold WordsPost at h'; rw [h.out] at h'; exact h'

set_option maxRecDepth 100000 in
set_option maxHeartbeats 1000000 in
theorem rWord_any (x : ByteArray) (r : Bool) (w : World) (hxs : x.size ≤ 8796093022000) (hr : Hid (isWordB x.data.toList = r)) :
    Calls Tryz.prog 108 #[.string x] w (NewRes (.bool r) w) := by
  go_enter Tryz.func108, Tryz.ntmps108
  go_wp2_with fail
  by_cases hw : isWordB x.data.toList = true
  · obtain rfl : r = true := by rw [← hr.out]; exact hw
    have hL := lexWords_one' hw
    have hL' := Lib.hid hL; clear hL
    obtain ⟨k1, k2, k3⟩ := word_no_sign' hw
    rw [← Lib.toList_data] at k1 k2 k3
    have e1 : (x.toList == [123]) = false := by simpa using k1
    have e2 : (x.toList == [125]) = false := by simpa using k2
    have e3 : (x.toList == [59]) = false := by simpa using k3
    clear k1 k2 k3 hw
    refine (rWords_l' x _ _ _ _ (by omega) hL').mono ?_
    rintro e w2 ⟨p2, c2, rfl, hown, hk⟩
    obtain ⟨g, o, rfl, hr1⟩ : ∃ g o, p2 = some ⟨g, o, none⟩ ∧ w2.rangeAt g o ([x.data.toList].map strv) := by
      obtain ⟨q, d, e, h⟩ := hown.at
      obtain ⟨g, o, rfl, hr⟩ := h (by simp)
      injection e with e1 e2 e3
      exact ⟨g, o, e1, hr⟩
    have c0 : w2.cell? ⟨g, o, none⟩ = some (.string x) := hr1 0 _ rfl
    have hown2 := Lib.hid hown; have hk2 := Lib.hid hk; clear hown hk hr1
    go_wp2
    go_ret
    exact ⟨rfl, hk2.out⟩
  · have hw1 : isWordB x.data.toList = false := by simpa using hw
    obtain rfl : r = false := by rw [← hr.out]; exact hw1
    obtain ⟨l, n, er, hL, hll, her⟩ : ∃ (l : List (List UInt8)) (n er : Nat), lexWords x.data.toList = (l, n, er) ∧ l.length ≤ x.size ∧ (er = 0 ∨ er = 3) :=
      ⟨(lexWords x.data.toList).1, (lexWords x.data.toList).2.1, (lexWords x.data.toList).2.2, rfl, by simpa using lexWords_len' x.data.toList, lexWords_err' _⟩
    have hnot : Hid (er = 0 → l = [x.data.toList] → x.data.toList = [123] ∨ x.data.toList = [125] ∨ x.data.toList = [59]) := Lib.hid fun h0 h1 => lexWords_not' hw1 (h0 ▸ hL) h1
    have hL' := Lib.hid hL; clear hL hw hw1
    refine (rWords_l' x l n er _ (by omega) hL').mono ?_
    rintro e w2 ⟨p2, c2, rfl, hown, hk⟩
    have hown2 := Lib.hid hown; have hk2 := Lib.hid hk; clear hown hk
    rcases her with rfl | rfl
    · by_cases hl1 : l.length = 1
      · obtain ⟨y, rfl⟩ := List.length_eq_one_iff.1 hl1
        clear hl1 hll
        obtain ⟨g, o, rfl, hr1⟩ : ∃ g o, p2 = some ⟨g, o, none⟩ ∧ w2.rangeAt g o ([y].map strv) := by
          obtain ⟨q, d, e, h⟩ := hown2.out.at
          obtain ⟨g, o, rfl, hr⟩ := h (by simp)
          injection e with e1 e2 e3
          exact ⟨g, o, e1, hr⟩
        obtain ⟨Y, hY⟩ : ∃ Y : ByteArray, Y = ⟨y.toArray⟩ := ⟨_, rfl⟩
        have c0 : w2.cell? ⟨g, o, none⟩ = some (.string Y) := by rw [hY]; exact hr1 0 _ rfl
        have hYl : Y.toList = y := by rw [hY, Lib.toList_data]
        clear hr1 hY
        by_cases hyx : y = x.data.toList
        · have hs3 := hnot.out rfl (by rw [hyx])
          rw [← Lib.toList_data] at hs3 hyx
          have hE : (Y.toList == x.toList) = true := by rw [hYl, hyx]; simp
          have hy' := Lib.hid hyx; have hYl' := Lib.hid hYl; clear hyx hYl
          rcases hs3 with h3 | h3 | h3
          · have e1 : (x.toList == [123]) = true := by rw [h3]; rfl
            have h3' := Lib.hid h3; clear h3
            go_wp2
            go_ret
            exact ⟨rfl, hk2.out⟩
          · have e1 : (x.toList == [123]) = false := by rw [h3]; rfl
            have e2 : (x.toList == [125]) = true := by rw [h3]; rfl
            have h3' := Lib.hid h3; clear h3
            go_wp2
            go_ret
            exact ⟨rfl, hk2.out⟩
          · have e1 : (x.toList == [123]) = false := by rw [h3]; rfl
            have e2 : (x.toList == [125]) = false := by rw [h3]; rfl
            have e3 : (x.toList == [59]) = true := by rw [h3]; rfl
            have h3' := Lib.hid h3; clear h3
            go_wp2
            go_ret
            exact ⟨rfl, hk2.out⟩
        · have hE : (Y.toList == x.toList) = false := by rw [hYl, Lib.toList_data]; simpa using hyx
          have hYl' := Lib.hid hYl; clear hyx hYl
          go_wp2
          go_ret
          exact ⟨rfl, hk2.out⟩
      · have hE : ((l.length : Int) == 1) = false := by rw [beq_eq_false_iff_ne]; omega
        have hE2 : (l.length == 1) = false := by simpa using hl1
        clear hl1
        go_wp2
        go_ret
        exact ⟨rfl, hk2.out⟩
    · go_wp2
      go_ret
      exact ⟨rfl, hk2.out⟩
end Go.Proofs.YtialookpnoaogaaGreat
/- Named, the code's and the document's, walked. -/
namespace Go.Proofs.YtialookpnoaogaaGreat
open Go.RowKit

def namedB (head : Int) (name : List UInt8) : Bool :=
  if head = 0 then name.isEmpty else if head = 1 then (addrL name).isSome else if head = 2 then isWordB name && !name.contains 47 else false

theorem empty_eq (s : ByteArray) : (s.toList == []) = s.data.toList.isEmpty := by
  rw [Lib.toList_data]; cases s.data.toList <;> rfl
set_option maxRecDepth 100000 in
set_option maxHeartbeats 1000000 in
theorem named_any (head : Int) (s : ByteArray) (r : Bool) (w : World) (hs : s.size ≤ 9223372036854775807) (hr : Hid (namedB head s.data.toList = r)) :
    Calls Tryz.prog 113 #[.int .i64 head, .string s] w fun e w' => e = .returned (.bool r) ∧ ∃ m, w' = w.drewN m := by
  have hq := hr.out
  unfold namedB at hq
  by_cases h0 : head = 0
  · subst h0
    rw [if_pos rfl] at hq
    have e1 : s.toList.isEmpty = r := by rw [Lib.toList_data]; exact hq
    clear hq hr
    cases r with
    | true =>
      go_enter Tryz.func113, Tryz.ntmps113
      go_wp2
      go_ret
      exact ⟨rfl, 0, rfl⟩
    | false =>
      go_enter Tryz.func113, Tryz.ntmps113
      go_wp2
      go_ret
      exact ⟨rfl, 0, rfl⟩
  have d0 : (head == 0) = false := by simpa using h0
  rw [if_neg h0] at hq
  by_cases h1 : head = 1
  · subst h1
    rw [if_pos rfl] at hq
    clear hr d0
    cases ha : addrL s.data.toList with
    | none =>
      obtain rfl : r = false := by rw [← hq, ha]; rfl
      have ha' := Lib.hid ha; clear ha hq h0
      go_enter Tryz.func113, Tryz.ntmps113
      go_wp2_with (go_at_call 36; refine (addr_none s _ hs ha').mono ?_; rintro e w2 ⟨rfl, m2, rfl⟩)
      go_ret
      exact ⟨rfl, m2, rfl⟩
    | some a =>
      obtain rfl : r = true := by rw [← hq, ha]; rfl
      have ha' := Lib.hid ha; clear ha hq h0
      go_enter Tryz.func113, Tryz.ntmps113
      go_wp2_with (go_at_call 36; refine (addr_some s a _ hs ha').mono ?_; rintro e w2 ⟨rfl, m2, rfl⟩)
      go_ret
      exact ⟨rfl, m2, rfl⟩
  have d1 : (head == 1) = false := by simpa using h1
  rw [if_neg h1] at hq
  by_cases h2 : head = 2
  · subst h2
    rw [if_pos rfl] at hq
    clear hr d0 d1 h0 h1
    obtain ⟨b, hb⟩ : ∃ b, isWordB s.data.toList = b := ⟨_, rfl⟩
    obtain ⟨c, hc⟩ : ∃ c, decide ((47 : UInt8) ∈ s.data.toList) = c := ⟨_, rfl⟩
    have hq2 : (b && !c) = r := by rw [← hq, ← hb, ← hc]; simp
    have hb' := Lib.hid hb; have hc' := Lib.hid hc; clear hb hc hq
    cases b with
    | true =>
      cases c with
      | true =>
        obtain rfl : r = false := hq2.symm
        clear hq2
        go_enter Tryz.func113, Tryz.ntmps113
        go_wp2_with (first | (go_at_call 134; refine (isWord_any s true _ hs hb').mono ?_; rintro e w' ⟨rfl, rfl⟩) | (go_at_call 135; refine (stringsContains_one s 47 _ true hc').mono ?_; rintro e w' ⟨rfl, rfl⟩))
        go_ret
        exact ⟨rfl, 0, rfl⟩
      | false =>
        obtain rfl : r = true := hq2.symm
        clear hq2
        go_enter Tryz.func113, Tryz.ntmps113
        go_wp2_with (first | (go_at_call 134; refine (isWord_any s true _ hs hb').mono ?_; rintro e w' ⟨rfl, rfl⟩) | (go_at_call 135; refine (stringsContains_one s 47 _ false hc').mono ?_; rintro e w' ⟨rfl, rfl⟩))
        go_ret
        exact ⟨rfl, 0, rfl⟩
    | false =>
      obtain rfl : r = false := hq2.symm
      clear hq2
      go_enter Tryz.func113, Tryz.ntmps113
      go_wp2_with (go_at_call 134; refine (isWord_any s false _ hs hb').mono ?_; rintro e w' ⟨rfl, rfl⟩)
      go_ret
      exact ⟨rfl, 0, rfl⟩
  have d2 : (head == 2) = false := by simpa using h2
  rw [if_neg h2] at hq
  obtain rfl : r = false := hq.symm
  clear hq hr h0 h1 h2
  go_enter Tryz.func113, Tryz.ntmps113
  go_wp2
  go_ret
  exact ⟨rfl, 0, rfl⟩

set_option maxRecDepth 100000 in
set_option maxHeartbeats 1000000 in
theorem rNamed_any (head : Int) (s : ByteArray) (r : Bool) (w : World) (hs : s.size ≤ 8796093022000) (hr : Hid (namedB head s.data.toList = r)) :
    Calls Tryz.prog 76 #[.int .i64 head, .string s] w (NewRes (.bool r) w) := by
  have hq := hr.out
  unfold namedB at hq
  by_cases h0 : head = 0
  · subst h0
    rw [if_pos rfl] at hq
    have e1 : s.toList.isEmpty = r := by rw [Lib.toList_data]; exact hq
    clear hq hr
    cases r with
    | true =>
      go_enter Tryz.func76, Tryz.ntmps76
      go_wp2
      go_ret
      exact ⟨rfl, Keeps.refl _ _⟩
    | false =>
      go_enter Tryz.func76, Tryz.ntmps76
      go_wp2
      go_ret
      exact ⟨rfl, Keeps.refl _ _⟩
  have d0 : (head == 0) = false := by simpa using h0
  rw [if_neg h0] at hq
  by_cases h1 : head = 1
  · subst h1
    rw [if_pos rfl] at hq
    clear hr d0
    cases ha : addrL s.data.toList with
    | none =>
      obtain rfl : r = false := by rw [← hq, ha]; rfl
      have ha' := Lib.hid ha; clear ha hq h0
      go_enter Tryz.func76, Tryz.ntmps76
      go_wp2_with (go_at_call 38; refine (rAddr_none s _ hs ha').mono ?_; rintro e w2 ⟨rfl, hk2⟩; have hk2' := Lib.hid hk2; clear hk2)
      go_ret
      exact ⟨rfl, hk2'.out⟩
    | some a =>
      obtain rfl : r = true := by rw [← hq, ha]; rfl
      have ha' := Lib.hid ha; clear ha hq h0
      go_enter Tryz.func76, Tryz.ntmps76
      go_wp2_with (go_at_call 38; refine (rAddr_some s a _ hs ha').mono ?_; rintro e w2 ⟨rfl, hk2⟩; have hk2' := Lib.hid hk2; clear hk2)
      go_ret
      exact ⟨rfl, hk2'.out⟩
  have d1 : (head == 1) = false := by simpa using h1
  rw [if_neg h1] at hq
  by_cases h2 : head = 2
  · subst h2
    rw [if_pos rfl] at hq
    clear hr d0 d1 h0 h1
    obtain ⟨b, hb⟩ : ∃ b, isWordB s.data.toList = b := ⟨_, rfl⟩
    cases b with
    | true =>
      have hb' := Lib.hid hb
      by_cases hm : (47 : UInt8) ∈ s.data.toList
      · obtain rfl : r = false := by rw [← hq, hb]; simpa using hm
        obtain ⟨k, hk⟩ : ∃ k, (partsL 47 s.data.toList).length = k + 2 := by
          rw [partsL_yes hm]
          have := partsL_ne 47 (s.data.toList.drop (before 47 s.data.toList + 1))
          cases hp : partsL 47 (s.data.toList.drop (before 47 s.data.toList + 1)) with
          | nil => exact (this hp).elim
          | cons a l => exact ⟨l.length, by simp⟩
        have e1 : (((k + 2 : Nat) : Int) == 1) = false := by rw [beq_eq_false_iff_ne]; omega
        have e2 : ((k : Int) + 2 == 1) = false := by rw [beq_eq_false_iff_ne]; omega
        have hk' := Lib.hid hk; clear hk hb hq hm
        go_enter Tryz.func76, Tryz.ntmps76
        go_wp2_with (first | (go_at_call 108; refine (rWord_any s true _ hs hb').mono ?_; rintro e w2 ⟨rfl, hk2⟩; have hk2' := Lib.hid hk2; clear hk2) | (go_at_call 73; refine (parts_any s 47 _ hs).mono ?_; rintro e w3 ⟨p3, d3, rfl, ho3, hk3⟩; rw [hk'.out]; have hk3' := Lib.hid hk3; clear hk3 ho3))
        go_ret
        exact ⟨rfl, hk2'.out.trans hk3'.out⟩
      · obtain rfl : r = true := by rw [← hq, hb]; simpa using hm
        have hk : (partsL 47 s.data.toList).length = 1 := by rw [partsL_no hm]; rfl
        have hk' := Lib.hid hk; clear hk hb hq hm
        go_enter Tryz.func76, Tryz.ntmps76
        go_wp2_with (first | (go_at_call 108; refine (rWord_any s true _ hs hb').mono ?_; rintro e w2 ⟨rfl, hk2⟩; have hk2' := Lib.hid hk2; clear hk2) | (go_at_call 73; refine (parts_any s 47 _ hs).mono ?_; rintro e w3 ⟨p3, d3, rfl, ho3, hk3⟩; rw [hk'.out]; have hk3' := Lib.hid hk3; clear hk3 ho3))
        go_ret
        exact ⟨rfl, hk2'.out.trans hk3'.out⟩
    | false =>
      obtain rfl : r = false := by rw [← hq, hb]; rfl
      have hb' := Lib.hid hb; clear hb hq
      go_enter Tryz.func76, Tryz.ntmps76
      go_wp2_with (go_at_call 108; refine (rWord_any s false _ hs hb').mono ?_; rintro e w2 ⟨rfl, hk2⟩; have hk2' := Lib.hid hk2; clear hk2)
      go_ret
      exact ⟨rfl, hk2'.out⟩
  have d2 : (head == 2) = false := by simpa using h2
  rw [if_neg h2] at hq
  obtain rfl : r = false := hq.symm
  clear hq hr h0 h1 h2
  go_enter Tryz.func76, Tryz.ntmps76
  go_wp2
  go_ret
  exact ⟨rfl, Keeps.refl _ _⟩
end Go.Proofs.YtialookpnoaogaaGreat
/- slices.Contains at texts; Right, the code's and the document's, walked. -/
namespace Go.Proofs.YtialookpnoaogaaGreat
open Go.RowKit

theorem StrsAt.alloc {w : World} {v : Value} {xs : List (List UInt8)} (h : StrsAt w v xs) (o : Obj) : StrsAt (w.alloc o) v xs := h.keep ((Keeps.refl (fun _ => False) w).alloc o) (fun _ _ _ f => f)
def IdxPost (b : Bool) (w : World) (e : Ending) (w' : World) : Prop := (∃ r : Int, e = .returned (.int .i64 r) ∧ decide (0 ≤ r) = b) ∧ w = w'
set_option maxRecDepth 100000 in
theorem slicesIndex_any (v : Value) (xs : List (List UInt8)) (y : ByteArray) (b : Bool) (w : World) (hb : Hid (xs.contains y.data.toList = b)) (hv : StrsAt w v xs) (hl : xs.length ≤ 9223372036854775807) :
    Calls Tryz.prog 75 #[v, .string y] w (IdxPost b w) := by
  obtain ⟨p, c, rfl, hv⟩ := hv
  have hv' := Lib.hid hv; clear hv
  go_enter Tryz.func75, Tryz.ntmps75
  go_wp2
  go_loop [8] (fun i => ∃ k : Nat, k ≤ xs.length ∧ i = .int .i64 k ∧ Hid (y.data.toList ∉ xs.take k)) (fun i => xs.length - (intOf i).toNat)
  case atStart => exact ⟨0, by omega, rfl, Lib.hid (by simp)⟩
  case round =>
    obtain ⟨k, hk, rfl, hno⟩ := hrel
    by_cases hlt : k < xs.length
    · obtain ⟨g, o, rfl, hr⟩ := hv'.out (by omega)
      obtain ⟨X, hX⟩ : ∃ X : ByteArray, X = ⟨(xs[k]).toArray⟩ := ⟨_, rfl⟩
      have c1 : w.cell? ⟨g, o + k, none⟩ = some (.string X) := by rw [hX]; exact hr k _ (by simp [hlt, strv])
      have hXl : X.toList = xs[k] := by rw [hX, Lib.toList_data]
      clear hr hX
      by_cases he : y.data.toList = xs[k]
      · have e1 : (y.toList == X.toList) = true := by rw [hXl, Lib.toList_data, he]; simp
        have hin : Hid (b = true) := Lib.hid (by rw [← hb.out, he]; simp)
        have hXl' := Lib.hid hXl; clear he hXl hno
        go_wp2
        go_ret
        exact ⟨⟨(k : Int), rfl, by rw [hin.out]; simp⟩, rfl⟩
      · have e1 : (y.toList == X.toList) = false := by rw [hXl, Lib.toList_data]; simpa using he
        have hno' : Hid (y.data.toList ∉ xs.take (k + 1)) := Lib.hid (by
          rw [List.take_succ_eq_append_getElem hlt]
          intro h
          rcases List.mem_append.1 h with h | h
          · exact hno.out h
          · exact he (by simpa using h))
        have hXl' := Lib.hid hXl; clear he hXl hno
        go_wp2
        go_round
        case rel => exact ⟨k + 1, by omega, by go_num, hno'⟩
        case measure => simp [intOf]; omega
    · have hin : Hid (b = false) := Lib.hid (by
        rw [← hb.out]
        have := hno.out
        rw [List.take_of_length_le (by omega)] at this
        rw [← Bool.not_eq_true]; simpa using this)
      clear hno
      go_wp2
      go_ret
      exact ⟨⟨-1, rfl, by rw [hin.out]; rfl⟩, rfl⟩
theorem slicesContains_any (v : Value) (xs : List (List UInt8)) (y : ByteArray) (r : Bool) (w : World) (hv : StrsAt w v xs) (hl : xs.length ≤ 9223372036854775807) (hr : Hid (xs.contains y.data.toList = r)) :
    Calls Tryz.prog 40 #[v, .string y] w fun e w' => e = .returned (.bool r) ∧ w = w' := by
  obtain ⟨p, c, rfl, hv0⟩ := hv
  have hv : StrsAt w (.slice p xs.length c) xs := ⟨p, c, rfl, hv0⟩
  have hv' := Lib.hid hv; clear hv hv0
  go_enter Tryz.func40, Tryz.ntmps40
  go_wp2_with fail
  refine (slicesIndex_any _ xs y r _ hr hv'.out hl).mono ?_
  rintro e w' ⟨⟨i, rfl, hi⟩, rfl⟩
  cases r with
  | true =>
    have hi' := Lib.hid hi; clear hi
    go_wp2
    go_ret
    exact ⟨by show Ending.returned (.bool (decide (0 ≤ i))) = _; rw [hi'.out], rfl⟩
  | false =>
    have hi' := Lib.hid hi; clear hi
    go_wp2
    go_ret
    exact ⟨by show Ending.returned (.bool (decide (0 ≤ i))) = _; rw [hi'.out], rfl⟩

def rightB (kind lo hi : Int) (cs : List (List UInt8)) (v : List UInt8) : Bool :=
  if kind = 0 then (addrL v).isSome else if kind = 1 then (netL v).isSome
  else if kind = 2 then (match decL v with | some n => decide (lo ≤ (n : Int) ∧ (n : Int) ≤ hi) | none => false)
  else if kind = 3 then cs.contains v else if kind = 4 then decide ((v.length : Int) ≤ hi) && isWordB v else false

/-- a row as a value -/
def rowV (head : Value) (name : Value) (kind lo hi : Int) (cv df cl : Value) : Value := .agg #[head, name, .int .i64 kind, .int .i64 lo, .int .i64 hi, cv, df, cl]

set_option maxRecDepth 100000 in
set_option maxHeartbeats 2000000 in
theorem right_any (h : Int) (nm df : ByteArray) (kind lo hi cl : Int) (p : Option Addr) (cc : Nat) (cs : List (List UInt8)) (y : ByteArray) (r : Bool) (w : World) (hs : y.size ≤ 9223372036854775807) (hcs : cs.length ≤ 1000)
    (hv : Hid (StrsAt w (.slice p cs.length cc) cs)) (hr : Hid (rightB kind lo hi cs y.data.toList = r)) :
    Calls Tryz.prog 114 #[.agg #[.int .i64 h, .string nm, .int .i64 kind, .int .i64 lo, .int .i64 hi, .slice p cs.length cc, .string df, .int .i64 cl], .string y] w (NewRes (.bool r) w) := by
  have hq := hr.out
  unfold rightB at hq
  have hv2 := fun o => Lib.hid (hv.out.alloc o)
  have hv2' := Lib.hid hv2; clear hv2
  by_cases h0 : kind = 0
  · subst h0
    rw [if_pos rfl] at hq
    cases ha : addrL y.data.toList with
    | none =>
      obtain rfl : r = false := by rw [← hq, ha]; rfl
      have ha' := Lib.hid ha; clear ha hq hr
      go_enter Tryz.func114, Tryz.ntmps114
      go_wp2_with (go_at_call 36; refine (addr_none y _ hs ha').mono ?_; rintro e w2 ⟨rfl, m2, rfl⟩)
      go_ret
      exact ⟨rfl, ((Keeps.refl _ _).alloc _).drewN _⟩
    | some a =>
      obtain rfl : r = true := by rw [← hq, ha]; rfl
      have ha' := Lib.hid ha; clear ha hq hr
      go_enter Tryz.func114, Tryz.ntmps114
      go_wp2_with (go_at_call 36; refine (addr_some y a _ hs ha').mono ?_; rintro e w2 ⟨rfl, m2, rfl⟩)
      go_ret
      exact ⟨rfl, ((Keeps.refl _ _).alloc _).drewN _⟩
  have d0 : (kind == 0) = false := by simpa using h0
  rw [if_neg h0] at hq
  by_cases h1 : kind = 1
  · subst h1
    rw [if_pos rfl] at hq
    clear d0 h0
    cases ha : netL y.data.toList with
    | none =>
      obtain rfl : r = false := by rw [← hq, ha]; rfl
      have ha' := Lib.hid ha; clear ha hq hr
      go_enter Tryz.func114, Tryz.ntmps114
      go_wp2_with (go_at_call 56; refine (net_none y _ hs ha').mono ?_; rintro e w2 ⟨rfl, m2, rfl⟩)
      go_ret
      exact ⟨rfl, ((Keeps.refl _ _).alloc _).drewN _⟩
    | some x =>
      obtain ⟨a, n⟩ := x
      obtain rfl : r = true := by rw [← hq, ha]; rfl
      have ha' := Lib.hid ha; clear ha hq hr
      go_enter Tryz.func114, Tryz.ntmps114
      go_wp2_with (go_at_call 56; refine (net_some y a n _ hs ha').mono ?_; rintro e w2 ⟨rfl, m2, rfl⟩)
      go_ret
      exact ⟨rfl, ((Keeps.refl _ _).alloc _).drewN _⟩
  have d1 : (kind == 1) = false := by simpa using h1
  rw [if_neg h1] at hq
  by_cases h2 : kind = 2
  · subst h2
    rw [if_pos rfl] at hq
    clear d0 d1 h0 h1
    cases hd : decL y.data.toList with
    | none =>
      obtain rfl : r = false := by rw [← hq, hd]
      have hd' := Lib.hid hd; clear hd hq hr
      go_enter Tryz.func114, Tryz.ntmps114
      go_wp2_with (go_at_call 55; refine (dec_none y _ hd').mono ?_; rintro e w' ⟨rfl, rfl⟩)
      go_ret
      exact ⟨rfl, (Keeps.refl _ _).alloc _⟩
    | some n =>
      rw [hd] at hq
      simp only at hq
      have hd' := Lib.hid hd; clear hd hr
      by_cases hl1 : lo ≤ (n : Int)
      · by_cases hl2 : (n : Int) ≤ hi
        · obtain rfl : r = true := by rw [← hq]; simp [hl1, hl2]
          clear hq
          go_enter Tryz.func114, Tryz.ntmps114
          go_wp2_with (go_at_call 55; refine (dec_some y n _ hd').mono ?_; rintro e w' ⟨rfl, rfl⟩)
          go_ret
          exact ⟨rfl, (Keeps.refl _ _).alloc _⟩
        · obtain rfl : r = false := by rw [← hq]; simp [hl2]
          have e2 : decide ((n : Int) ≤ hi) = false := by simpa using hl2
          clear hq
          go_enter Tryz.func114, Tryz.ntmps114
          go_wp2_with (go_at_call 55; refine (dec_some y n _ hd').mono ?_; rintro e w' ⟨rfl, rfl⟩)
          go_ret
          exact ⟨rfl, (Keeps.refl _ _).alloc _⟩
      · obtain rfl : r = false := by rw [← hq]; simp [hl1]
        clear hq
        go_enter Tryz.func114, Tryz.ntmps114
        go_wp2_with (go_at_call 55; refine (dec_some y n _ hd').mono ?_; rintro e w' ⟨rfl, rfl⟩)
        go_ret
        exact ⟨rfl, (Keeps.refl _ _).alloc _⟩
  have d2 : (kind == 2) = false := by simpa using h2
  rw [if_neg h2] at hq
  by_cases h3 : kind = 3
  · subst h3
    rw [if_pos rfl] at hq
    have hq' := Lib.hid hq
    clear d0 d1 d2 h0 h1 h2 hq hr
    go_enter Tryz.func114, Tryz.ntmps114
    go_wp2_with (go_at_call 40; refine (slicesContains_any _ cs y r _ (hv2'.out _).out (by omega) hq').mono ?_; rintro e w' ⟨rfl, rfl⟩)
    go_ret
    exact ⟨rfl, (Keeps.refl _ _).alloc _⟩
  have d3 : (kind == 3) = false := by simpa using h3
  rw [if_neg h3] at hq
  by_cases h4 : kind = 4
  · subst h4
    rw [if_pos rfl] at hq
    have hyl : y.data.toList.length = y.size := by simp
    rw [hyl] at hq
    clear d0 d1 d2 d3 h0 h1 h2 h3 hr hyl
    by_cases hl : (y.size : Int) ≤ hi
    · have hw : Hid (isWordB y.data.toList = r) := Lib.hid (by rw [← hq]; simp [hl])
      clear hq
      go_enter Tryz.func114, Tryz.ntmps114
      go_wp2_with (go_at_call 134; refine (isWord_any y r _ hs hw).mono ?_; rintro e w' ⟨rfl, rfl⟩)
      go_ret
      exact ⟨rfl, (Keeps.refl _ _).alloc _⟩
    · obtain rfl : r = false := by rw [← hq]; simp [hl]
      clear hq
      go_enter Tryz.func114, Tryz.ntmps114
      go_wp2
      go_ret
      exact ⟨rfl, (Keeps.refl _ _).alloc _⟩
  have d4 : (kind == 4) = false := by simpa using h4
  rw [if_neg h4] at hq
  obtain rfl : r = false := hq.symm
  clear hq hr h0 h1 h2 h3 h4
  go_enter Tryz.func114, Tryz.ntmps114
  go_wp2
  go_ret
  exact ⟨rfl, (Keeps.refl _ _).alloc _⟩
end Go.Proofs.YtialookpnoaogaaGreat
