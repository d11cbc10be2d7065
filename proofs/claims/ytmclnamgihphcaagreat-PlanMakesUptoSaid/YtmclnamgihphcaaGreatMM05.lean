/- The document's Addr and Net, walked. -/
import Derived.Test.YtmclnamgihphcaaGreatMM04
set_option linter.unusedVariables false
set_option linter.unusedSimpArgs false
namespace Go.Proofs.YtmclnamgihphcaaGreat
open Go.RowKit

/-- new memory beside nothing else -/
def NewRes (v : Value) (w0 : World) (e : Ending) (w' : World) : Prop := e = .returned v ∧ Keeps (fun _ => False) w0 w'
theorem ba_eta (p : List UInt8) : (⟨p.toArray⟩ : ByteArray).data.toList = p := rfl
set_option maxRecDepth 100000 in
set_option maxHeartbeats 1000000 in
theorem rAddr_r (s : ByteArray) (r : Option Nat) (w : World) (hs : s.size ≤ 8796093022000) (hr : Hid (addrL s.data.toList = r)) :
    Calls Tryz.prog 73 #[.string s] w (NewRes (addrRes r) w) := by
  have hq := hr.out
  rw [addrL_eq] at hq
  obtain ⟨ps, hps⟩ : ∃ ps, ps = partsL 46 s.data.toList := ⟨_, rfl⟩
  rw [← hps] at hq
  have hpl := partsL_len 46 s.data.toList
  have hpe := partsL_each 46 s.data.toList
  rw [← hps] at hpl hpe
  have hps' := Lib.hid hps; have hq' := Lib.hid hq; have hpe' := Lib.hid hpe; clear hps hq hpe hr
  have hpl' : ps.length ≤ 8796093022001 := by simp at hpl; omega
  clear hpl
  go_enter Tryz.func73, Tryz.ntmps73
  go_wp2_with fail
  refine (parts_any s 46 _ hs).mono ?_
  rintro e w1 ⟨p, d, rfl, hown, hk⟩
  rw [← hps'.out] at *
  have hown1 := Lib.hid hown; have hk1 := Lib.hid hk
  have hat := hown.at
  clear hown hk
  by_cases h4 : ps.length = 4
  · have hq4 := hq'.out
    rw [if_pos h4] at hq4
    have hq4' := Lib.hid hq4; clear hq4
    obtain ⟨p', c', hpe2, hr0⟩ := hat
    obtain ⟨g, o, rfl, hr1⟩ := hr0 (by omega)
    have e1 : p = some ⟨g, o, none⟩ := by injection hpe2
    subst e1
    have hr1' := Lib.hid hr1; have h4' := Lib.hid h4
    rw [h4]
    clear hpe2 hr0 hr1 h4
    go_wp2_with fail
    go_loop [5, 6] (fun nv iv => ∃ (k n : Nat), k ≤ 4 ∧ iv = .int .i64 k ∧ nv = .int .u32 (n : Nat) ∧ Hid (n < 256 ^ k) ∧ Hid (foldParts n (ps.drop k) = r)) (fun _ iv => 4 - (intOf iv).toNat)
    case atStart => exact ⟨0, 0, by omega, rfl, rfl, Lib.hid (by simp), Lib.hid (by rw [List.drop_zero]; exact hq4'.out)⟩
    case round =>
      obtain ⟨k, n, hk, rfl, rfl, hn, hf⟩ := hrel
      by_cases hk4 : k < 4
      · have hkl : k < ps.length := by have := h4'.out; omega
        have hfd := hf.out
        rw [List.drop_eq_getElem_cons hkl] at hfd
        unfold foldParts at hfd
        have hn4 : n < 16777216 := by
          have h1 := hn.out
          have : 256 ^ k ≤ 256 ^ 3 := Nat.pow_le_pow_right (by omega) (by omega)
          omega
        obtain ⟨X, hX⟩ : ∃ X : ByteArray, X = ⟨(ps[k]).toArray⟩ := ⟨_, rfl⟩
        have c1 : w1.cell? ⟨g, o + k, none⟩ = some (.string X) := by rw [hX]; exact hr1'.out k _ (by simp [hkl, strv])
        have hXl : X.data.toList = ps[k] := by rw [hX]
        rw [← hXl] at hfd
        clear hX hXl
        cases hd : decL X.data.toList with
        | none =>
          rw [hd] at hfd
          have hr2 : Hid (r = none) := Lib.hid hfd.symm
          have hd' := Lib.hid hd; clear hd hfd hf
          go_wp2_with (go_at_call 77; refine (rDec_none X _ hd').mono ?_; rintro e w' ⟨rfl, rfl⟩)
          go_ret2
          exact ⟨by rw [hr2.out]; rfl, hk1.out⟩
        | some b =>
          rw [hd] at hfd
          simp only at hfd
          have hb9 := decL_lt hd
          have hd' := Lib.hid hd; clear hd hf
          by_cases hb : b ≤ 255
          · rw [if_pos hb] at hfd
            have hf' := Lib.hid hfd; clear hfd
            have hn' : Hid (n * 256 + b < 256 ^ (k + 1)) := Lib.hid (by have := hn.out; rw [Nat.pow_succ]; omega)
            go_wp2_with (go_at_call 77; refine (rDec_some X b _ hd').mono ?_; rintro e w' ⟨rfl, rfl⟩)
            go_round
            case rel => exact ⟨k + 1, n * 256 + b, by omega, by go_num, by congr 1, hn', hf'⟩
            case measure => simp [intOf]; omega
          · rw [if_neg hb] at hfd
            have hr2 : Hid (r = none) := Lib.hid hfd.symm
            clear hfd
            go_wp2_with (go_at_call 77; refine (rDec_some X b _ hd').mono ?_; rintro e w' ⟨rfl, rfl⟩)
            go_ret2
            exact ⟨by rw [hr2.out]; rfl, hk1.out⟩
      · obtain rfl : k = 4 := by omega
        have hr2 : Hid (r = some n) := Lib.hid (by
          have := hf.out
          rw [List.drop_of_length_le (by have := h4'.out; omega)] at this
          exact this.symm)
        clear hf
        go_wp2
        go_ret2
        exact ⟨by rw [hr2.out]; rfl, hk1.out⟩
  · have hq4 := hq'.out
    rw [if_neg h4] at hq4
    have hr2 : Hid (r = none) := Lib.hid hq4.symm
    have d1 : ((ps.length : Int) != 4) = true := by rw [bne_iff_ne]; omega
    have d2 : (ps.length != 4) = true := by simpa using h4
    clear hq4 h4 hat
    go_wp2
    go_ret2
    exact ⟨by rw [hr2.out]; rfl, hk1.out⟩
theorem rAddr_none (s : ByteArray) (w : World) (hs : s.size ≤ 8796093022000) (h : Hid (addrL s.data.toList = none)) :
    Calls Tryz.prog 73 #[.string s] w (NewRes (.tuple #[.int .u32 0, .bool false]) w) := rAddr_r s none w hs h
theorem rAddr_some (s : ByteArray) (n : Nat) (w : World) (hs : s.size ≤ 8796093022000) (h : Hid (addrL s.data.toList = some n)) :
    Calls Tryz.prog 73 #[.string s] w (NewRes (.tuple #[.int .u32 (n : Nat), .bool true]) w) := rAddr_r s (some n) w hs h
end Go.Proofs.YtmclnamgihphcaaGreat
/- The document's Net, walked. -/
namespace Go.Proofs.YtmclnamgihphcaaGreat
open Go.RowKit

set_option maxRecDepth 100000 in
set_option maxHeartbeats 2000000 in
theorem rNet_r (s : ByteArray) (r : Option (Nat × Nat)) (w : World) (hs : s.size ≤ 8796093022000) (hr : Hid (netL s.data.toList = r)) :
    Calls Tryz.prog 76 #[.string s] w (NewRes (netRes r) w) := by
  have hq := hr.out
  rw [netL_eq] at hq
  obtain ⟨ps, hps⟩ : ∃ ps, ps = partsL 47 s.data.toList := ⟨_, rfl⟩
  rw [← hps] at hq
  have hpl := partsL_len 47 s.data.toList
  have hpe := partsL_each 47 s.data.toList
  rw [← hps] at hpl hpe
  have hps' := Lib.hid hps; have hq' := Lib.hid hq; have hpe' := Lib.hid hpe; clear hps hq hpe hr
  have hpl' : ps.length ≤ 8796093022001 := by simp at hpl; omega
  clear hpl
  go_enter Tryz.func76, Tryz.ntmps76
  go_wp2_with fail
  refine (parts_any s 47 _ hs).mono ?_
  rintro e w1 ⟨p, d, rfl, hown, hk⟩
  rw [← hps'.out] at *
  have hown1 := Lib.hid hown; have hk1 := Lib.hid hk
  have hat := hown.at
  clear hown hk
  by_cases h2 : ps.length = 2
  · obtain ⟨x, y, rfl⟩ : ∃ x y, ps = [x, y] := by
      match ps, h2 with
      | [x, y], _ => exact ⟨x, y, rfl⟩
    have hq2 := hq'.out
    simp only [netParts] at hq2
    obtain ⟨p', c', hpe2, hr0⟩ := hat
    obtain ⟨g, o, rfl, hr1⟩ := hr0 (by simp)
    have e1 : p = some ⟨g, o, none⟩ := by injection hpe2
    subst e1
    obtain ⟨X, hX⟩ : ∃ X : ByteArray, X = ⟨x.toArray⟩ := ⟨_, rfl⟩
    obtain ⟨Y, hY⟩ : ∃ Y : ByteArray, Y = ⟨y.toArray⟩ := ⟨_, rfl⟩
    have c1 : w1.cell? ⟨g, o, none⟩ = some (.string X) := by rw [hX]; exact hr1 0 _ (by simp [strv])
    have c2 : w1.cell? ⟨g, o + 1, none⟩ = some (.string Y) := by rw [hY]; exact hr1 1 _ (by simp [strv])
    have hlt : g < w1.heap.size := World.block_lt_of_cell? w1 _ c1
    have hXl : X.data.toList = x := by rw [hX]
    have hYl : Y.data.toList = y := by rw [hY]
    have hXs : X.size ≤ s.size := by
      have := hpe'.out x (by simp)
      rw [← hXl] at this; simpa using this
    rw [← hXl, ← hYl] at hq2
    clear hX hXl hY hYl hpe2 hr0 hr1 h2
    rw [show [x, y].length = 2 from rfl]
    have kc : ∀ w2, Keeps (fun _ => False) w1 w2 → w2.cell? ⟨g, o + 1, none⟩ = some (.string Y) := fun w2 k => (k.cell (p := ⟨g, o + 1, none⟩) hlt id).trans c2
    have kc' := Lib.hid kc; clear kc c2
    cases ha : addrL X.data.toList with
    | none =>
      rw [ha] at hq2
      have ha' := Lib.hid ha; clear ha
      obtain rfl : r = none := by cases hd : decL Y.data.toList <;> rw [hd] at hq2 <;> exact hq2.symm
      clear hq2
      cases hd : decL Y.data.toList with
      | none =>
        have hd' := Lib.hid hd; clear hd
        go_wp2_with (first | (go_at_call 73; refine (rAddr_none X _ (by omega) ha').mono ?_; rintro e w2 ⟨rfl, hk2⟩; have c2 := kc'.out w2 hk2; have hkr := Lib.hid hk2; clear hk2) | (go_at_call 77; refine (rDec_none Y _ hd').mono ?_; rintro e w' ⟨rfl, rfl⟩))
        go_ret3
        exact ⟨rfl, hk1.out.trans hkr.out⟩
      | some n =>
        have hd' := Lib.hid hd; clear hd
        go_wp2_with (first | (go_at_call 73; refine (rAddr_none X _ (by omega) ha').mono ?_; rintro e w2 ⟨rfl, hk2⟩; have c2 := kc'.out w2 hk2; have hkr := Lib.hid hk2; clear hk2) | (go_at_call 77; refine (rDec_some Y n _ hd').mono ?_; rintro e w' ⟨rfl, rfl⟩))
        go_ret3
        exact ⟨rfl, hk1.out.trans hkr.out⟩
    | some a =>
      rw [ha] at hq2
      have ha' := Lib.hid ha; clear ha
      cases hd : decL Y.data.toList with
      | none =>
        rw [hd] at hq2
        obtain rfl : r = none := hq2.symm
        have hd' := Lib.hid hd; clear hd hq2
        go_wp2_with (first | (go_at_call 73; refine (rAddr_some X a _ (by omega) ha').mono ?_; rintro e w2 ⟨rfl, hk2⟩; have c2 := kc'.out w2 hk2; have hkr := Lib.hid hk2; clear hk2) | (go_at_call 77; refine (rDec_none Y _ hd').mono ?_; rintro e w' ⟨rfl, rfl⟩))
        go_ret3
        exact ⟨rfl, hk1.out.trans hkr.out⟩
      | some n =>
        rw [hd] at hq2
        simp only at hq2
        have hd' := Lib.hid hd; clear hd
        by_cases h1 : 1 ≤ n
        · by_cases h2 : n ≤ 32
          · rw [if_pos ⟨h1, h2⟩] at hq2
            obtain rfl : r = some (a, n) := hq2.symm
            clear hq2
            go_wp2_with (first | (go_at_call 73; refine (rAddr_some X a _ (by omega) ha').mono ?_; rintro e w2 ⟨rfl, hk2⟩; have c2 := kc'.out w2 hk2; have hkr := Lib.hid hk2; clear hk2) | (go_at_call 77; refine (rDec_some Y n _ hd').mono ?_; rintro e w' ⟨rfl, rfl⟩))
            go_ret3
            exact ⟨rfl, hk1.out.trans hkr.out⟩
          · rw [if_neg (by omega)] at hq2
            obtain rfl : r = none := hq2.symm
            clear hq2
            go_wp2_with (first | (go_at_call 73; refine (rAddr_some X a _ (by omega) ha').mono ?_; rintro e w2 ⟨rfl, hk2⟩; have c2 := kc'.out w2 hk2; have hkr := Lib.hid hk2; clear hk2) | (go_at_call 77; refine (rDec_some Y n _ hd').mono ?_; rintro e w' ⟨rfl, rfl⟩))
            go_ret3
            exact ⟨rfl, hk1.out.trans hkr.out⟩
        · rw [if_neg (by omega)] at hq2
          obtain rfl : r = none := hq2.symm
          clear hq2
          go_wp2_with (first | (go_at_call 73; refine (rAddr_some X a _ (by omega) ha').mono ?_; rintro e w2 ⟨rfl, hk2⟩; have c2 := kc'.out w2 hk2; have hkr := Lib.hid hk2; clear hk2) | (go_at_call 77; refine (rDec_some Y n _ hd').mono ?_; rintro e w' ⟨rfl, rfl⟩))
          go_ret3
          exact ⟨rfl, hk1.out.trans hkr.out⟩
  · have hq2 := hq'.out
    have hr2 : Hid (r = none) := Lib.hid (by
      rw [← hq2]
      match ps, h2 with
      | [], _ => rfl
      | [x], _ => rfl
      | [x, y], h => exact (h rfl).elim
      | x :: y :: z :: l, _ => rfl)
    have d1 : ((ps.length : Int) != 2) = true := by rw [bne_iff_ne]; omega
    have d2 : (ps.length != 2) = true := by simpa using h2
    clear hq2 h2 hat
    go_wp2
    go_ret3
    exact ⟨by rw [hr2.out]; rfl, hk1.out⟩
theorem rNet_none (s : ByteArray) (w : World) (hs : s.size ≤ 8796093022000) (h : Hid (netL s.data.toList = none)) :
    Calls Tryz.prog 76 #[.string s] w (NewRes (.tuple #[.int .u32 0, .int .i64 0, .bool false]) w) := rNet_r s none w hs h
theorem rNet_some (s : ByteArray) (a n : Nat) (w : World) (hs : s.size ≤ 8796093022000) (h : Hid (netL s.data.toList = some (a, n))) :
    Calls Tryz.prog 76 #[.string s] w (NewRes (.tuple #[.int .u32 (a : Nat), .int .i64 (n : Nat), .bool true]) w) := rNet_r s (some (a, n)) w hs h
end Go.Proofs.YtmclnamgihphcaaGreat
/- Named, and the document's Word and Named, walked. -/
namespace Go.Proofs.YtmclnamgihphcaaGreat
open Go.RowKit

theorem lexWords_one' {t : List UInt8} (h : isWordB t = true) : lexWords t = ([t], t.length, 0) := by
  have := (lexL_one (s := t)).2 h
  unfold lexWords; rw [this.1]
theorem lexWords_not' {t : List UInt8} {l : List (List UInt8)} {n : Nat} (h : isWordB t = false) (hw : lexWords t = (l, n, 0)) (h1 : l = [t]) : t = [123] ∨ t = [125] ∨ t = [59] := by
  subst h1
  have hl : lexL t = .ok [t] := by
    unfold lexWords at hw
    cases h : lexL t with
    | ok m => rw [h] at hw; injection hw with e _; rw [e]
    | bad m => rw [h] at hw; simp at hw
  have hn : ¬ ∀ c, t = [c] → signB c = false := fun hs => by
    have := (lexL_one (s := t)).1 ⟨hl, hs⟩
    rw [this] at h; cases h
  rw [Classical.not_forall] at hn
  obtain ⟨c, hc⟩ := hn
  rw [Classical.not_imp] at hc
  obtain ⟨rfl, hc⟩ := hc
  have hs : signB c = true := by simpa using hc
  have hc : c = 123 ∨ c = 125 ∨ c = 59 := by simpa [signB, or_assoc] using hs
  rcases hc with rfl | rfl | rfl <;> simp
theorem word_no_sign' {t : List UInt8} (h : isWordB t = true) : t ≠ [123] ∧ t ≠ [125] ∧ t ≠ [59] := by
  refine ⟨?_, ?_, ?_⟩ <;> (rintro rfl; revert h; decide)
theorem lexWords_err' (t : List UInt8) : (lexWords t).2.2 = 0 ∨ (lexWords t).2.2 = 3 := by
  unfold lexWords; cases lexL t <;> simp
theorem lexWords_len' (t : List UInt8) : (lexWords t).1.length ≤ t.length := by
  unfold lexWords
  cases h : lexL t with
  | bad n => simp
  | ok l =>
    have h1 := lexL_total t.length t (Nat.le_refl _) l h
    have h2 : ∀ m : List (List UInt8), (∀ w ∈ m, 1 ≤ w.length) → m.length ≤ total m := by
      intro m
      induction m with
      | nil => simp
      | cons a m ih =>
        intro h
        have := ih (fun w hw => h w (by simp [hw]))
        have := h a (by simp)
        simp [total] at *; omega
    have h3 := h2 l (fun w hw => by
      rcases h1.2 w hw with h | ⟨c, rfl, _⟩
      · unfold isWordB at h; simp at h; omega
      · simp)
    show l.length ≤ t.length
    omega
theorem rWords_l' (s : ByteArray) (l : List (List UInt8)) (n er : Nat) (w : World) (hs : s.size ≤ 8796093022208) (h : Hid (lexWords s.data.toList = (l, n, er))) :
    Calls Tryz.prog 87 #[.string s] w fun e w' => ∃ p c, e = .returned (.tuple #[.slice p l.length c, .int .i64 (n : Nat), .int .i64 (er : Nat)]) ∧ OwnStrs w w' (.slice p l.length c) l ∧ Keeps (fun _ => False) w w' :=
  (rWords_any s w hs).mono fun e w' h' => by unfold WordsPost at h'; rw [h.out] at h'; exact h'

set_option maxRecDepth 100000 in
set_option maxHeartbeats 1000000 in
theorem rWord_any (x : ByteArray) (r : Bool) (w : World) (hxs : x.size ≤ 8796093022000) (hr : Hid (isWordB x.data.toList = r)) :
    Calls Tryz.prog 74 #[.string x] w (NewRes (.bool r) w) := by
  go_enter Tryz.func74, Tryz.ntmps74
  go_wp2_with fail
  by_cases hw : isWordB x.data.toList = true
  · obtain rfl : r = true := by rw [← hr.out]; exact hw
    have hL := lexWords_one' hw
    have hL' := Lib.hid hL; clear hL
    obtain ⟨k1, k2, k3⟩ := word_no_sign' hw
    rw [← Lib.toList_data] at k1 k2 k3
    have e1 : (x.toList == [123]) = false := by simpa using k1
    have e2 : (x.toList == [125]) = false := by simpa using k2
    have e3 : (x.toList == [59]) = false := by simpa using k3
    clear k1 k2 k3 hw
    refine (rWords_l' x _ _ _ _ (by omega) hL').mono ?_
    rintro e w2 ⟨p2, c2, rfl, hown, hk⟩
    obtain ⟨g, o, rfl, hr1⟩ : ∃ g o, p2 = some ⟨g, o, none⟩ ∧ w2.rangeAt g o ([x.data.toList].map strv) := by
      obtain ⟨q, d, e, h⟩ := hown.at
      obtain ⟨g, o, rfl, hr⟩ := h (by simp)
      injection e with e1 e2 e3
      exact ⟨g, o, e1, hr⟩
    have c0 : w2.cell? ⟨g, o, none⟩ = some (.string x) := hr1 0 _ rfl
    have hown2 := Lib.hid hown; have hk2 := Lib.hid hk; clear hown hk hr1
    go_wp2
    go_ret
    exact ⟨rfl, hk2.out⟩
  · have hw1 : isWordB x.data.toList = false := by simpa using hw
    obtain rfl : r = false := by rw [← hr.out]; exact hw1
    obtain ⟨l, n, er, hL, hll, her⟩ : ∃ (l : List (List UInt8)) (n er : Nat), lexWords x.data.toList = (l, n, er) ∧ l.length ≤ x.size ∧ (er = 0 ∨ er = 3) :=
      ⟨(lexWords x.data.toList).1, (lexWords x.data.toList).2.1, (lexWords x.data.toList).2.2, rfl, by simpa using lexWords_len' x.data.toList, lexWords_err' _⟩
    have hnot : Hid (er = 0 → l = [x.data.toList] → x.data.toList = [123] ∨ x.data.toList = [125] ∨ x.data.toList = [59]) := Lib.hid fun h0 h1 => lexWords_not' hw1 (h0 ▸ hL) h1
    have hL' := Lib.hid hL; clear hL hw hw1
    refine (rWords_l' x l n er _ (by omega) hL').mono ?_
    rintro e w2 ⟨p2, c2, rfl, hown, hk⟩
    have hown2 := Lib.hid hown; have hk2 := Lib.hid hk; clear hown hk
    rcases her with rfl | rfl
    · by_cases hl1 : l.length = 1
      · obtain ⟨y, rfl⟩ := List.length_eq_one_iff.1 hl1
        clear hl1 hll
        obtain ⟨g, o, rfl, hr1⟩ : ∃ g o, p2 = some ⟨g, o, none⟩ ∧ w2.rangeAt g o ([y].map strv) := by
          obtain ⟨q, d, e, h⟩ := hown2.out.at
          obtain ⟨g, o, rfl, hr⟩ := h (by simp)
          injection e with e1 e2 e3
          exact ⟨g, o, e1, hr⟩
        obtain ⟨Y, hY⟩ : ∃ Y : ByteArray, Y = ⟨y.toArray⟩ := ⟨_, rfl⟩
        have c0 : w2.cell? ⟨g, o, none⟩ = some (.string Y) := by rw [hY]; exact hr1 0 _ rfl
        have hYl : Y.toList = y := by rw [hY, Lib.toList_data]
        clear hr1 hY
        by_cases hyx : y = x.data.toList
        · have hs3 := hnot.out rfl (by rw [hyx])
          rw [← Lib.toList_data] at hs3 hyx
          have hE : (Y.toList == x.toList) = true := by rw [hYl, hyx]; simp
          have hy' := Lib.hid hyx; have hYl' := Lib.hid hYl; clear hyx hYl
          rcases hs3 with h3 | h3 | h3
          · have e1 : (x.toList == [123]) = true := by rw [h3]; rfl
            have h3' := Lib.hid h3; clear h3
            go_wp2
            go_ret
            exact ⟨rfl, hk2.out⟩
          · have e1 : (x.toList == [123]) = false := by rw [h3]; rfl
            have e2 : (x.toList == [125]) = true := by rw [h3]; rfl
            have h3' := Lib.hid h3; clear h3
            go_wp2
            go_ret
            exact ⟨rfl, hk2.out⟩
          · have e1 : (x.toList == [123]) = false := by rw [h3]; rfl
            have e2 : (x.toList == [125]) = false := by rw [h3]; rfl
            have e3 : (x.toList == [59]) = true := by rw [h3]; rfl
            have h3' := Lib.hid h3; clear h3
            go_wp2
            go_ret
            exact ⟨rfl, hk2.out⟩
        · have hE : (Y.toList == x.toList) = false := by rw [hYl, Lib.toList_data]; simpa using hyx
          have hYl' := Lib.hid hYl; clear hyx hYl
          go_wp2
          go_ret
          exact ⟨rfl, hk2.out⟩
      · have hE : ((l.length : Int) == 1) = false := by rw [beq_eq_false_iff_ne]; omega
        have hE2 : (l.length == 1) = false := by simpa using hl1
        clear hl1
        go_wp2
        go_ret
        exact ⟨rfl, hk2.out⟩
    · go_wp2
      go_ret
      exact ⟨rfl, hk2.out⟩
end Go.Proofs.YtmclnamgihphcaaGreat
/- Named, the code's and the document's, walked. -/
namespace Go.Proofs.YtmclnamgihphcaaGreat
open Go.RowKit

def namedB (head : Int) (name : List UInt8) : Bool :=
  if head = 0 then name.isEmpty else if head = 1 then (addrL name).isSome else if head = 2 then isWordB name && !name.contains 47 else false

theorem empty_eq (s : ByteArray) : (s.toList == []) = s.data.toList.isEmpty := by
  rw [Lib.toList_data]; cases s.data.toList <;> rfl
set_option maxRecDepth 100000 in
set_option maxHeartbeats 1000000 in
theorem named_any (head : Int) (s : ByteArray) (r : Bool) (w : World) (hs : s.size ≤ 9223372036854775807) (hr : Hid (namedB head s.data.toList = r)) :
    Calls Tryz.prog 78 #[.int .i64 head, .string s] w fun e w' => e = .returned (.bool r) ∧ ∃ m, w' = w.drewN m := by
  have hq := hr.out
  unfold namedB at hq
  by_cases h0 : head = 0
  · subst h0
    rw [if_pos rfl] at hq
    have e1 : s.toList.isEmpty = r := by rw [Lib.toList_data]; exact hq
    clear hq hr
    cases r with
    | true =>
      go_enter Tryz.func78, Tryz.ntmps78
      go_wp2
      go_ret
      exact ⟨rfl, 0, rfl⟩
    | false =>
      go_enter Tryz.func78, Tryz.ntmps78
      go_wp2
      go_ret
      exact ⟨rfl, 0, rfl⟩
  have d0 : (head == 0) = false := by simpa using h0
  rw [if_neg h0] at hq
  by_cases h1 : head = 1
  · subst h1
    rw [if_pos rfl] at hq
    clear hr d0
    cases ha : addrL s.data.toList with
    | none =>
      obtain rfl : r = false := by rw [← hq, ha]; rfl
      have ha' := Lib.hid ha; clear ha hq h0
      go_enter Tryz.func78, Tryz.ntmps78
      go_wp2_with (go_at_call 88; refine (addr_none s _ hs ha').mono ?_; rintro e w2 ⟨rfl, m2, rfl⟩)
      go_ret
      exact ⟨rfl, m2, rfl⟩
    | some a =>
      obtain rfl : r = true := by rw [← hq, ha]; rfl
      have ha' := Lib.hid ha; clear ha hq h0
      go_enter Tryz.func78, Tryz.ntmps78
      go_wp2_with (go_at_call 88; refine (addr_some s a _ hs ha').mono ?_; rintro e w2 ⟨rfl, m2, rfl⟩)
      go_ret
      exact ⟨rfl, m2, rfl⟩
  have d1 : (head == 1) = false := by simpa using h1
  rw [if_neg h1] at hq
  by_cases h2 : head = 2
  · subst h2
    rw [if_pos rfl] at hq
    clear hr d0 d1 h0 h1
    obtain ⟨b, hb⟩ : ∃ b, isWordB s.data.toList = b := ⟨_, rfl⟩
    obtain ⟨c, hc⟩ : ∃ c, decide ((47 : UInt8) ∈ s.data.toList) = c := ⟨_, rfl⟩
    have hq2 : (b && !c) = r := by rw [← hq, ← hb, ← hc]; simp
    have hb' := Lib.hid hb; have hc' := Lib.hid hc; clear hb hc hq
    cases b with
    | true =>
      cases c with
      | true =>
        obtain rfl : r = false := hq2.symm
        clear hq2
        go_enter Tryz.func78, Tryz.ntmps78
        go_wp2_with (first | (go_at_call 89; refine (isWord_any s true _ hs hb').mono ?_; rintro e w' ⟨rfl, rfl⟩) | (go_at_call 90; refine (stringsContains_one s 47 _ true hc').mono ?_; rintro e w' ⟨rfl, rfl⟩))
        go_ret
        exact ⟨rfl, 0, rfl⟩
      | false =>
        obtain rfl : r = true := hq2.symm
        clear hq2
        go_enter Tryz.func78, Tryz.ntmps78
        go_wp2_with (first | (go_at_call 89; refine (isWord_any s true _ hs hb').mono ?_; rintro e w' ⟨rfl, rfl⟩) | (go_at_call 90; refine (stringsContains_one s 47 _ false hc').mono ?_; rintro e w' ⟨rfl, rfl⟩))
        go_ret
        exact ⟨rfl, 0, rfl⟩
    | false =>
      obtain rfl : r = false := hq2.symm
      clear hq2
      go_enter Tryz.func78, Tryz.ntmps78
      go_wp2_with (go_at_call 89; refine (isWord_any s false _ hs hb').mono ?_; rintro e w' ⟨rfl, rfl⟩)
      go_ret
      exact ⟨rfl, 0, rfl⟩
  have d2 : (head == 2) = false := by simpa using h2
  rw [if_neg h2] at hq
  obtain rfl : r = false := hq.symm
  clear hq hr h0 h1 h2
  go_enter Tryz.func78, Tryz.ntmps78
  go_wp2
  go_ret
  exact ⟨rfl, 0, rfl⟩

set_option maxRecDepth 100000 in
set_option maxHeartbeats 1000000 in
theorem rNamed_any (head : Int) (s : ByteArray) (r : Bool) (w : World) (hs : s.size ≤ 8796093022000) (hr : Hid (namedB head s.data.toList = r)) :
    Calls Tryz.prog 51 #[.int .i64 head, .string s] w (NewRes (.bool r) w) := by
  have hq := hr.out
  unfold namedB at hq
  by_cases h0 : head = 0
  · subst h0
    rw [if_pos rfl] at hq
    have e1 : s.toList.isEmpty = r := by rw [Lib.toList_data]; exact hq
    clear hq hr
    cases r with
    | true =>
      go_enter Tryz.func51, Tryz.ntmps51
      go_wp2
      go_ret
      exact ⟨rfl, Keeps.refl _ _⟩
    | false =>
      go_enter Tryz.func51, Tryz.ntmps51
      go_wp2
      go_ret
      exact ⟨rfl, Keeps.refl _ _⟩
  have d0 : (head == 0) = false := by simpa using h0
  rw [if_neg h0] at hq
  by_cases h1 : head = 1
  · subst h1
    rw [if_pos rfl] at hq
    clear hr d0
    cases ha : addrL s.data.toList with
    | none =>
      obtain rfl : r = false := by rw [← hq, ha]; rfl
      have ha' := Lib.hid ha; clear ha hq h0
      go_enter Tryz.func51, Tryz.ntmps51
      go_wp2_with (go_at_call 73; refine (rAddr_none s _ hs ha').mono ?_; rintro e w2 ⟨rfl, hk2⟩; have hk2' := Lib.hid hk2; clear hk2)
      go_ret
      exact ⟨rfl, hk2'.out⟩
    | some a =>
      obtain rfl : r = true := by rw [← hq, ha]; rfl
      have ha' := Lib.hid ha; clear ha hq h0
      go_enter Tryz.func51, Tryz.ntmps51
      go_wp2_with (go_at_call 73; refine (rAddr_some s a _ hs ha').mono ?_; rintro e w2 ⟨rfl, hk2⟩; have hk2' := Lib.hid hk2; clear hk2)
      go_ret
      exact ⟨rfl, hk2'.out⟩
  have d1 : (head == 1) = false := by simpa using h1
  rw [if_neg h1] at hq
  by_cases h2 : head = 2
  · subst h2
    rw [if_pos rfl] at hq
    clear hr d0 d1 h0 h1
    obtain ⟨b, hb⟩ : ∃ b, isWordB s.data.toList = b := ⟨_, rfl⟩
    cases b with
    | true =>
      have hb' := Lib.hid hb
      by_cases hm : (47 : UInt8) ∈ s.data.toList
      · obtain rfl : r = false := by rw [← hq, hb]; simpa using hm
        obtain ⟨k, hk⟩ : ∃ k, (partsL 47 s.data.toList).length = k + 2 := by
          rw [partsL_yes hm]
          have := partsL_ne 47 (s.data.toList.drop (before 47 s.data.toList + 1))
          cases hp : partsL 47 (s.data.toList.drop (before 47 s.data.toList + 1)) with
          | nil => exact (this hp).elim
          | cons a l => exact ⟨l.length, by simp⟩
        have e1 : (((k + 2 : Nat) : Int) == 1) = false := by rw [beq_eq_false_iff_ne]; omega
        have e2 : ((k : Int) + 2 == 1) = false := by rw [beq_eq_false_iff_ne]; omega
        have hk' := Lib.hid hk; clear hk hb hq hm
        go_enter Tryz.func51, Tryz.ntmps51
        go_wp2_with (first | (go_at_call 74; refine (rWord_any s true _ hs hb').mono ?_; rintro e w2 ⟨rfl, hk2⟩; have hk2' := Lib.hid hk2; clear hk2) | (go_at_call 75; refine (parts_any s 47 _ hs).mono ?_; rintro e w3 ⟨p3, d3, rfl, ho3, hk3⟩; rw [hk'.out]; have hk3' := Lib.hid hk3; clear hk3 ho3))
        go_ret
        exact ⟨rfl, hk2'.out.trans hk3'.out⟩
      · obtain rfl : r = true := by rw [← hq, hb]; simpa using hm
        have hk : (partsL 47 s.data.toList).length = 1 := by rw [partsL_no hm]; rfl
        have hk' := Lib.hid hk; clear hk hb hq hm
        go_enter Tryz.func51, Tryz.ntmps51
        go_wp2_with (first | (go_at_call 74; refine (rWord_any s true _ hs hb').mono ?_; rintro e w2 ⟨rfl, hk2⟩; have hk2' := Lib.hid hk2; clear hk2) | (go_at_call 75; refine (parts_any s 47 _ hs).mono ?_; rintro e w3 ⟨p3, d3, rfl, ho3, hk3⟩; rw [hk'.out]; have hk3' := Lib.hid hk3; clear hk3 ho3))
        go_ret
        exact ⟨rfl, hk2'.out.trans hk3'.out⟩
    | false =>
      obtain rfl : r = false := by rw [← hq, hb]; rfl
      have hb' := Lib.hid hb; clear hb hq
      go_enter Tryz.func51, Tryz.ntmps51
      go_wp2_with (go_at_call 74; refine (rWord_any s false _ hs hb').mono ?_; rintro e w2 ⟨rfl, hk2⟩; have hk2' := Lib.hid hk2; clear hk2)
      go_ret
      exact ⟨rfl, hk2'.out⟩
  have d2 : (head == 2) = false := by simpa using h2
  rw [if_neg h2] at hq
  obtain rfl : r = false := hq.symm
  clear hq hr h0 h1 h2
  go_enter Tryz.func51, Tryz.ntmps51
  go_wp2
  go_ret
  exact ⟨rfl, Keeps.refl _ _⟩
end Go.Proofs.YtmclnamgihphcaaGreat
