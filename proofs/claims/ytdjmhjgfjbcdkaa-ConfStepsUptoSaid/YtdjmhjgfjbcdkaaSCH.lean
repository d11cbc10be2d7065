/- The document's Net, walked. -/
import Derived.Test.YtdjmhjgfjbcdkaaSCG
namespace Go.Proofs.Ytdjmhjgfjbcdkaa
open Go.RowKit

set_option maxRecDepth 100000 in
set_option maxHeartbeats 2000000 in
theorem rNet_r (s : ByteArray) (r : Option (Nat × Nat)) (w : World) (hs : s.size ≤ 8796093022000) (hr : Hid (netL s.data.toList = r)) :
    Calls Try.prog 56 #[.string s] w (NewRes (netRes r) w) := by
  have hq := hr.out
  rw [netL_eq] at hq
  obtain ⟨ps, hps⟩ : ∃ ps, ps = partsL 47 s.data.toList := ⟨_, rfl⟩
  rw [← hps] at hq
  have hpl := partsL_len 47 s.data.toList
  have hpe := partsL_each 47 s.data.toList
  rw [← hps] at hpl hpe
  have hps' := Lib.hid hps; have hq' := Lib.hid hq; have hpe' := Lib.hid hpe; clear hps hq hpe hr
  have hpl' : ps.length ≤ 8796093022001 := by simp at hpl; omega
  clear hpl
  go_enter Try.func56, Try.ntmps56
  go_wp2_with fail
  refine (parts_any s 47 _ hs).mono ?_
  rintro e w1 ⟨p, d, rfl, hown, hk⟩
  rw [← hps'.out] at *
  have hown1 := Lib.hid hown; have hk1 := Lib.hid hk
  have hat := hown.at
  clear hown hk
  by_cases h2 : ps.length = 2
  · obtain ⟨x, y, rfl⟩ : ∃ x y, ps = [x, y] := by
      match ps, h2 with
      | [x, y], _ => exact ⟨x, y, rfl⟩
    have hq2 := hq'.out
    simp only [netParts] at hq2
    obtain ⟨p', c', hpe2, hr0⟩ := hat
    obtain ⟨g, o, rfl, hr1⟩ := hr0 (by simp)
    have e1 : p = some ⟨g, o, none⟩ := by injection hpe2
    subst e1
    obtain ⟨X, hX⟩ : ∃ X : ByteArray, X = ⟨x.toArray⟩ := ⟨_, rfl⟩
    obtain ⟨Y, hY⟩ : ∃ Y : ByteArray, Y = ⟨y.toArray⟩ := ⟨_, rfl⟩
    have c1 : w1.cell? ⟨g, o, none⟩ = some (.string X) := by rw [hX]; exact hr1 0 _ (by simp [strv])
    have c2 : w1.cell? ⟨g, o + 1, none⟩ = some (.string Y) := by rw [hY]; exact hr1 1 _ (by simp [strv])
    have hlt : g < w1.heap.size := World.block_lt_of_cell? w1 _ c1
    have hXl : X.data.toList = x := by rw [hX]
    have hYl : Y.data.toList = y := by rw [hY]
    have hXs : X.size ≤ s.size := by
      have := hpe'.out x (by simp)
      rw [← hXl] at this; simpa using this
    rw [← hXl, ← hYl] at hq2
    clear hX hXl hY hYl hpe2 hr0 hr1 h2
    rw [show [x, y].length = 2 from rfl]
    have kc : ∀ w2, Keeps (fun _ => False) w1 w2 → w2.cell? ⟨g, o + 1, none⟩ = some (.string Y) := fun w2 k => (k.cell (p := ⟨g, o + 1, none⟩) hlt id).trans c2
    have kc' := Lib.hid kc; clear kc c2
    cases ha : addrL X.data.toList with
    | none =>
      rw [ha] at hq2
      have ha' := Lib.hid ha; clear ha
      obtain rfl : r = none := by cases hd : decL Y.data.toList <;> rw [hd] at hq2 <;> exact hq2.symm
      clear hq2
      cases hd : decL Y.data.toList with
      | none =>
        have hd' := Lib.hid hd; clear hd
        go_wp2_with (first | (go_at_call 53; refine (rAddr_none X _ (by omega) ha').mono ?_; rintro e w2 ⟨rfl, hk2⟩; have c2 := kc'.out w2 hk2; have hkr := Lib.hid hk2; clear hk2) | (go_at_call 57; refine (rDec_none Y _ hd').mono ?_; rintro e w' ⟨rfl, rfl⟩))
        go_ret3
        exact ⟨rfl, hk1.out.trans hkr.out⟩
      | some n =>
        have hd' := Lib.hid hd; clear hd
        go_wp2_with (first | (go_at_call 53; refine (rAddr_none X _ (by omega) ha').mono ?_; rintro e w2 ⟨rfl, hk2⟩; have c2 := kc'.out w2 hk2; have hkr := Lib.hid hk2; clear hk2) | (go_at_call 57; refine (rDec_some Y n _ hd').mono ?_; rintro e w' ⟨rfl, rfl⟩))
        go_ret3
        exact ⟨rfl, hk1.out.trans hkr.out⟩
    | some a =>
      rw [ha] at hq2
      have ha' := Lib.hid ha; clear ha
      cases hd : decL Y.data.toList with
      | none =>
        rw [hd] at hq2
        obtain rfl : r = none := hq2.symm
        have hd' := Lib.hid hd; clear hd hq2
        go_wp2_with (first | (go_at_call 53; refine (rAddr_some X a _ (by omega) ha').mono ?_; rintro e w2 ⟨rfl, hk2⟩; have c2 := kc'.out w2 hk2; have hkr := Lib.hid hk2; clear hk2) | (go_at_call 57; refine (rDec_none Y _ hd').mono ?_; rintro e w' ⟨rfl, rfl⟩))
        go_ret3
        exact ⟨rfl, hk1.out.trans hkr.out⟩
      | some n =>
        rw [hd] at hq2
        simp only at hq2
        have hd' := Lib.hid hd; clear hd
        by_cases h1 : 1 ≤ n
        · by_cases h2 : n ≤ 32
          · rw [if_pos ⟨h1, h2⟩] at hq2
            obtain rfl : r = some (a, n) := hq2.symm
            clear hq2
            go_wp2_with (first | (go_at_call 53; refine (rAddr_some X a _ (by omega) ha').mono ?_; rintro e w2 ⟨rfl, hk2⟩; have c2 := kc'.out w2 hk2; have hkr := Lib.hid hk2; clear hk2) | (go_at_call 57; refine (rDec_some Y n _ hd').mono ?_; rintro e w' ⟨rfl, rfl⟩))
            go_ret3
            exact ⟨rfl, hk1.out.trans hkr.out⟩
          · rw [if_neg (by omega)] at hq2
            obtain rfl : r = none := hq2.symm
            clear hq2
            go_wp2_with (first | (go_at_call 53; refine (rAddr_some X a _ (by omega) ha').mono ?_; rintro e w2 ⟨rfl, hk2⟩; have c2 := kc'.out w2 hk2; have hkr := Lib.hid hk2; clear hk2) | (go_at_call 57; refine (rDec_some Y n _ hd').mono ?_; rintro e w' ⟨rfl, rfl⟩))
            go_ret3
            exact ⟨rfl, hk1.out.trans hkr.out⟩
        · rw [if_neg (by omega)] at hq2
          obtain rfl : r = none := hq2.symm
          clear hq2
          go_wp2_with (first | (go_at_call 53; refine (rAddr_some X a _ (by omega) ha').mono ?_; rintro e w2 ⟨rfl, hk2⟩; have c2 := kc'.out w2 hk2; have hkr := Lib.hid hk2; clear hk2) | (go_at_call 57; refine (rDec_some Y n _ hd').mono ?_; rintro e w' ⟨rfl, rfl⟩))
          go_ret3
          exact ⟨rfl, hk1.out.trans hkr.out⟩
  · have hq2 := hq'.out
    have hr2 : Hid (r = none) := Lib.hid (by
      rw [← hq2]
      match ps, h2 with
      | [], _ => rfl
      | [x], _ => rfl
      | [x, y], h => exact (h rfl).elim
      | x :: y :: z :: l, _ => rfl)
    have d1 : ((ps.length : Int) != 2) = true := by rw [bne_iff_ne]; omega
    have d2 : (ps.length != 2) = true := by simpa using h2
    clear hq2 h2 hat
    go_wp2
    go_ret3
    exact ⟨by rw [hr2.out]; rfl, hk1.out⟩
theorem rNet_none (s : ByteArray) (w : World) (hs : s.size ≤ 8796093022000) (h : Hid (netL s.data.toList = none)) :
    Calls Try.prog 56 #[.string s] w (NewRes (.tuple #[.int .u32 0, .int .i64 0, .bool false]) w) := rNet_r s none w hs h
theorem rNet_some (s : ByteArray) (a n : Nat) (w : World) (hs : s.size ≤ 8796093022000) (h : Hid (netL s.data.toList = some (a, n))) :
    Calls Try.prog 56 #[.string s] w (NewRes (.tuple #[.int .u32 (a : Nat), .int .i64 (n : Nat), .bool true]) w) := rNet_r s (some (a, n)) w hs h
end Go.Proofs.Ytdjmhjgfjbcdkaa
