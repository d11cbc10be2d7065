/- The document's Addr and Net, walked. -/
import Derived.Test.YtdjmhjgfjbcdkaaSCF
namespace Go.Proofs.Ytdjmhjgfjbcdkaa
open Go.RowKit

/-- new memory beside nothing else -/
def NewRes (v : Value) (w0 : World) (e : Ending) (w' : World) : Prop := e = .returned v ∧ Keeps (fun _ => False) w0 w'
theorem ba_eta (p : List UInt8) : (⟨p.toArray⟩ : ByteArray).data.toList = p := rfl
set_option maxRecDepth 100000 in
set_option maxHeartbeats 1000000 in
theorem rAddr_r (s : ByteArray) (r : Option Nat) (w : World) (hs : s.size ≤ 8796093022000) (hr : Hid (addrL s.data.toList = r)) :
    Calls Try.prog 53 #[.string s] w (NewRes (addrRes r) w) := by
  have hq := hr.out
  rw [addrL_eq] at hq
  obtain ⟨ps, hps⟩ : ∃ ps, ps = partsL 46 s.data.toList := ⟨_, rfl⟩
  rw [← hps] at hq
  have hpl := partsL_len 46 s.data.toList
  have hpe := partsL_each 46 s.data.toList
  rw [← hps] at hpl hpe
  have hps' := Lib.hid hps; have hq' := Lib.hid hq; have hpe' := Lib.hid hpe; clear hps hq hpe hr
  have hpl' : ps.length ≤ 8796093022001 := by simp at hpl; omega
  clear hpl
  go_enter Try.func53, Try.ntmps53
  go_wp2_with fail
  refine (parts_any s 46 _ hs).mono ?_
  rintro e w1 ⟨p, d, rfl, hown, hk⟩
  rw [← hps'.out] at *
  have hown1 := Lib.hid hown; have hk1 := Lib.hid hk
  have hat := hown.at
  clear hown hk
  by_cases h4 : ps.length = 4
  · have hq4 := hq'.out
    rw [if_pos h4] at hq4
    have hq4' := Lib.hid hq4; clear hq4
    obtain ⟨p', c', hpe2, hr0⟩ := hat
    obtain ⟨g, o, rfl, hr1⟩ := hr0 (by omega)
    have e1 : p = some ⟨g, o, none⟩ := by injection hpe2
    subst e1
    have hr1' := Lib.hid hr1; have h4' := Lib.hid h4
    rw [h4]
    clear hpe2 hr0 hr1 h4
    go_wp2_with fail
    go_loop [5, 6] (fun nv iv => ∃ (k n : Nat), k ≤ 4 ∧ iv = .int .i64 k ∧ nv = .int .u32 (n : Nat) ∧ Hid (n < 256 ^ k) ∧ Hid (foldParts n (ps.drop k) = r)) (fun _ iv => 4 - (intOf iv).toNat)
    case atStart => exact ⟨0, 0, by omega, rfl, rfl, Lib.hid (by simp), Lib.hid (by rw [List.drop_zero]; exact hq4'.out)⟩
    case round =>
      obtain ⟨k, n, hk, rfl, rfl, hn, hf⟩ := hrel
      by_cases hk4 : k < 4
      · have hkl : k < ps.length := by have := h4'.out; omega
        have hfd := hf.out
        rw [List.drop_eq_getElem_cons hkl] at hfd
        unfold foldParts at hfd
        have hn4 : n < 16777216 := by
          have h1 := hn.out
          have : 256 ^ k ≤ 256 ^ 3 := Nat.pow_le_pow_right (by omega) (by omega)
          omega
        obtain ⟨X, hX⟩ : ∃ X : ByteArray, X = ⟨(ps[k]).toArray⟩ := ⟨_, rfl⟩
        have c1 : w1.cell? ⟨g, o + k, none⟩ = some (.string X) := by rw [hX]; exact hr1'.out k _ (by simp [hkl, strv])
        have hXl : X.data.toList = ps[k] := by rw [hX]
        rw [← hXl] at hfd
        clear hX hXl
        cases hd : decL X.data.toList with
        | none =>
          rw [hd] at hfd
          have hr2 : Hid (r = none) := Lib.hid hfd.symm
          have hd' := Lib.hid hd; clear hd hfd hf
          go_wp2_with (go_at_call 57; refine (rDec_none X _ hd').mono ?_; rintro e w' ⟨rfl, rfl⟩)
          go_ret2
          exact ⟨by rw [hr2.out]; rfl, hk1.out⟩
        | some b =>
          rw [hd] at hfd
          simp only at hfd
          have hb9 := decL_lt hd
          have hd' := Lib.hid hd; clear hd hf
          by_cases hb : b ≤ 255
          · rw [if_pos hb] at hfd
            have hf' := Lib.hid hfd; clear hfd
            have hn' : Hid (n * 256 + b < 256 ^ (k + 1)) := Lib.hid (by have := hn.out; rw [Nat.pow_succ]; omega)
            go_wp2_with (go_at_call 57; refine (rDec_some X b _ hd').mono ?_; rintro e w' ⟨rfl, rfl⟩)
            go_round
            case rel => exact ⟨k + 1, n * 256 + b, by omega, by go_num, by congr 1, hn', hf'⟩
            case measure => simp [intOf]; omega
          · rw [if_neg hb] at hfd
            have hr2 : Hid (r = none) := Lib.hid hfd.symm
            clear hfd
            go_wp2_with (go_at_call 57; refine (rDec_some X b _ hd').mono ?_; rintro e w' ⟨rfl, rfl⟩)
            go_ret2
            exact ⟨by rw [hr2.out]; rfl, hk1.out⟩
      · obtain rfl : k = 4 := by omega
        have hr2 : Hid (r = some n) := Lib.hid (by
          have := hf.out
          rw [List.drop_of_length_le (by have := h4'.out; omega)] at this
          exact this.symm)
        clear hf
        go_wp2
        go_ret2
        exact ⟨by rw [hr2.out]; rfl, hk1.out⟩
  · have hq4 := hq'.out
    rw [if_neg h4] at hq4
    have hr2 : Hid (r = none) := Lib.hid hq4.symm
    have d1 : ((ps.length : Int) != 4) = true := by rw [bne_iff_ne]; omega
    have d2 : (ps.length != 4) = true := by simpa using h4
    clear hq4 h4 hat
    go_wp2
    go_ret2
    exact ⟨by rw [hr2.out]; rfl, hk1.out⟩
theorem rAddr_none (s : ByteArray) (w : World) (hs : s.size ≤ 8796093022000) (h : Hid (addrL s.data.toList = none)) :
    Calls Try.prog 53 #[.string s] w (NewRes (.tuple #[.int .u32 0, .bool false]) w) := rAddr_r s none w hs h
theorem rAddr_some (s : ByteArray) (n : Nat) (w : World) (hs : s.size ≤ 8796093022000) (h : Hid (addrL s.data.toList = some n)) :
    Calls Try.prog 53 #[.string s] w (NewRes (.tuple #[.int .u32 (n : Nat), .bool true]) w) := rAddr_r s (some n) w hs h
end Go.Proofs.Ytdjmhjgfjbcdkaa
