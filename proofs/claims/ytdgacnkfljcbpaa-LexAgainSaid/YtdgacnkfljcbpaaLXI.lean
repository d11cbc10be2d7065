/- LexAgain, walked. -/
import Derived.Test.YtdgacnkfljcbpaaLXF
import Derived.Deep.QuietTactic
import Derived.BigQuiet
namespace Go.Proofs.Ytdgacnkfljcbpaa
open Go.RowKit

theorem spaced_len (l : List (List UInt8)) : (spaced l).length = total l + l.length := by
  induction l with
  | nil => rfl
  | cons a l ih => rw [spaced_cons]; simp [total] at *; omega
theorem spaced_take (l : List (List UInt8)) (k : Nat) (h : k < l.length) : spaced (l.take (k + 1)) = spaced (l.take k) ++ 32 :: l[k] := by
  rw [List.take_succ_eq_append_getElem h, spaced_snoc]
theorem lexWords_good {t : List UInt8} {l : List (List UInt8)} {n : Nat} (hw : lexWords t = (l, n, 0)) : total l ≤ t.length ∧ ∀ w ∈ l, isWordB w = true ∨ ∃ c, w = [c] ∧ signB c = true := by
  have hl : lexL t = .ok l := by
    unfold lexWords at hw
    cases h : lexL t with
    | ok m => rw [h] at hw; injection hw with e _; rw [e]
    | bad m => rw [h] at hw; simp at hw
  exact lexL_total t.length t (Nat.le_refl _) l hl
theorem lexWords_spaced {l : List (List UInt8)} (h : ∀ w ∈ l, isWordB w = true ∨ ∃ c, w = [c] ∧ signB c = true) : lexWords (spaced l) = (l, (spaced l).length, 0) := by
  unfold lexWords; rw [lexL_spaced l h]
theorem isWord_q (s : ByteArray) (r : Bool) (w : World) (hs : s.size ≤ 9223372036854775807) (hr : Hid (isWordB s.data.toList = r)) :
    Calls Try.prog 15 #[.string s] w fun e w' => e = .returned (.bool r) ∧ w' = w :=
  (isWord_any s r w hs hr).mono fun _ _ ⟨a, b⟩ => ⟨a, b.symm⟩

set_option maxRecDepth 100000 in
set_option maxHeartbeats 1000000 in
theorem lexAgain_law (s : ByteArray) (w : World) (hs : s.size ≤ 9223372036854775807) :
    Calls Try.prog 4 #[.string s] w (lawEnd w) := by
  by_cases h : s.size ≤ 200
  all_goals
    go_enter Try.func4, Try.ntmps4
    go_wp2_with fail
    first
      | (obtain ⟨x, hx⟩ : ∃ x : ByteArray, x = s.extract 0 200 := ⟨_, rfl⟩
         have hxs : x.size ≤ 200 := by rw [hx]; exact cut_size s 200
         rw [← hx])
      | (obtain ⟨x, hx⟩ : ∃ x : ByteArray, x = s := ⟨_, rfl⟩
         have hxs : x.size ≤ 200 := by rw [hx]; exact h
         rw [← hx])
    have hx' := Lib.hid hx; clear hx
    obtain ⟨l, n, er, hL, hll, her⟩ := lexWords_ex x
    have hL' := Lib.hid hL; clear hL
    refine (rWords_l x l n er _ (by omega) hL').mono ?_
    rintro e w1 ⟨p, c, rfl, hown, hk⟩
    have hown1 := Lib.hid hown; have hk1 := Lib.hid hk; clear hown hk
    go_wp2_with fail
    refine (reads3_any _).mono ?_
    rintro e w3 ⟨rfl, hk⟩
    have hk3 := Lib.hid hk; clear hk
    rcases her with rfl | rfl
    · have hgood := Lib.hid (lexWords_good hL'.out)
      have hat : StrsAt w3 (.slice p l.length c) l := hown1.out.after hk3.out (fun _ h => h.elim)
      obtain ⟨p', c', hpe, hr0⟩ := hat
      injection hpe with e1 e2 e3
      subst e1; subst e3
      have hr := Lib.hid hr0; clear hr0 e2
      have htot : (spaced l).length ≤ 400 := by
        rw [spaced_len]
        have := hgood.out.1
        simp at this; omega
      have htot' := Lib.hid htot; clear htot
      go_wp2_with fail
      go_loopw [6, 7] (fun av iv wr => ∃ (A : ByteArray) (k : Nat), k ≤ l.length ∧ iv = .int .i64 k ∧ av = .string A ∧ Hid (A.data.toList = spaced (l.take k)) ∧ Hid (∃ m, wr = w3.drewN m)) (fun _ iv _ => l.length - (intOf iv).toNat)
      case atStart => exact ⟨_, 0, by omega, rfl, rfl, Lib.hid rfl, Lib.hid ⟨0, rfl⟩⟩
      case round =>
        obtain ⟨A, k, hk, rfl, rfl, hA, hm⟩ := hrel
        by_cases hlt : k < l.length
        · obtain ⟨g, o, rfl, hr1⟩ := hr.out (by omega)
          obtain ⟨X, hX⟩ : ∃ X : ByteArray, X = ⟨(l[k]).toArray⟩ := ⟨_, rfl⟩
          have c1 : wr.cell? ⟨g, o + k, none⟩ = some (.string X) := by obtain ⟨m, rfl⟩ := hm.out; rw [hX]; exact hr1 k _ (by simp [hlt, strv])
          have hXl : X.toList = l[k] := by rw [hX, ba_toList]
          clear hr1 hX
          have hsp : (spaced (l.take (k + 1))).length ≤ 400 := by
            refine Nat.le_trans ?_ htot'.out
            rw [spaced_len, spaced_len]
            have : ∀ (m : List (List UInt8)) (j : Nat), total (m.take j) ≤ total m := by
              intro m
              induction m with
              | nil => intro j; simp [total]
              | cons a m ih => intro j; cases j with | zero => simp [total] | succ j => simp only [List.take_succ_cons, total, List.map_cons, List.sum_cons]; have := ih j; simp only [total] at this; omega
            have := this l (k + 1)
            simp; omega
          have hst := spaced_take l k hlt
          rw [hst] at hsp
          have hAl : A.size + 1 + X.size ≤ 400 := by
            have e1 : A.size = (spaced (l.take k)).length := by rw [← hA.out]; simp
            have e2 : X.size = l[k].length := by rw [← hXl, ba_list]; simp
            rw [e1, e2]
            simp at hsp; omega
          have hst' := Lib.hid hst; clear hst hsp
          have hkind := hgood.out.2 l[k] (List.getElem_mem hlt)
          rw [← hXl] at hkind
          have hXl' := Lib.hid hXl; clear hXl
          have hA' : Hid ((A ++ ⟨#[32]⟩ ++ X).data.toList = spaced (l.take (k + 1))) := Lib.hid (by
            rw [hst'.out, ← hXl'.out, ← hA.out, ba_list]; simp)
          rcases hkind with hw | ⟨b, hb, hsb⟩
          · obtain ⟨k1, k2, k3⟩ := word_no_sign hw
            have e1 : (X.toList == [123]) = false := by simpa using k1
            have e2 : (X.toList == [125]) = false := by simpa using k2
            have e3 : (X.toList == [59]) = false := by simpa using k3
            rw [ba_list] at hw
            have hw' := Lib.hid hw; clear k1 k2 k3 hw
            go_wp2
            go_quiet ((go_at_call 15; exact Calls.quiet_of_same (isWord_q _ true _ (by omega) hw')))
            go_wp2
            have hm' : Hid (∃ m, wr.drewN nq = w3.drewN m) := by obtain ⟨m, hm1⟩ := hm.out; exact Lib.hid ⟨m + nq, by rw [hm1]; simp⟩
            go_roundw
            case rel => exact ⟨_, k + 1, by omega, by go_num, rfl, hA', hm'⟩
            case measure => simp [intOf]; omega
          · skip
            have hw : isWordB X.data.toList = false := by rw [← ba_list, hb]; rcases (show b = 123 ∨ b = 125 ∨ b = 59 by simpa [signB, or_assoc] using hsb) with rfl | rfl | rfl <;> decide
            have hw' := Lib.hid hw; clear hw
            rcases (show b = 123 ∨ b = 125 ∨ b = 59 by simpa [signB, or_assoc] using hsb) with rfl | rfl | rfl
            · skip
              have e123 : (X.toList == [123]) = true := by rw [hb]; rfl
              have hb' := Lib.hid hb; clear hb hsb
              go_wp2
              go_quiet ((go_at_call 15; exact Calls.quiet_of_same (isWord_q _ false _ (by omega) hw')))
              go_wp2
              have hm' : Hid (∃ m, wr.drewN nq = w3.drewN m) := by obtain ⟨m, hm1⟩ := hm.out; exact Lib.hid ⟨m + nq, by rw [hm1]; simp⟩
              go_roundw
              case rel => exact ⟨_, k + 1, by omega, by go_num, rfl, hA', hm'⟩
              case measure => simp [intOf]; omega
            · skip
              have e123 : (X.toList == [123]) = false := by rw [hb]; rfl
              have e125 : (X.toList == [125]) = true := by rw [hb]; rfl
              have hb' := Lib.hid hb; clear hb hsb
              go_wp2
              go_quiet ((go_at_call 15; exact Calls.quiet_of_same (isWord_q _ false _ (by omega) hw')))
              go_wp2
              have hm' : Hid (∃ m, wr.drewN nq = w3.drewN m) := by obtain ⟨m, hm1⟩ := hm.out; exact Lib.hid ⟨m + nq, by rw [hm1]; simp⟩
              go_roundw
              case rel => exact ⟨_, k + 1, by omega, by go_num, rfl, hA', hm'⟩
              case measure => simp [intOf]; omega
            · skip
              have e123 : (X.toList == [123]) = false := by rw [hb]; rfl
              have e125 : (X.toList == [125]) = false := by rw [hb]; rfl
              have e59 : (X.toList == [59]) = true := by rw [hb]; rfl
              have hb' := Lib.hid hb; clear hb hsb
              go_wp2
              go_quiet ((go_at_call 15; exact Calls.quiet_of_same (isWord_q _ false _ (by omega) hw')))
              go_wp2
              have hm' : Hid (∃ m, wr.drewN nq = w3.drewN m) := by obtain ⟨m, hm1⟩ := hm.out; exact Lib.hid ⟨m + nq, by rw [hm1]; simp⟩
              go_roundw
              case rel => exact ⟨_, k + 1, by omega, by go_num, rfl, hA', hm'⟩
              case measure => simp [intOf]; omega
        · obtain rfl : k = l.length := by omega
          have hAl : A.size ≤ 400 := by
            have e1 : A.size = (spaced l).length := by have := hA.out; rw [List.take_length] at this; rw [← this]; simp
            have := htot'.out; omega
          have hLs := Lib.hid (show lexWords A.data.toList = (l, (spaced l).length, 0) by rw [hA.out, List.take_length]; exact lexWords_spaced hgood.out.2)
          have hat : StrsAt wr (.slice p l.length c) l := by
            obtain ⟨m, hm1⟩ := hm.out
            rw [hm1]
            exact hown1.out.after (hk3.out.drewN m) (fun _ h => h.elim)
          have hat' := Lib.hid hat; clear hat
          go_wp2_with fail
          refine (words_l A l _ 0 _ (by omega) hLs).mono ?_
          rintro e w5 ⟨p5, c5, rfl, hown, hk⟩
          have hown5 := Lib.hid hown; have hk5 := Lib.hid hk; clear hown hk
          go_wp2_with fail
          refine (rSame3_any _ _ l l _ hown5.out.at (hat'.out.keep hk5.out (fun _ _ _ f => f.elim)) (by omega) (by omega)).mono ?_
          rintro e w6 ⟨rfl, n6, rfl⟩
          have hb : (l == l) = true := by simp
          go_wp2
          go_ret
          obtain ⟨m, hm1⟩ := hm.out
          have h5 := hk5.out
          rw [hm1] at h5
          have hfin := (((hk1.out.trans hk3.out).drewN m).trans h5).drewN n6
          refine ⟨?_, hfin.below (Nat.le_refl _) (fun _ h => h.elim)⟩
          rfl
    · go_wp2_with (go_at_call 13; refine (reads3_any _).mono ?_; rintro e w4 ⟨rfl, hk⟩; have hk4 := Lib.hid hk; clear hk)
      go_ret
      exact lawEnd.mk ((hk1.out.trans hk3.out).trans hk4.out)
end Go.Proofs.Ytdgacnkfljcbpaa
