/- lex.Words, walked. -/
import Derived.Test.YtfflgbpppcfamaaDoorLXB
namespace Go.Proofs.YtfflgbpppcfamaaDoor
open Go.RowKit

def strv (l : List UInt8) : Value := .string ⟨l.toArray⟩
theorem strv_one (xs : List (List UInt8)) : ∀ v ∈ xs.map strv, v.oneCell' = true := by
  intro v hv; obtain ⟨x, _, rfl⟩ := List.mem_map.1 hv; rfl
theorem strInfoAll : (Tryd.prog.info? 9).map (fun i => (i.zero, i.size, i.bytes)) = some (some (.string ⟨#[]⟩), 1, 16) := by kernel_rfl
theorem extract_strv (s : ByteArray) (a b : Nat) : Value.string (s.extract a b) = strv ((s.data.toList.drop a).take (b - a)) := by
  unfold strv; rw [Lib.extract_eq]

/-- a row of texts of the call's own: no older block is part of it -/
def OwnStrs (w0 w : World) (v : Value) (xs : List (List UInt8)) : Prop :=
  w.ownsRow 0 9 1 v xs.length (xs.map strv) ∧ ∀ k, v.ownBlock = some k → w0.heap.size ≤ k
theorem OwnStrs.nil (w0 w : World) : OwnStrs w0 w (.slice none 0 0) [] := ⟨⟨rfl, .inl ⟨rfl, rfl⟩⟩, by simp [Value.ownBlock]⟩
theorem OwnStrs.slice {w0 w : World} {v : Value} {xs : List (List UInt8)} (h : OwnStrs w0 w v xs) : ∃ p c, v = .slice p xs.length c := ownsRow_slice h.1
/-- what an append to it leaves -/
theorem OwnStrs.push {w0 wr wb w1 : World} {v : Value} {xs : List (List UInt8)} (h : OwnStrs w0 wr v xs) (x : List UInt8) {p : Option Addr} {c : Nat} (hk : Keeps (fun _ => False) w0 wb)
    (ho : wb.grownBy w1 v.ownBlock) (h2 : w1.ownsRow 0 9 1 (.slice p (xs.length + 1) c) (xs.length + 1) (xs.map strv ++ [strv x]))
    (hs : ∀ k, (Value.slice p (xs.length + 1) c).ownBlock = some k → v.ownBlock = some k ∨ wb.heap.size ≤ k) :
    OwnStrs w0 w1 (.slice p (xs.length + 1) c) (xs ++ [x]) ∧ Keeps (fun _ => False) w0 w1 := by
  refine ⟨⟨by simpa using h2, fun k e => ?_⟩, hk.grown ho (fun k e => .inr (h.2 k e))⟩
  rcases hs k e with e | e
  · exact h.2 k e
  · have := hk.size; omega

/-- what Words answers -/
def WordsPost (t : List UInt8) (w0 : World) (e : Ending) (w' : World) : Prop :=
  ∃ p c, e = .returned (.tuple #[.slice p (lexWords t).1.length c, .int .i64 ((lexWords t).2.1 : Nat), .int .i64 ((lexWords t).2.2 : Nat)]) ∧ OwnStrs w0 w' (.slice p (lexWords t).1.length c) (lexWords t).1 ∧ Keeps (fun _ => False) w0 w'

theorem WordsPost.good {t : List UInt8} {l : List (List UInt8)} (h : lexL t = .ok l) {n : Nat} (hn : n = t.length) {w0 w' : World} {v : Value} (ho : OwnStrs w0 w' v l) (hk : Keeps (fun _ => False) w0 w') :
    WordsPost t w0 (.returned (.tuple #[v, .int .i64 (n : Nat), .int .i64 0])) w' := by
  obtain ⟨p, c, rfl⟩ := ho.slice
  have e : lexWords t = (l, t.length, 0) := by unfold lexWords; rw [h]
  refine ⟨p, c, ?_, ?_, hk⟩
  · rw [e]; simp [hn]
  · rw [e]; exact ho
theorem WordsPost.bad {t : List UInt8} {m : Nat} (h : lexL t = .bad m) {n : Nat} (hn : n = t.length - m) {w0 w' : World} (hk : Keeps (fun _ => False) w0 w') :
    WordsPost t w0 (.returned (.tuple #[.slice none 0 0, .int .i64 (n : Nat), .int .i64 3])) w' := by
  have e : lexWords t = ([], t.length - m, 3) := by unfold lexWords; rw [h]
  refine ⟨none, 0, ?_, ?_, hk⟩
  · rw [e]; simp [hn]
  · rw [e]; exact OwnStrs.nil _ _

theorem fits_r (n : Int) (r : Bool) (w : World) (h0 : 0 ≤ n) (hr : Hid (decide (1 ≤ n ∧ n ≤ 31) = r)) :
    Calls Tryd.prog 28 #[.int .i64 n] w fun e w' => e = .returned (.bool r) ∧ w = w' :=
  (fits_any n w h0).mono fun e w' ⟨he, hw⟩ => ⟨by rw [he, hr.out], hw⟩
theorem lexL_hash' {c : UInt8} {r : List UInt8} (h : c = 35) : lexL (c :: r) = lexL (r.drop (clen r)) := by subst h; exact lexL_hash
set_option maxRecDepth 100000 in
set_option maxHeartbeats 1000000 in
theorem words_any (s : ByteArray) (w : World) (hs : s.size ≤ 8796093022208) :
    Calls Tryd.prog 12 #[.string s] w (WordsPost s.data.toList w) := by
  obtain ⟨i0, hi, hz0, hz1, hz2⟩ := info_parts strInfoAll
  go_enter Tryd.func12, Tryd.ntmps12
  go_wp2
  go_loopw [5, 6] (fun v i wr => ∃ (k : Nat) (acc : List (List UInt8)), k ≤ s.size ∧ acc.length ≤ k ∧ i = .int .i64 k ∧ Hid (OwnStrs w wr v acc) ∧ Hid (Keeps (fun _ => False) w wr) ∧ Hid (lexL s.data.toList = (lexL (s.data.toList.drop k)).app acc)) (fun _ i _ => s.size - (intOf i).toNat)
  case atStart => exact ⟨0, [], by omega, by simp, rfl, Lib.hid (OwnStrs.nil _ _), Lib.hid (Keeps.refl _ _), Lib.hid (by rw [List.drop_zero, LexR.app_nil])⟩
  case round =>
    obtain ⟨k, acc, hk, hal, rfl, hown, hkeep, hlex⟩ := hrel
    by_cases hlt : k < s.size
    · have hd := drop_at s k hlt
      by_cases hb : blankB s[k] = true
      · have hlex' : Hid (lexL s.data.toList = (lexL (s.data.toList.drop (k + 1))).app acc) := by
          have := hlex.out
          rw [hd, lexL_blank hb] at this
          exact Lib.hid this
        clear hlex hd
        have hB := Lib.hid hb; clear hb
        go_wp2_with (go_at_call 24; refine (isBetween_r _ true _ hB).mono ?_; rintro e w' ⟨rfl, rfl⟩)
        go_roundw
        case rel => exact ⟨k + 1, acc, by omega, by omega, by go_num, hown, hkeep, hlex'⟩
        case measure => simp [intOf]; omega
      have hb' : blankB s[k] = false := by simpa using hb
      clear hb
      have hB := Lib.hid hb'
      by_cases hc : s[k] = 35
      · have hcl := clen_le (s.data.toList.drop k)
        simp at hcl
        have hlex' : Hid (lexL s.data.toList = (lexL (s.data.toList.drop (k + clen (s.data.toList.drop k)))).app acc) := by
          have := hlex.out
          rw [hd, lexL_hash' hc] at this
          refine Lib.hid (this.trans ?_)
          have e : k + clen (s.data.toList.drop k) = k + 1 + clen (s.data.toList.drop (k + 1)) := by
            rw [hd, clen_cons (by rw [hc]; decide)]; omega
          rw [e, List.drop_drop]
        have hpos : 0 < clen (s.data.toList.drop k) := by rw [hd, clen_cons (by rw [hc]; decide)]; omega
        have d1 : ((s[k].toNat : Int) == 35) = true := by rw [hc]; rfl
        obtain ⟨r, hr⟩ : ∃ r, k + clen (s.data.toList.drop k) = r := ⟨_, rfl⟩
        rw [hr] at hlex'
        have hr1 : k < r := by omega
        have hr2 : r ≤ s.size := by omega
        have hr' := Lib.hid hr; clear hr hcl hpos hc hlex hd hb'
        go_wp2_with (first | (go_at_call 24; refine (isBetween_r _ false _ hB).mono ?_; rintro e w' ⟨rfl, rfl⟩) | (go_at_call 25; refine (lineEnd_any s k r _ hr' (by omega) (by omega)).mono ?_; rintro e w' ⟨rfl, rfl⟩))
        go_roundw
        case rel => exact ⟨r, acc, by omega, by omega, rfl, hown, hkeep, hlex'⟩
        case measure => simp [intOf]; omega
      have d1 : ((s[k].toNat : Int) == 35) = false := by
        rw [beq_eq_false_iff_ne]; intro h; apply hc; apply UInt8.toNat_inj.mp; show s[k].toNat = 35; omega
      by_cases hsg : signB s[k] = true
      · have hlex' : Hid (lexL s.data.toList = (lexL (s.data.toList.drop (k + 1))).app (acc ++ [[s[k]]])) := by
          have := hlex.out
          rw [hd, lexL_sign hsg, LexR.app_app] at this
          exact Lib.hid this
        have hx : Hid (Value.string (s.extract k (k + 1)) = strv [s[k]]) := by
          refine Lib.hid ?_
          rw [extract_strv, hd, show k + 1 - k = 1 by omega]; rfl
        clear hlex hc hd hb'
        have hS := Lib.hid hsg; clear hsg
        go_wp2_with (first | (go_at_call 24; refine (isBetween_r _ false _ hB).mono ?_; rintro e w' ⟨rfl, rfl⟩) | (go_at_call 26; refine (isSign_r _ true _ hS).mono ?_; rintro e w' ⟨rfl, rfl⟩) | ((with_reducible refine at_slot 52 ?_); refine wpList_append_sep rfl (.tmp 46) (.tmp 51) 43 rfl 9 i0 (.string ⟨#[]⟩) 1 16 Tryd.underlying43 hi hz0 hz1 hz2 rfl (by decide) _ acc.length (acc.map strv) rfl (hown.out.1.alloc _) ⟨wr.heap.size, 0, none⟩ 1 1 [.string (s.extract k (k + 1))] rfl rfl (cells_one rfl _ _) (by simp [Value.oneCell']) (by unfold maxLen; omega) (by omega) ?_; intro q d w1 ho1 hg1 hs1; have ho := Lib.hid ho1; clear ho1; have hg := Lib.hid hg1; clear hg1))
        have hR := OwnStrs.push hown.out [s[k]] (hkeep.out.alloc _) hg.out (hx.out ▸ ho.out) hs1.out
        go_roundw
        case rel => exact ⟨k + 1, acc ++ [[s[k]]], by omega, by simp; omega, by go_num, Lib.hid hR.1, Lib.hid hR.2, hlex'⟩
        case measure => simp [intOf]; omega
      have hsg' : signB s[k] = false := by simpa using hsg
      clear hsg
      have hS := Lib.hid hsg'
      have hwl := wlen_le (s.data.toList.drop k)
      simp at hwl
      by_cases hw : 1 ≤ wlen (s.data.toList.drop k) ∧ wlen (s.data.toList.drop k) ≤ 31
      · have hlex' : Hid (lexL s.data.toList = (lexL (s.data.toList.drop (k + wlen (s.data.toList.drop k)))).app (acc ++ [(s.data.toList.drop k).take (wlen (s.data.toList.drop k))])) := by
          have := hlex.out
          rw [hd, lexL_word hb' hc hsg' (by rw [← hd]; exact hw.1) (by rw [← hd]; exact hw.2), ← hd, List.drop_drop, LexR.app_app] at this
          exact Lib.hid this
        obtain ⟨r, hr⟩ : ∃ r, k + wlen (s.data.toList.drop k) = r := ⟨_, rfl⟩
        have hx : Hid (Value.string (s.extract k r) = strv ((s.data.toList.drop k).take (wlen (s.data.toList.drop k)))) := by
          refine Lib.hid ?_
          rw [extract_strv, ← hr, Nat.add_sub_cancel_left]
        rw [hr] at hlex'
        have hr1 : k + 1 ≤ r := by omega
        have hr2 : r ≤ s.size := by omega
        have hf : Hid (decide ((1 : Int) ≤ (r : Int) - k ∧ (r : Int) - k ≤ 31) = true) := Lib.hid (by simp; omega)
        have hr' := Lib.hid hr; clear hr hwl hc hlex hd hb' hw hsg'
        obtain ⟨x, hxe⟩ : ∃ x, x = (s.data.toList.drop k).take (wlen (s.data.toList.drop k)) := ⟨_, rfl⟩
        rw [← hxe] at hlex' hx
        clear hxe
        go_wp2_with (first | (go_at_call 24; refine (isBetween_r _ false _ hB).mono ?_; rintro e w' ⟨rfl, rfl⟩) | (go_at_call 26; refine (isSign_r _ false _ hS).mono ?_; rintro e w' ⟨rfl, rfl⟩) | (go_at_call 27; refine (wordEnd_any s k r _ hr' (by omega) (by omega)).mono ?_; rintro e w' ⟨rfl, rfl⟩) | (go_at_call 28; refine (fits_r _ true _ (by omega) hf).mono ?_; rintro e w' ⟨rfl, rfl⟩) | ((with_reducible refine at_slot 33 ?_); refine wpList_append_sep rfl (.tmp 27) (.tmp 32) 43 rfl 9 i0 (.string ⟨#[]⟩) 1 16 Tryd.underlying43 hi hz0 hz1 hz2 rfl (by decide) _ acc.length (acc.map strv) rfl (hown.out.1.alloc _) ⟨wr.heap.size, 0, none⟩ 1 1 [.string (s.extract k r)] rfl rfl (cells_one rfl _ _) (by simp [Value.oneCell']) (by unfold maxLen; omega) (by omega) ?_; intro q d w1 ho1 hg1 hs1; have ho := Lib.hid ho1; clear ho1; have hg := Lib.hid hg1; clear hg1))
        have hR := OwnStrs.push hown.out x (hkeep.out.alloc _) hg.out (hx.out ▸ ho.out) hs1.out
        go_roundw
        case rel => exact ⟨r, acc ++ [x], by omega, by simp; omega, rfl, Lib.hid hR.1, Lib.hid hR.2, hlex'⟩
        case measure => simp [intOf]; omega
      · have hbad : Hid (lexL s.data.toList = .bad (s.data.toList.length - k)) := by
          have := hlex.out
          rw [hd, lexL_bad hb' hc hsg' (by rw [← hd]; exact hw)] at this
          refine Lib.hid (this.trans ?_)
          unfold LexR.app
          congr 1
          simp; omega
        obtain ⟨r, hr⟩ : ∃ r, k + wlen (s.data.toList.drop k) = r := ⟨_, rfl⟩
        have hr1 : k ≤ r := by omega
        have hr2 : r ≤ s.size := by omega
        have hf : Hid (decide ((1 : Int) ≤ (r : Int) - k ∧ (r : Int) - k ≤ 31) = false) := Lib.hid (by simp; omega)
        have hr' := Lib.hid hr; clear hr hwl hc hlex hd hb' hw hsg'
        go_wp2_with (first | (go_at_call 24; refine (isBetween_r _ false _ hB).mono ?_; rintro e w' ⟨rfl, rfl⟩) | (go_at_call 26; refine (isSign_r _ false _ hS).mono ?_; rintro e w' ⟨rfl, rfl⟩) | (go_at_call 27; refine (wordEnd_any s k r _ hr' (by omega) (by omega)).mono ?_; rintro e w' ⟨rfl, rfl⟩) | (go_at_call 28; refine (fits_r _ false _ (by omega) hf).mono ?_; rintro e w' ⟨rfl, rfl⟩))
        go_ret3
        exact WordsPost.bad hbad.out (by simp; omega) hkeep.out
    · have hlex' : Hid (lexL s.data.toList = .ok acc) := by
        have := hlex.out
        obtain rfl : k = s.size := by omega
        rw [drop_end, lexL_nil] at this
        exact Lib.hid (by rw [this]; simp [LexR.app])
      clear hlex
      go_wp2
      go_ret3
      exact WordsPost.good hlex'.out (by simp) hown.out hkeep.out
end Go.Proofs.YtfflgbpppcfamaaDoor
