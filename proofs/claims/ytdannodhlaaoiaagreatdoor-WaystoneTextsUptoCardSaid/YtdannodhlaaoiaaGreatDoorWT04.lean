/- lex.Words, walked. -/
import Derived.Test.YtdannodhlaaoiaaGreatDoorWT02
import Derived.Laws.IdiomStrings
set_option linter.unusedVariables false
set_option linter.unusedSimpArgs false
namespace Go.Proofs.YtdannodhlaaoiaaGreatDoor
open Go.RowKit

def strv (l : List UInt8) : Value := .string ⟨l.toArray⟩
theorem strv_one (xs : List (List UInt8)) : ∀ v ∈ xs.map strv, v.oneCell' = true := by
  intro v hv; obtain ⟨x, _, rfl⟩ := List.mem_map.1 hv; rfl
theorem strInfoAll : (Tryz.prog.info? 9).map (fun i => (i.zero, i.size, i.bytes)) = some (some (.string ⟨#[]⟩), 1, 16) := by kernel_rfl
theorem extract_strv (s : ByteArray) (a b : Nat) : Value.string (s.extract a b) = strv ((s.data.toList.drop a).take (b - a)) := by
  unfold strv; rw [Lib.extract_eq]

/-- a row of texts of the call's own: no older block is part of it -/
def OwnStrs (w0 w : World) (v : Value) (xs : List (List UInt8)) : Prop :=
  w.ownsRow 0 9 1 v xs.length (xs.map strv) ∧ ∀ k, v.ownBlock = some k → w0.heap.size ≤ k
theorem OwnStrs.nil (w0 w : World) : OwnStrs w0 w (.slice none 0 0) [] := ⟨⟨rfl, .inl ⟨rfl, rfl⟩⟩, by simp [Value.ownBlock]⟩
theorem OwnStrs.slice {w0 w : World} {v : Value} {xs : List (List UInt8)} (h : OwnStrs w0 w v xs) : ∃ p c, v = .slice p xs.length c := ownsRow_slice h.1
/-- what an append to it leaves -/
theorem OwnStrs.push {w0 wr wb w1 : World} {v : Value} {xs : List (List UInt8)} (h : OwnStrs w0 wr v xs) (x : List UInt8) {p : Option Addr} {c : Nat} (hk : Keeps (fun _ => False) w0 wb)
    (ho : wb.grownBy w1 v.ownBlock) (h2 : w1.ownsRow 0 9 1 (.slice p (xs.length + 1) c) (xs.length + 1) (xs.map strv ++ [strv x]))
    (hs : ∀ k, (Value.slice p (xs.length + 1) c).ownBlock = some k → v.ownBlock = some k ∨ wb.heap.size ≤ k) :
    OwnStrs w0 w1 (.slice p (xs.length + 1) c) (xs ++ [x]) ∧ Keeps (fun _ => False) w0 w1 := by
  refine ⟨⟨by simpa using h2, fun k e => ?_⟩, hk.grown ho (fun k e => .inr (h.2 k e))⟩
  rcases hs k e with e | e
  · exact h.2 k e
  · have := hk.size; omega

/-- what Words answers -/
def WordsPost (t : List UInt8) (w0 : World) (e : Ending) (w' : World) : Prop :=
  ∃ p c, e = .returned (.tuple #[.slice p (lexWords t).1.length c, .int .i64 ((lexWords t).2.1 : Nat), .int .i64 ((lexWords t).2.2 : Nat)]) ∧ OwnStrs w0 w' (.slice p (lexWords t).1.length c) (lexWords t).1 ∧ Keeps (fun _ => False) w0 w'

theorem WordsPost.good {t : List UInt8} {l : List (List UInt8)} (h : lexL t = .ok l) {n : Nat} (hn : n = t.length) {w0 w' : World} {v : Value} (ho : OwnStrs w0 w' v l) (hk : Keeps (fun _ => False) w0 w') :
    WordsPost t w0 (.returned (.tuple #[v, .int .i64 (n : Nat), .int .i64 0])) w' := by
  obtain ⟨p, c, rfl⟩ := ho.slice
  have e : lexWords t = (l, t.length, 0) := by unfold lexWords; rw [h]
  refine ⟨p, c, ?_, ?_, hk⟩
  · rw [e]; simp [hn]
  · rw [e]; exact ho
theorem WordsPost.bad {t : List UInt8} {m : Nat} (h : lexL t = .bad m) {n : Nat} (hn : n = t.length - m) {w0 w' : World} (hk : Keeps (fun _ => False) w0 w') :
    WordsPost t w0 (.returned (.tuple #[.slice none 0 0, .int .i64 (n : Nat), .int .i64 3])) w' := by
  have e : lexWords t = ([], t.length - m, 3) := by unfold lexWords; rw [h]
  refine ⟨none, 0, ?_, ?_, hk⟩
  · rw [e]; simp [hn]
  · rw [e]; exact OwnStrs.nil _ _

theorem fits_r (n : Int) (r : Bool) (w : World) (h0 : 0 ≤ n) (hr : Hid (decide (1 ≤ n ∧ n ≤ 31) = r)) :
    Calls Tryz.prog 68 #[.int .i64 n] w fun e w' => e = .returned (.bool r) ∧ w = w' :=
  (fits_any n w h0).mono fun e w' ⟨he, hw⟩ => ⟨by rw [he, hr.out], hw⟩
theorem lexL_hash' {c : UInt8} {r : List UInt8} (h : c = 35) : lexL (c :: r) = lexL (r.drop (clen r)) := by subst h; exact lexL_hash
set_option maxRecDepth 100000 in
set_option maxHeartbeats 1000000 in
theorem words_any (s : ByteArray) (w : World) (hs : s.size ≤ 8796093022208) :
    Calls Tryz.prog 23 #[.string s] w (WordsPost s.data.toList w) := by
  obtain ⟨i0, hi, hz0, hz1, hz2⟩ := info_parts strInfoAll
  go_enter Tryz.func23, Tryz.ntmps23
  go_wp2
  go_loopw [5, 6] (fun v i wr => ∃ (k : Nat) (acc : List (List UInt8)), k ≤ s.size ∧ acc.length ≤ k ∧ i = .int .i64 k ∧ Hid (OwnStrs w wr v acc) ∧ Hid (Keeps (fun _ => False) w wr) ∧ Hid (lexL s.data.toList = (lexL (s.data.toList.drop k)).app acc)) (fun _ i _ => s.size - (intOf i).toNat)
  case atStart => exact ⟨0, [], by omega, by simp, rfl, Lib.hid (OwnStrs.nil _ _), Lib.hid (Keeps.refl _ _), Lib.hid (by rw [List.drop_zero, LexR.app_nil])⟩
  case round =>
    obtain ⟨k, acc, hk, hal, rfl, hown, hkeep, hlex⟩ := hrel
    by_cases hlt : k < s.size
    · have hd := drop_at s k hlt
      by_cases hb : blankB s[k] = true
      · have hlex' : Hid (lexL s.data.toList = (lexL (s.data.toList.drop (k + 1))).app acc) := by
          have := hlex.out
          rw [hd, lexL_blank hb] at this
          exact Lib.hid this
        clear hlex hd
        have hB := Lib.hid hb; clear hb
        go_wp2_with (go_at_call 64; refine (isBetween_r _ true _ hB).mono ?_; rintro e w' ⟨rfl, rfl⟩)
        go_roundw
        case rel => exact ⟨k + 1, acc, by omega, by omega, by go_num, hown, hkeep, hlex'⟩
        case measure => simp [intOf]; omega
      have hb' : blankB s[k] = false := by simpa using hb
      clear hb
      have hB := Lib.hid hb'
      by_cases hc : s[k] = 35
      · have hcl := clen_le (s.data.toList.drop k)
        simp at hcl
        have hlex' : Hid (lexL s.data.toList = (lexL (s.data.toList.drop (k + clen (s.data.toList.drop k)))).app acc) := by
          have := hlex.out
          rw [hd, lexL_hash' hc] at this
          refine Lib.hid (this.trans ?_)
          have e : k + clen (s.data.toList.drop k) = k + 1 + clen (s.data.toList.drop (k + 1)) := by
            rw [hd, clen_cons (by rw [hc]; decide)]; omega
          rw [e, List.drop_drop]
        have hpos : 0 < clen (s.data.toList.drop k) := by rw [hd, clen_cons (by rw [hc]; decide)]; omega
        have d1 : ((s[k].toNat : Int) == 35) = true := by rw [hc]; rfl
        obtain ⟨r, hr⟩ : ∃ r, k + clen (s.data.toList.drop k) = r := ⟨_, rfl⟩
        rw [hr] at hlex'
        have hr1 : k < r := by omega
        have hr2 : r ≤ s.size := by omega
        have hr' := Lib.hid hr; clear hr hcl hpos hc hlex hd hb'
        go_wp2_with (first | (go_at_call 64; refine (isBetween_r _ false _ hB).mono ?_; rintro e w' ⟨rfl, rfl⟩) | (go_at_call 65; refine (lineEnd_any s k r _ hr' (by omega) (by omega)).mono ?_; rintro e w' ⟨rfl, rfl⟩))
        go_roundw
        case rel => exact ⟨r, acc, by omega, by omega, rfl, hown, hkeep, hlex'⟩
        case measure => simp [intOf]; omega
      have d1 : ((s[k].toNat : Int) == 35) = false := by
        rw [beq_eq_false_iff_ne]; intro h; apply hc; apply UInt8.toNat_inj.mp; show s[k].toNat = 35; omega
      by_cases hsg : signB s[k] = true
      · have hlex' : Hid (lexL s.data.toList = (lexL (s.data.toList.drop (k + 1))).app (acc ++ [[s[k]]])) := by
          have := hlex.out
          rw [hd, lexL_sign hsg, LexR.app_app] at this
          exact Lib.hid this
        have hx : Hid (Value.string (s.extract k (k + 1)) = strv [s[k]]) := by
          refine Lib.hid ?_
          rw [extract_strv, hd, show k + 1 - k = 1 by omega]; rfl
        clear hlex hc hd hb'
        have hS := Lib.hid hsg; clear hsg
        go_wp2_with (first | (go_at_call 64; refine (isBetween_r _ false _ hB).mono ?_; rintro e w' ⟨rfl, rfl⟩) | (go_at_call 66; refine (isSign_r _ true _ hS).mono ?_; rintro e w' ⟨rfl, rfl⟩) | ((with_reducible refine at_slot 52 ?_); refine wpList_append_sep rfl (.tmp 46) (.tmp 51) 65 rfl 9 i0 (.string ⟨#[]⟩) 1 16 Tryz.underlying65 hi hz0 hz1 hz2 rfl (by decide) _ acc.length (acc.map strv) rfl (hown.out.1.alloc _) ⟨wr.heap.size, 0, none⟩ 1 1 [.string (s.extract k (k + 1))] rfl rfl (cells_one rfl _ _) (by simp [Value.oneCell']) (by unfold maxLen; omega) (by omega) ?_; intro q d w1 ho1 hg1 hs1; have ho := Lib.hid ho1; clear ho1; have hg := Lib.hid hg1; clear hg1))
        have hR := OwnStrs.push hown.out [s[k]] (hkeep.out.alloc _) hg.out (hx.out ▸ ho.out) hs1.out
        go_roundw
        case rel => exact ⟨k + 1, acc ++ [[s[k]]], by omega, by simp; omega, by go_num, Lib.hid hR.1, Lib.hid hR.2, hlex'⟩
        case measure => simp [intOf]; omega
      have hsg' : signB s[k] = false := by simpa using hsg
      clear hsg
      have hS := Lib.hid hsg'
      have hwl := wlen_le (s.data.toList.drop k)
      simp at hwl
      by_cases hw : 1 ≤ wlen (s.data.toList.drop k) ∧ wlen (s.data.toList.drop k) ≤ 31
      · have hlex' : Hid (lexL s.data.toList = (lexL (s.data.toList.drop (k + wlen (s.data.toList.drop k)))).app (acc ++ [(s.data.toList.drop k).take (wlen (s.data.toList.drop k))])) := by
          have := hlex.out
          rw [hd, lexL_word hb' hc hsg' (by rw [← hd]; exact hw.1) (by rw [← hd]; exact hw.2), ← hd, List.drop_drop, LexR.app_app] at this
          exact Lib.hid this
        obtain ⟨r, hr⟩ : ∃ r, k + wlen (s.data.toList.drop k) = r := ⟨_, rfl⟩
        have hx : Hid (Value.string (s.extract k r) = strv ((s.data.toList.drop k).take (wlen (s.data.toList.drop k)))) := by
          refine Lib.hid ?_
          rw [extract_strv, ← hr, Nat.add_sub_cancel_left]
        rw [hr] at hlex'
        have hr1 : k + 1 ≤ r := by omega
        have hr2 : r ≤ s.size := by omega
        have hf : Hid (decide ((1 : Int) ≤ (r : Int) - k ∧ (r : Int) - k ≤ 31) = true) := Lib.hid (by simp; omega)
        have hr' := Lib.hid hr; clear hr hwl hc hlex hd hb' hw hsg'
        obtain ⟨x, hxe⟩ : ∃ x, x = (s.data.toList.drop k).take (wlen (s.data.toList.drop k)) := ⟨_, rfl⟩
        rw [← hxe] at hlex' hx
        clear hxe
        go_wp2_with (first | (go_at_call 64; refine (isBetween_r _ false _ hB).mono ?_; rintro e w' ⟨rfl, rfl⟩) | (go_at_call 66; refine (isSign_r _ false _ hS).mono ?_; rintro e w' ⟨rfl, rfl⟩) | (go_at_call 67; refine (wordEnd_any s k r _ hr' (by omega) (by omega)).mono ?_; rintro e w' ⟨rfl, rfl⟩) | (go_at_call 68; refine (fits_r _ true _ (by omega) hf).mono ?_; rintro e w' ⟨rfl, rfl⟩) | ((with_reducible refine at_slot 33 ?_); refine wpList_append_sep rfl (.tmp 27) (.tmp 32) 65 rfl 9 i0 (.string ⟨#[]⟩) 1 16 Tryz.underlying65 hi hz0 hz1 hz2 rfl (by decide) _ acc.length (acc.map strv) rfl (hown.out.1.alloc _) ⟨wr.heap.size, 0, none⟩ 1 1 [.string (s.extract k r)] rfl rfl (cells_one rfl _ _) (by simp [Value.oneCell']) (by unfold maxLen; omega) (by omega) ?_; intro q d w1 ho1 hg1 hs1; have ho := Lib.hid ho1; clear ho1; have hg := Lib.hid hg1; clear hg1))
        have hR := OwnStrs.push hown.out x (hkeep.out.alloc _) hg.out (hx.out ▸ ho.out) hs1.out
        go_roundw
        case rel => exact ⟨r, acc ++ [x], by omega, by simp; omega, rfl, Lib.hid hR.1, Lib.hid hR.2, hlex'⟩
        case measure => simp [intOf]; omega
      · have hbad : Hid (lexL s.data.toList = .bad (s.data.toList.length - k)) := by
          have := hlex.out
          rw [hd, lexL_bad hb' hc hsg' (by rw [← hd]; exact hw)] at this
          refine Lib.hid (this.trans ?_)
          unfold LexR.app
          congr 1
          simp; omega
        obtain ⟨r, hr⟩ : ∃ r, k + wlen (s.data.toList.drop k) = r := ⟨_, rfl⟩
        have hr1 : k ≤ r := by omega
        have hr2 : r ≤ s.size := by omega
        have hf : Hid (decide ((1 : Int) ≤ (r : Int) - k ∧ (r : Int) - k ≤ 31) = false) := Lib.hid (by simp; omega)
        have hr' := Lib.hid hr; clear hr hwl hc hlex hd hb' hw hsg'
        go_wp2_with (first | (go_at_call 64; refine (isBetween_r _ false _ hB).mono ?_; rintro e w' ⟨rfl, rfl⟩) | (go_at_call 66; refine (isSign_r _ false _ hS).mono ?_; rintro e w' ⟨rfl, rfl⟩) | (go_at_call 67; refine (wordEnd_any s k r _ hr' (by omega) (by omega)).mono ?_; rintro e w' ⟨rfl, rfl⟩) | (go_at_call 68; refine (fits_r _ false _ (by omega) hf).mono ?_; rintro e w' ⟨rfl, rfl⟩))
        go_ret3
        exact WordsPost.bad hbad.out (by simp; omega) hkeep.out
    · have hlex' : Hid (lexL s.data.toList = .ok acc) := by
        have := hlex.out
        obtain rfl : k = s.size := by omega
        rw [drop_end, lexL_nil] at this
        exact Lib.hid (by rw [this]; simp [LexR.app])
      clear hlex
      go_wp2
      go_ret3
      exact WordsPost.good hlex'.out (by simp) hown.out hkeep.out
end Go.Proofs.YtdannodhlaaoiaaGreatDoor
/- The document's Words, walked. -/
namespace Go.Proofs.YtdannodhlaaoiaaGreatDoor
open Go.RowKit

theorem row_len : wordRow.length = 66 := by decide +kernel
theorem getD_at (s : ByteArray) (j : Nat) (h : j < s.size) : s.data.toList.getD j 0 = s[j] := by
  have hl : j < s.data.toList.length := by simpa using h
  rw [List.getD_eq_getElem?_getD, List.getElem?_eq_getElem hl, Option.getD_some, Array.getElem_toList]; rfl
theorem nat_beq_no {a b : Nat} (h : a ≠ b) : (a == b) = false := by simpa using h
set_option maxRecDepth 100000 in
theorem rIn_any (c : UInt8) (w : World) :
    Calls Tryz.prog 139 #[.int .u8 (c.toNat : Nat)] w fun e w' => e = .returned (.bool (wordB c)) ∧ w = w' := by
  go_enter Tryz.func139, Tryz.ntmps139
  go_wp2
  generalize hS0 : ByteArray.mk _ = S
  have hrow : Hid (S.data.toList = wordRow) := Lib.hid (by rw [← hS0]; unfold wordRow; decide +kernel)
  have hS1 : Hid (S.size = 66) := Lib.hid (by rw [← hS0]; rfl)
  clear hS0
  go_loop [4] (fun iv => ∃ (j : Nat), j ≤ 66 ∧ iv = .int .i64 j ∧ Hid (∀ m, m < j → wordRow[m]? ≠ some c)) (fun iv => 66 - (intOf iv).toNat)
  case atStart => exact ⟨0, by omega, rfl, Lib.hid (by omega)⟩
  case round =>
    obtain ⟨j, hj, rfl, hno⟩ := hrel
    have hS := hS1.out
    by_cases hlt : j < 66
    · have hjs : j < S.size := by omega
      have hget : wordRow[j]? = some S[j] := by
        rw [← hrow.out, List.getElem?_eq_getElem (by simp; omega), Array.getElem_toList]; rfl
      by_cases he : S[j] = c
      · have h1 : (S[j].toNat == c.toNat) = true := by rw [he]; simp
        have h2 : ((S[j].toNat : Int) == (c.toNat : Int)) = true := by rw [he]; simp
        have hw : Hid (wordB c = true) := by
          refine Lib.hid ?_
          rw [← wordRow_has]
          rw [he] at hget
          simpa using List.mem_of_getElem? hget
        clear hS he hget
        go_wp2
        go_ret
        exact ⟨by rw [hw.out]; rfl, rfl⟩
      · have hne : S[j].toNat ≠ c.toNat := fun h => he (UInt8.toNat_inj.mp h)
        have h1 : (S[j].toNat == c.toNat) = false := by simpa using hne
        have h2 : ((S[j].toNat : Int) == (c.toNat : Int)) = false := by rw [beq_eq_false_iff_ne]; omega
        have hno' : Hid (∀ m, m < j + 1 → wordRow[m]? ≠ some c) := by
          refine Lib.hid fun m hm => ?_
          by_cases e : m = j
          · subst e; rw [hget]; intro h; injection h with h; exact he h
          · exact hno.out m (by omega)
        clear hS he hget hno hne
        go_wp2
        go_round
        case rel => exact ⟨j + 1, by omega, by go_num, hno'⟩
        case measure => simp [intOf]; omega
    · have hw : Hid (wordB c = false) := by
        refine Lib.hid ?_
        rw [← wordRow_has, ← Bool.not_eq_true]
        intro h
        have h : c ∈ wordRow := by simpa using h
        obtain ⟨m, hm⟩ := List.getElem?_of_mem h
        have hm2 := (List.getElem?_eq_some_iff.1 hm).1
        rw [row_len] at hm2
        exact hno.out m (by omega) hm
      have hS' : ¬ j < S.size := by omega
      clear hS hlt
      go_wp2
      go_ret
      exact ⟨by rw [hw.out]; rfl, rfl⟩
theorem rIn_r (c : UInt8) (r : Bool) (w : World) (hr : Hid (wordB c = r)) :
    Calls Tryz.prog 139 #[.int .u8 (c.toNat : Nat)] w fun e w' => e = .returned (.bool r) ∧ w = w' :=
  (rIn_any c w).mono fun e w' ⟨he, hw⟩ => ⟨by rw [he, hr.out], hw⟩

/-- string([]byte{c}), as the walk meets it -/
theorem conv_one (W : World) (c : Int) (x : UInt8) (hx : c = x.toNat) : (convert 31 9 (.slice (some ⟨W.heap.size, 0, none⟩) 1 1)).run Tryz.prog (W.alloc (.cells #[.int .u8 c] 5)) = .ok (.string ⟨#[x]⟩) (W.alloc (.cells #[.int .u8 c] 5)) := by
  have := run_convert_bytes_back (P := Tryz.prog) (W.alloc (.cells #[.int .u8 c] 5)) 31 9 5 ⟨W.heap.size, 0, none⟩ 1 [x] Tryz.underlying31 Tryz.underlying5 Tryz.underlying9 (fun j hj => by
    have hj0 : j = 0 := by simp at hj; exact hj
    subst hj0; subst hx
    rw [Addr.add_mid, cell_of_row _ _ _ _ _ _ (heap_alloc_last W _)]; simp)
  exact this

set_option maxRecDepth 100000 in
set_option maxHeartbeats 2000000 in
theorem rWords_any (s : ByteArray) (w : World) (hs : s.size ≤ 8796093022208) :
    Calls Tryz.prog 132 #[.string s] w (WordsPost s.data.toList w) := by
  obtain ⟨i0, hi, hz0, hz1, hz2⟩ := info_parts strInfoAll
  go_enter Tryz.func132, Tryz.ntmps132
  go_wp2
  go_loopw [5, 6] (fun v i wr => ∃ (k : Nat) (acc : List (List UInt8)), k ≤ s.size ∧ acc.length ≤ k ∧ i = .int .i64 k ∧ Hid (OwnStrs w wr v acc) ∧ Hid (Keeps (fun _ => False) w wr) ∧ Hid (lexL s.data.toList = (lexL (s.data.toList.drop k)).app acc)) (fun _ i _ => s.size - (intOf i).toNat)
  case atStart => exact ⟨0, [], by omega, by simp, rfl, Lib.hid (OwnStrs.nil _ _), Lib.hid (Keeps.refl _ _), Lib.hid (by rw [List.drop_zero, LexR.app_nil])⟩
  case round =>
    obtain ⟨k, acc, hk, hal, rfl, hown, hkeep, hlex⟩ := hrel
    by_cases hlt : k < s.size
    · have hd := drop_at s k hlt
      by_cases hb : blankB s[k] = true
      · have hlex' : Hid (lexL s.data.toList = (lexL (s.data.toList.drop (k + 1))).app acc) := by
          have := hlex.out
          rw [hd, lexL_blank hb] at this
          exact Lib.hid this
        clear hlex hd
        rw [blank_dec, decide_eq_true_eq] at hb
        rcases hb with h | h | h
        · have d1 : ((s[k].toNat : Int) == 32) = true := by rw [h]; rfl
          clear h
          go_wp2
          go_roundw
          case rel => exact ⟨k + 1, acc, by omega, by omega, by go_num, hown, hkeep, hlex'⟩
          case measure => simp [intOf]; omega
        · have d1 : ((s[k].toNat : Int) == 32) = false := by rw [h]; rfl
          have d2 : ((s[k].toNat : Int) == 9) = true := by rw [h]; rfl
          clear h
          go_wp2
          go_roundw
          case rel => exact ⟨k + 1, acc, by omega, by omega, by go_num, hown, hkeep, hlex'⟩
          case measure => simp [intOf]; omega
        · have d1 : ((s[k].toNat : Int) == 32) = false := by rw [h]; rfl
          have d2 : ((s[k].toNat : Int) == 9) = false := by rw [h]; rfl
          have d3 : ((s[k].toNat : Int) == 10) = true := by rw [h]; rfl
          clear h
          go_wp2
          go_roundw
          case rel => exact ⟨k + 1, acc, by omega, by omega, by go_num, hown, hkeep, hlex'⟩
          case measure => simp [intOf]; omega
      have hb' : blankB s[k] = false := by simpa using hb
      have hbn := hb'
      rw [blank_dec, decide_eq_false_iff_not] at hbn
      have d1 : ((s[k].toNat : Int) == 32) = false := by rw [beq_eq_false_iff_ne]; omega
      have d2 : ((s[k].toNat : Int) == 9) = false := by rw [beq_eq_false_iff_ne]; omega
      have d3 : ((s[k].toNat : Int) == 10) = false := by rw [beq_eq_false_iff_ne]; omega
      clear hb hbn
      by_cases hc : s[k] = 35
      · have hcl := clen_le (s.data.toList.drop k)
        simp at hcl
        have hlex' : Hid (lexL s.data.toList = (lexL (s.data.toList.drop (k + clen (s.data.toList.drop k)))).app acc) := by
          have := hlex.out
          rw [hd, lexL_hash' hc] at this
          refine Lib.hid (this.trans ?_)
          have e : k + clen (s.data.toList.drop k) = k + 1 + clen (s.data.toList.drop (k + 1)) := by
            rw [hd, clen_cons (by rw [hc]; decide)]; omega
          rw [e, List.drop_drop]
        have hpos : 0 < clen (s.data.toList.drop k) := by rw [hd, clen_cons (by rw [hc]; decide)]; omega
        have d4 : ((s[k].toNat : Int) == 35) = true := by rw [hc]; rfl
        obtain ⟨r, hr⟩ : ∃ r, k + clen (s.data.toList.drop k) = r := ⟨_, rfl⟩
        rw [hr] at hlex'
        have hr1 : k < r := by omega
        have hr2 : r ≤ s.size := by omega
        have hr' := Lib.hid hr; clear hr hcl hpos hc hlex hd hb'
        obtain ⟨wo, hwo⟩ : ∃ wo : World, wo = wr := ⟨_, rfl⟩
        go_wp2
        go_loop [6] (fun i => ∃ j : Nat, k ≤ j ∧ j ≤ s.size ∧ i = .int .i64 j ∧ Hid (j + clen (s.data.toList.drop j) = r)) (fun i => s.size - (intOf i).toNat)
        case atStart => exact ⟨k, by omega, hk, rfl, hr'⟩
        case round =>
          obtain ⟨j, hj1, hj2, rfl, hrel⟩ := hrel
          by_cases hjlt : j < s.size
          · have hd := drop_at s j hjlt
            by_cases hw : s[j] = 10
            · have hrel' : j = r := by
                have := hrel.out
                rw [hd, hw, clen_cons_no] at this
                omega
              have hN : ((s[j].toNat : Int) != 10) = false := by rw [hw]; rfl
              have hre := Lib.hid hrel'; clear hrel hrel' hd hw
              go_wp2
              go_roundw
              case rel => exact ⟨j, acc, by omega, by omega, rfl, hown, hkeep, by rw [hre.out]; exact hlex'⟩
              case measure => have := hre.out; simp [intOf]; omega
            · have hrel' : Hid (j + 1 + clen (s.data.toList.drop (j + 1)) = r) := by
                have := hrel.out
                rw [hd, clen_cons hw] at this
                exact Lib.hid (by omega)
              clear hrel hd
              have hN : ((s[j].toNat : Int) != 10) = true := by
                rw [bne_iff_ne]; intro h; apply hw; apply UInt8.toNat_inj.mp; show s[j].toNat = 10; omega
              clear hw
              go_wp2
              go_round
              case rel => exact ⟨j + 1, by omega, by omega, by go_num, hrel'⟩
              case measure => simp [intOf]; omega
          · have hrel' : j = r := by
              have := hrel.out
              obtain rfl : j = s.size := by omega
              rw [drop_end] at this
              simpa [clen] using this
            have hre := Lib.hid hrel'; clear hrel hrel'
            go_wp2
            go_roundw
            case rel => exact ⟨j, acc, by omega, by omega, rfl, hown, hkeep, by rw [hre.out]; exact hlex'⟩
            case measure => have := hre.out; simp [intOf]; omega
      have d4 : ((s[k].toNat : Int) == 35) = false := by
        rw [beq_eq_false_iff_ne]; intro h; apply hc; apply UInt8.toNat_inj.mp; show s[k].toNat = 35; omega
      by_cases hsg : signB s[k] = true
      · have hlex' : Hid (lexL s.data.toList = (lexL (s.data.toList.drop (k + 1))).app (acc ++ [[s[k]]])) := by
          have := hlex.out
          rw [hd, lexL_sign hsg, LexR.app_app] at this
          exact Lib.hid this
        clear hlex hc hd hb'
        have hcv := conv_one wr (s[k].toNat : Nat) s[k] rfl
        rw [sign_dec, decide_eq_true_eq] at hsg
        rcases hsg with h | h | h
        · skip
          have d5 : ((s[k].toNat : Int) == 123) = true := by rw [h]; rfl
          clear h
          go_wp2_with ((with_reducible refine at_slot 61 ?_); refine wpList_append_sep rfl (.tmp 56) (.tmp 60) 65 rfl 9 i0 (.string ⟨#[]⟩) 1 16 Tryz.underlying65 hi hz0 hz1 hz2 rfl (by decide) _ acc.length (acc.map strv) rfl ((hown.out.1.alloc _).alloc _) ⟨wr.heap.size + 1, 0, none⟩ 1 1 [.string ⟨#[s[k]]⟩] rfl rfl (cells_one (by simp) _ _) (by simp [Value.oneCell']) (by unfold maxLen; omega) (by omega) ?_; intro q d w1 ho1 hg1 hs1; have ho := Lib.hid ho1; clear ho1; have hg := Lib.hid hg1; clear hg1)
          have hR := OwnStrs.push hown.out [s[k]] ((hkeep.out.alloc _).alloc _) hg.out ho.out hs1.out
          go_roundw
          case rel => exact ⟨k + 1, acc ++ [[s[k]]], by omega, by simp; omega, by go_num, Lib.hid hR.1, Lib.hid hR.2, hlex'⟩
          case measure => simp [intOf]; omega
        · skip
          have d5 : ((s[k].toNat : Int) == 123) = false := by rw [h]; rfl
          have d6 : ((s[k].toNat : Int) == 125) = true := by rw [h]; rfl
          clear h
          go_wp2_with ((with_reducible refine at_slot 61 ?_); refine wpList_append_sep rfl (.tmp 56) (.tmp 60) 65 rfl 9 i0 (.string ⟨#[]⟩) 1 16 Tryz.underlying65 hi hz0 hz1 hz2 rfl (by decide) _ acc.length (acc.map strv) rfl ((hown.out.1.alloc _).alloc _) ⟨wr.heap.size + 1, 0, none⟩ 1 1 [.string ⟨#[s[k]]⟩] rfl rfl (cells_one (by simp) _ _) (by simp [Value.oneCell']) (by unfold maxLen; omega) (by omega) ?_; intro q d w1 ho1 hg1 hs1; have ho := Lib.hid ho1; clear ho1; have hg := Lib.hid hg1; clear hg1)
          have hR := OwnStrs.push hown.out [s[k]] ((hkeep.out.alloc _).alloc _) hg.out ho.out hs1.out
          go_roundw
          case rel => exact ⟨k + 1, acc ++ [[s[k]]], by omega, by simp; omega, by go_num, Lib.hid hR.1, Lib.hid hR.2, hlex'⟩
          case measure => simp [intOf]; omega
        · skip
          have d5 : ((s[k].toNat : Int) == 123) = false := by rw [h]; rfl
          have d6 : ((s[k].toNat : Int) == 125) = false := by rw [h]; rfl
          have d7 : ((s[k].toNat : Int) == 59) = true := by rw [h]; rfl
          clear h
          go_wp2_with ((with_reducible refine at_slot 61 ?_); refine wpList_append_sep rfl (.tmp 56) (.tmp 60) 65 rfl 9 i0 (.string ⟨#[]⟩) 1 16 Tryz.underlying65 hi hz0 hz1 hz2 rfl (by decide) _ acc.length (acc.map strv) rfl ((hown.out.1.alloc _).alloc _) ⟨wr.heap.size + 1, 0, none⟩ 1 1 [.string ⟨#[s[k]]⟩] rfl rfl (cells_one (by simp) _ _) (by simp [Value.oneCell']) (by unfold maxLen; omega) (by omega) ?_; intro q d w1 ho1 hg1 hs1; have ho := Lib.hid ho1; clear ho1; have hg := Lib.hid hg1; clear hg1)
          have hR := OwnStrs.push hown.out [s[k]] ((hkeep.out.alloc _).alloc _) hg.out ho.out hs1.out
          go_roundw
          case rel => exact ⟨k + 1, acc ++ [[s[k]]], by omega, by simp; omega, by go_num, Lib.hid hR.1, Lib.hid hR.2, hlex'⟩
          case measure => simp [intOf]; omega
      have hsg' : signB s[k] = false := by simpa using hsg
      have hsn := hsg'
      rw [sign_dec, decide_eq_false_iff_not] at hsn
      have d5 : ((s[k].toNat : Int) == 123) = false := by rw [beq_eq_false_iff_ne]; omega
      have d6 : ((s[k].toNat : Int) == 125) = false := by rw [beq_eq_false_iff_ne]; omega
      have d7 : ((s[k].toNat : Int) == 59) = false := by rw [beq_eq_false_iff_ne]; omega
      clear hsg hsn
      by_cases hwb : wordB s[k] = true
      · have hwl := wlen_le (s.data.toList.drop k)
        simp at hwl
        have hpos : 1 ≤ wlen (s.data.toList.drop k) := by rw [hd, wlen_cons hwb]; omega
        have hlexd := hlex.out
        obtain ⟨r, hr⟩ : ∃ r, k + wlen (s.data.toList.drop k) = r := ⟨_, rfl⟩
        have hx : Hid (Value.string (s.extract k r) = strv ((s.data.toList.drop k).take (wlen (s.data.toList.drop k)))) := by
          refine Lib.hid ?_
          rw [extract_strv, ← hr, Nat.add_sub_cancel_left]
        have hr1 : k + 1 ≤ r := by omega
        have hr2 : r ≤ s.size := by omega
        have hlex1 : Hid (r - k ≤ 31 → lexL s.data.toList = (lexL (s.data.toList.drop r)).app (acc ++ [(s.data.toList.drop k).take (wlen (s.data.toList.drop k))])) := by
          refine Lib.hid fun h31 => ?_
          rw [hd, lexL_word hb' hc hsg' (by rw [← hd]; exact hpos) (by rw [← hd]; omega), ← hd, List.drop_drop, LexR.app_app] at hlexd
          rw [hlexd, hr]
        have hlex2 : Hid (31 < r - k → lexL s.data.toList = .bad (s.data.toList.length - k)) := by
          refine Lib.hid fun h31 => ?_
          rw [hd, lexL_bad hb' hc hsg' (by rw [← hd]; omega)] at hlexd
          refine hlexd.trans ?_
          unfold LexR.app
          congr 1
          simp; omega
        have hB := Lib.hid hwb
        have hr' := Lib.hid hr; clear hr hwl hc hlex hlexd hd hb' hsg' hwb hpos
        obtain ⟨x, hxe⟩ : ∃ x, x = (s.data.toList.drop k).take (wlen (s.data.toList.drop k)) := ⟨_, rfl⟩
        rw [← hxe] at hlex1 hx
        clear hxe
        go_wp2_with (go_at_call 139; refine (rIn_r _ true _ hB).mono ?_; rintro e w' ⟨rfl, rfl⟩)
        go_loop [8] (fun i => ∃ j : Nat, k ≤ j ∧ j ≤ s.size ∧ i = .int .i64 j ∧ Hid (j + wlen (s.data.toList.drop j) = r)) (fun i => s.size - (intOf i).toNat)
        case atStart => exact ⟨k, by omega, hk, rfl, hr'⟩
        case round =>
          obtain ⟨j, hj1, hj2, rfl, hrel⟩ := hrel
          by_cases hjlt : j < s.size ∧ wordB (s.data.toList.getD j 0) = true
          · obtain ⟨hjs, hw⟩ := hjlt
            have hd := drop_at s j hjs
            have hg : s.data.toList.getD j 0 = s[j] := getD_at s j hjs
            rw [hg] at hw
            have hrel' : Hid (j + 1 + wlen (s.data.toList.drop (j + 1)) = r) := by
              have := hrel.out
              rw [hd, wlen_cons hw] at this
              exact Lib.hid (by omega)
            have hW := Lib.hid hw
            clear hrel hd hg hw
            go_wp2_with (go_at_call 139; refine (rIn_r _ true _ hW).mono ?_; rintro e w' ⟨rfl, rfl⟩)
            go_round
            case rel => exact ⟨j + 1, by omega, by omega, by go_num, hrel'⟩
            case measure => simp [intOf]; omega
          · have hre : Hid (j = r) := by
              have := hrel.out
              by_cases hjs : j < s.size
              · have hd := drop_at s j hjs
                have hg : s.data.toList.getD j 0 = s[j] := getD_at s j hjs
                rw [hd, wlen_cons_no (by rw [← hg]; simpa [hjs] using hjlt)] at this
                exact Lib.hid (by omega)
              · obtain rfl : j = s.size := by omega
                rw [drop_end] at this
                exact Lib.hid (by simpa [wlen] using this)
            have hW : j < s.size → Hid (∃ h : j < s.size, wordB s[j] = false) := fun hjs => Lib.hid ⟨hjs, by
              have hg : s.data.toList.getD j 0 = s[j] := getD_at s j hjs
              rw [← hg]; simpa [hjs] using hjlt⟩
            have hjr : j = r := hre.out
            subst hjr
            clear hre hrel hjlt
            by_cases hjs : j < s.size
            · have hW1 : Hid (wordB s[j] = false) := Lib.hid (hW hjs).out.2
              have hW' := Lib.hid hW; clear hW
              by_cases h31 : j - k ≤ 31
              · have hlex' := Lib.hid (hlex1.out h31)
                have h31' : (j : Int) - k ≤ 31 := by omega
                go_wp2_with (first | (go_at_call 139; refine (rIn_r _ false _ hW1).mono ?_; rintro e w' ⟨rfl, rfl⟩) | ((with_reducible refine at_slot 91 ?_); refine wpList_append_sep rfl (.tmp 85) (.tmp 90) 65 rfl 9 i0 (.string ⟨#[]⟩) 1 16 Tryz.underlying65 hi hz0 hz1 hz2 rfl (by decide) _ acc.length (acc.map strv) rfl (hown.out.1.alloc _) ⟨wr.heap.size, 0, none⟩ 1 1 [.string (s.extract k j)] rfl rfl (cells_one rfl _ _) (by simp [Value.oneCell']) (by unfold maxLen; omega) (by omega) ?_; intro q d w1 ho1 hg1 hs1; have ho := Lib.hid ho1; clear ho1; have hg := Lib.hid hg1; clear hg1))
                have hR := OwnStrs.push hown.out x (hkeep.out.alloc _) hg.out (hx.out ▸ ho.out) hs1.out
                go_roundw
                case rel => exact ⟨j, acc ++ [x], by omega, by simp; omega, rfl, Lib.hid hR.1, Lib.hid hR.2, hlex'⟩
                case measure => simp [intOf]; omega
              · have hbad := Lib.hid (hlex2.out (by omega))
                have h31' : 31 < (j : Int) - k := by omega
                go_wp2_with (go_at_call 139; refine (rIn_r _ false _ hW1).mono ?_; rintro e w' ⟨rfl, rfl⟩)
                go_ret3
                exact WordsPost.bad hbad.out (by simp; omega) hkeep.out
            · have hW' := Lib.hid hW; clear hW
              by_cases h31 : j - k ≤ 31
              · have hlex' := Lib.hid (hlex1.out h31)
                have h31' : (j : Int) - k ≤ 31 := by omega
                go_wp2_with ((with_reducible refine at_slot 91 ?_); refine wpList_append_sep rfl (.tmp 85) (.tmp 90) 65 rfl 9 i0 (.string ⟨#[]⟩) 1 16 Tryz.underlying65 hi hz0 hz1 hz2 rfl (by decide) _ acc.length (acc.map strv) rfl (hown.out.1.alloc _) ⟨wr.heap.size, 0, none⟩ 1 1 [.string (s.extract k j)] rfl rfl (cells_one rfl _ _) (by simp [Value.oneCell']) (by unfold maxLen; omega) (by omega) ?_; intro q d w1 ho1 hg1 hs1; have ho := Lib.hid ho1; clear ho1; have hg := Lib.hid hg1; clear hg1)
                have hR := OwnStrs.push hown.out x (hkeep.out.alloc _) hg.out (hx.out ▸ ho.out) hs1.out
                go_roundw
                case rel => exact ⟨j, acc ++ [x], by omega, by simp; omega, rfl, Lib.hid hR.1, Lib.hid hR.2, hlex'⟩
                case measure => simp [intOf]; omega
              · have hbad := Lib.hid (hlex2.out (by omega))
                have h31' : 31 < (j : Int) - k := by omega
                go_wp2
                go_ret3
                exact WordsPost.bad hbad.out (by simp; omega) hkeep.out
      · have hbad : Hid (lexL s.data.toList = .bad (s.data.toList.length - k)) := by
          have := hlex.out
          rw [hd, lexL_bad hb' hc hsg' (by rw [wlen_cons_no (by simpa using hwb)]; omega)] at this
          refine Lib.hid (this.trans ?_)
          unfold LexR.app
          congr 1
          simp; omega
        have hB := Lib.hid (show wordB s[k] = false by simpa using hwb)
        clear hc hlex hd hb' hsg' hwb
        go_wp2_with (go_at_call 139; refine (rIn_r _ false _ hB).mono ?_; rintro e w' ⟨rfl, rfl⟩)
        go_ret3
        exact WordsPost.bad hbad.out (by simp; omega) hkeep.out
    · have hlex' : Hid (lexL s.data.toList = .ok acc) := by
        have := hlex.out
        obtain rfl : k = s.size := by omega
        rw [drop_end, lexL_nil] at this
        exact Lib.hid (by rw [this]; simp [LexR.app])
      clear hlex
      go_wp2
      go_ret3
      exact WordsPost.good hlex'.out (by simp) hown.out hkeep.out
end Go.Proofs.YtdannodhlaaoiaaGreatDoor
