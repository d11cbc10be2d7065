/- lex: the small functions, and Words, as the code has them. -/
import Derived.Test.YtdannodhlaaoiaaGreatDoorWT01
import Derived.WalkLawsBesides
import Derived.Lib.Strings
import Derived.Lib.Bytealg
import Derived.Laws.Externs
import Derived.Deep.Draws
set_option linter.unusedVariables false
set_option linter.unusedSimpArgs false
namespace Go.Proofs.YtdannodhlaaoiaaGreatDoor
open Go.RowKit

theorem u8_eq (c : UInt8) (n : Nat) (hn : n < 256) : (c == UInt8.ofNat n) = decide (c.toNat = n) := by
  rw [Bool.eq_iff_iff]
  simp only [beq_iff_eq, decide_eq_true_eq]
  constructor
  · rintro rfl; simp; omega
  · rintro rfl; simp
theorem blank_dec (c : UInt8) : blankB c = decide (c.toNat = 32 ∨ c.toNat = 9 ∨ c.toNat = 10) := by
  unfold blankB
  rw [show (32 : UInt8) = UInt8.ofNat 32 from rfl, show (9 : UInt8) = UInt8.ofNat 9 from rfl, show (10 : UInt8) = UInt8.ofNat 10 from rfl, u8_eq _ _ (by omega), u8_eq _ _ (by omega), u8_eq _ _ (by omega)]
  simp [Bool.or_assoc]
theorem sign_dec (c : UInt8) : signB c = decide (c.toNat = 123 ∨ c.toNat = 125 ∨ c.toNat = 59) := by
  unfold signB
  rw [show (123 : UInt8) = UInt8.ofNat 123 from rfl, show (125 : UInt8) = UInt8.ofNat 125 from rfl, show (59 : UInt8) = UInt8.ofNat 59 from rfl, u8_eq _ _ (by omega), u8_eq _ _ (by omega), u8_eq _ _ (by omega)]
  simp [Bool.or_assoc]
theorem word_dec (c : UInt8) : wordB c = decide ((97 ≤ c.toNat ∧ c.toNat ≤ 122) ∨ (65 ≤ c.toNat ∧ c.toNat ≤ 90) ∨ (48 ≤ c.toNat ∧ c.toNat ≤ 57) ∨ c.toNat = 46 ∨ c.toNat = 47 ∨ c.toNat = 45 ∨ c.toNat = 95) := by
  have key : ∀ n : Nat, n < 256 → wordB (UInt8.ofNat n) = decide ((97 ≤ (UInt8.ofNat n).toNat ∧ (UInt8.ofNat n).toNat ≤ 122) ∨ (65 ≤ (UInt8.ofNat n).toNat ∧ (UInt8.ofNat n).toNat ≤ 90) ∨ (48 ≤ (UInt8.ofNat n).toNat ∧ (UInt8.ofNat n).toNat ≤ 57) ∨ (UInt8.ofNat n).toNat = 46 ∨ (UInt8.ofNat n).toNat = 47 ∨ (UInt8.ofNat n).toNat = 45 ∨ (UInt8.ofNat n).toNat = 95) := by decide +kernel
  have := key c.toNat c.toNat_lt
  rwa [UInt8.ofNat_toNat] at this

theorem isBetween_any (c : Nat) (w : World) (hc : c < 256) :
    Calls Tryz.prog 64 #[.int .u8 c] w fun e w' => e = .returned (.bool (decide (c = 32 ∨ c = 9 ∨ c = 10))) ∧ w = w' := by
  by_cases h1 : c = 32
  · subst h1
    go_enter Tryz.func64, Tryz.ntmps64
    go_wp2
    go_ret
    exact ⟨rfl, rfl⟩
  have d1 : ((c : Int) == 32) = false := by rw [beq_eq_false_iff_ne]; omega
  by_cases h2 : c = 9
  · subst h2
    clear d1
    go_enter Tryz.func64, Tryz.ntmps64
    go_wp2
    go_ret
    exact ⟨rfl, rfl⟩
  have d2 : ((c : Int) == 9) = false := by rw [beq_eq_false_iff_ne]; omega
  by_cases h3 : c = 10
  · subst h3
    clear d1 d2
    go_enter Tryz.func64, Tryz.ntmps64
    go_wp2
    go_ret
    exact ⟨rfl, rfl⟩
  have d3 : ((c : Int) == 10) = false := by rw [beq_eq_false_iff_ne]; omega
  have hr : decide (c = 32 ∨ c = 9 ∨ c = 10) = false := by simp; omega
  rw [hr]
  clear hr h1 h2 h3
  go_enter Tryz.func64, Tryz.ntmps64
  go_wp2
  go_ret
  exact ⟨rfl, rfl⟩

theorem isSign_any (c : Nat) (w : World) (hc : c < 256) :
    Calls Tryz.prog 66 #[.int .u8 c] w fun e w' => e = .returned (.bool (decide (c = 123 ∨ c = 125 ∨ c = 59))) ∧ w = w' := by
  by_cases h1 : c = 123
  · subst h1
    go_enter Tryz.func66, Tryz.ntmps66
    go_wp2
    go_ret
    exact ⟨rfl, rfl⟩
  have d1 : ((c : Int) == 123) = false := by rw [beq_eq_false_iff_ne]; omega
  by_cases h2 : c = 125
  · subst h2
    clear d1
    go_enter Tryz.func66, Tryz.ntmps66
    go_wp2
    go_ret
    exact ⟨rfl, rfl⟩
  have d2 : ((c : Int) == 125) = false := by rw [beq_eq_false_iff_ne]; omega
  by_cases h3 : c = 59
  · subst h3
    clear d1 d2
    go_enter Tryz.func66, Tryz.ntmps66
    go_wp2
    go_ret
    exact ⟨rfl, rfl⟩
  have d3 : ((c : Int) == 59) = false := by rw [beq_eq_false_iff_ne]; omega
  have hr : decide (c = 123 ∨ c = 125 ∨ c = 59) = false := by simp; omega
  rw [hr]
  clear hr h1 h2 h3
  go_enter Tryz.func66, Tryz.ntmps66
  go_wp2
  go_ret
  exact ⟨rfl, rfl⟩

theorem fits_any (n : Int) (w : World) (h0 : 0 ≤ n) :
    Calls Tryz.prog 68 #[.int .i64 n] w fun e w' => e = .returned (.bool (decide (1 ≤ n ∧ n ≤ 31))) ∧ w = w' := by
  by_cases h1 : 1 ≤ n
  · by_cases h2 : n ≤ 31
    · have hr : decide (1 ≤ n ∧ n ≤ 31) = true := by simp; omega
      rw [hr]; clear hr
      go_enter Tryz.func68, Tryz.ntmps68
      go_wp2
      go_ret
      exact ⟨rfl, rfl⟩
    · have hr : decide (1 ≤ n ∧ n ≤ 31) = false := by simp; omega
      rw [hr]; clear hr
      go_enter Tryz.func68, Tryz.ntmps68
      go_wp2
      go_ret
      exact ⟨rfl, rfl⟩
  · obtain rfl : n = 0 := by omega
    go_enter Tryz.func68, Tryz.ntmps68
    go_wp2
    go_ret
    exact ⟨rfl, rfl⟩

def wordN (c : Nat) : Bool := decide ((97 ≤ c ∧ c ≤ 122) ∨ (65 ≤ c ∧ c ≤ 90) ∨ (48 ≤ c ∧ c ≤ 57) ∨ c = 46 ∨ c = 47 ∨ c = 45 ∨ c = 95)
theorem isOfWord_any (c : Nat) (w : World) (hc : c < 256) :
    Calls Tryz.prog 100 #[.int .u8 c] w fun e w' => e = .returned (.bool (wordN c)) ∧ w = w' := by
  rcases (show (97 ≤ c ∧ c ≤ 122) ∨ (65 ≤ c ∧ c ≤ 90) ∨ (48 ≤ c ∧ c ≤ 57) ∨ (c < 48 ∨ (57 < c ∧ c < 65) ∨ (90 < c ∧ c < 97) ∨ 122 < c) by omega) with ⟨h1, h2⟩ | ⟨h1, h2⟩ | ⟨h1, h2⟩ | h
  · have hr : wordN c = true := by unfold wordN; simp; omega
    rw [hr]; clear hr
    go_enter Tryz.func100, Tryz.ntmps100
    go_wp2
    go_ret
    exact ⟨rfl, rfl⟩
  · have hr : wordN c = true := by unfold wordN; simp; omega
    rw [hr]; clear hr
    go_enter Tryz.func100, Tryz.ntmps100
    go_wp2
    go_ret
    exact ⟨rfl, rfl⟩
  · have hr : wordN c = true := by unfold wordN; simp; omega
    rw [hr]; clear hr
    go_enter Tryz.func100, Tryz.ntmps100
    go_wp2
    go_ret
    exact ⟨rfl, rfl⟩
  · have hw : wordN c = decide (c = 46 ∨ c = 47 ∨ c = 45 ∨ c = 95) := by unfold wordN; rw [decide_eq_decide]; omega
    rw [hw]; clear hw
    rcases (show c = 46 ∨ c = 47 ∨ c = 45 ∨ c = 95 ∨ (c ≠ 46 ∧ c ≠ 47 ∧ c ≠ 45 ∧ c ≠ 95) by omega) with rfl | rfl | rfl | rfl | ⟨k1, k2, k3, k4⟩
    any_goals
      clear h
      go_enter Tryz.func100, Tryz.ntmps100
      go_wp2
      go_ret
      exact ⟨rfl, rfl⟩
    have d1 : ((c : Int) == 46) = false := by rw [beq_eq_false_iff_ne]; omega
    have d2 : ((c : Int) == 47) = false := by rw [beq_eq_false_iff_ne]; omega
    have d3 : ((c : Int) == 45) = false := by rw [beq_eq_false_iff_ne]; omega
    have d4 : ((c : Int) == 95) = false := by rw [beq_eq_false_iff_ne]; omega
    have hr : decide (c = 46 ∨ c = 47 ∨ c = 45 ∨ c = 95) = false := by simp; omega
    rw [hr]; clear hr k1 k2 k3 k4
    rcases h with h | ⟨h1, h2⟩ | ⟨h1, h2⟩ | h
    all_goals
      go_enter Tryz.func100, Tryz.ntmps100
      go_wp2
      go_ret
      exact ⟨rfl, rfl⟩

theorem wordN_eq (c : UInt8) : wordN c.toNat = wordB c := by rw [word_dec]; rfl
theorem isOfWord_r (c : UInt8) (r : Bool) (w : World) (hr : Hid (wordB c = r)) :
    Calls Tryz.prog 100 #[.int .u8 (c.toNat : Nat)] w fun e w' => e = .returned (.bool r) ∧ w = w' :=
  (isOfWord_any c.toNat w c.toNat_lt).mono fun e w' ⟨he, hw⟩ => ⟨by rw [he, wordN_eq, hr.out], hw⟩
theorem isBetween_r (c : UInt8) (r : Bool) (w : World) (hr : Hid (blankB c = r)) :
    Calls Tryz.prog 64 #[.int .u8 (c.toNat : Nat)] w fun e w' => e = .returned (.bool r) ∧ w = w' :=
  (isBetween_any c.toNat w c.toNat_lt).mono fun e w' ⟨he, hw⟩ => ⟨by rw [he, ← blank_dec, hr.out], hw⟩
theorem isSign_r (c : UInt8) (r : Bool) (w : World) (hr : Hid (signB c = r)) :
    Calls Tryz.prog 66 #[.int .u8 (c.toNat : Nat)] w fun e w' => e = .returned (.bool r) ∧ w = w' :=
  (isSign_any c.toNat w c.toNat_lt).mono fun e w' ⟨he, hw⟩ => ⟨by rw [he, ← sign_dec, hr.out], hw⟩

theorem drop_at (s : ByteArray) (j : Nat) (h : j < s.size) : s.data.toList.drop j = s[j] :: s.data.toList.drop (j + 1) := by
  have hl : j < s.data.toList.length := by simpa using h
  rw [List.drop_eq_getElem_cons hl, Array.getElem_toList]; rfl
theorem drop_end (s : ByteArray) : s.data.toList.drop s.size = [] := List.drop_of_length_le (by simp)

theorem ret_int {k : IntKind} {a b : Int} (h : a = b) : Ending.returned (.int k a) = .returned (.int k b) := by rw [h]
theorem ret_nat {k : IntKind} {a b : Nat} (h : a = b) : Ending.returned (.int k (a : Int)) = .returned (.int k (b : Int)) := by rw [h]
/-- the place behind the word that begins at k -/
theorem wordEnd_any (s : ByteArray) (k r : Nat) (w : World) (hr : Hid (k + wlen (s.data.toList.drop k) = r)) (hs : s.size ≤ 9223372036854775807) (hk : k ≤ s.size) :
    Calls Tryz.prog 67 #[.string s, .int .i64 k] w fun e w' => e = .returned (.int .i64 (r : Nat)) ∧ w = w' := by
  go_enter Tryz.func67, Tryz.ntmps67
  go_wp2
  go_loop [1] (fun i => ∃ j : Nat, k ≤ j ∧ j ≤ s.size ∧ i = .int .i64 j ∧ Hid (j + wlen (s.data.toList.drop j) = r)) (fun i => s.size - (intOf i).toNat)
  case atStart => exact ⟨k, by omega, hk, rfl, hr⟩
  case round =>
    obtain ⟨j, hj1, hj2, rfl, hrel⟩ := hrel
    by_cases hlt : j < s.size
    · have hd := drop_at s j hlt
      by_cases hw : wordB s[j] = true
      · have hrel' : Hid (j + 1 + wlen (s.data.toList.drop (j + 1)) = r) := by
          have := hrel.out
          rw [hd, wlen_cons hw] at this
          exact Lib.hid (by omega)
        clear hrel hd
        have hN := Lib.hid hw; clear hw
        go_wp2_with (go_at_call 100; refine (isOfWord_r _ true _ hN).mono ?_; rintro e w' ⟨rfl, rfl⟩)
        go_round
        case rel => exact ⟨j + 1, by omega, by omega, by go_num, hrel'⟩
        case measure => simp [intOf]; omega
      · have hrel' : Hid (j = r) := by
          have := hrel.out
          rw [hd, wlen_cons_no (by simpa using hw)] at this
          exact Lib.hid (by omega)
        clear hrel hd
        have hN := Lib.hid (show wordB s[j] = false by simpa using hw); clear hw
        go_wp2_with (go_at_call 100; refine (isOfWord_r _ false _ hN).mono ?_; rintro e w' ⟨rfl, rfl⟩)
        go_ret
        exact ⟨ret_nat hrel'.out, rfl⟩
    · have hrel' : Hid (j = r) := by
        have := hrel.out
        obtain rfl : j = s.size := by omega
        rw [drop_end] at this
        exact Lib.hid (by simpa [wlen] using this)
      clear hrel
      go_wp2
      go_ret
      exact ⟨ret_nat hrel'.out, rfl⟩

/-- the place of the line's end that comes next -/
theorem lineEnd_any (s : ByteArray) (k r : Nat) (w : World) (hr : Hid (k + clen (s.data.toList.drop k) = r)) (hs : s.size ≤ 9223372036854775807) (hk : k ≤ s.size) :
    Calls Tryz.prog 65 #[.string s, .int .i64 k] w fun e w' => e = .returned (.int .i64 (r : Nat)) ∧ w = w' := by
  go_enter Tryz.func65, Tryz.ntmps65
  go_wp2
  go_loop [1] (fun i => ∃ j : Nat, k ≤ j ∧ j ≤ s.size ∧ i = .int .i64 j ∧ Hid (j + clen (s.data.toList.drop j) = r)) (fun i => s.size - (intOf i).toNat)
  case atStart => exact ⟨k, by omega, hk, rfl, hr⟩
  case round =>
    obtain ⟨j, hj1, hj2, rfl, hrel⟩ := hrel
    by_cases hlt : j < s.size
    · have hd := drop_at s j hlt
      by_cases hw : s[j] = 10
      · have hrel' : Hid (j = r) := by
          have := hrel.out
          rw [hd, hw, clen_cons_no] at this
          exact Lib.hid (by omega)
        clear hrel hd
        have hN : ((s[j].toNat : Int) != 10) = false := by rw [hw]; rfl
        have hw' := Lib.hid hw; clear hw
        go_wp2
        go_ret
        exact ⟨ret_nat hrel'.out, rfl⟩
      · have hrel' : Hid (j + 1 + clen (s.data.toList.drop (j + 1)) = r) := by
          have := hrel.out
          rw [hd, clen_cons hw] at this
          exact Lib.hid (by omega)
        clear hrel hd
        have hN : ((s[j].toNat : Int) != 10) = true := by
          rw [bne_iff_ne]; intro h; apply hw; apply UInt8.toNat_inj.mp; show s[j].toNat = 10; omega
        clear hw
        go_wp2
        go_round
        case rel => exact ⟨j + 1, by omega, by omega, by go_num, hrel'⟩
        case measure => simp [intOf]; omega
    · have hrel' : Hid (j = r) := by
        have := hrel.out
        obtain rfl : j = s.size := by omega
        rw [drop_end] at this
        exact Lib.hid (by simpa [clen] using this)
      clear hrel
      go_wp2
      go_ret
      exact ⟨ret_nat hrel'.out, rfl⟩
end Go.Proofs.YtdannodhlaaoiaaGreatDoor
/- strings.Index, Contains, Cut at a separator of one byte. -/
namespace Go.Proofs.YtdannodhlaaoiaaGreatDoor
open Go.RowKit

/-- how many bytes stand ahead of the first c -/
def before (c : UInt8) (l : List UInt8) : Nat := (l.takeWhile (fun x => x != c)).length
theorem before_le (c : UInt8) (l : List UInt8) : before c l ≤ l.length := (List.takeWhile_sublist _).length_le
theorem before_lt {c : UInt8} {l : List UInt8} (h : c ∈ l) : before c l < l.length := by
  induction l with
  | nil => cases h
  | cons b l ih =>
    unfold before
    rw [List.takeWhile_cons]
    by_cases e : b = c
    · subst e; simp
    · rw [if_pos (by simpa using e)]
      have := ih (by rcases List.mem_cons.1 h with h | h; exact (e h.symm).elim; exact h)
      unfold before at this
      simp; omega
theorem indexByte_eq (l : List UInt8) (c : UInt8) : Lib.indexByte l c = if c ∈ l then ((before c l : Nat) : Int) else -1 := by
  induction l with
  | nil => simp [Lib.indexByte]
  | cons b l ih =>
    unfold Lib.indexByte
    by_cases h : b = c
    · subst h; simp [before]
    · have h1 : (b == c) = false := by simpa using h
      rw [h1, ih]
      have hb : before c (b :: l) = before c l + 1 := by unfold before; rw [List.takeWhile_cons, if_pos (by simpa using h)]; rfl
      by_cases hm : c ∈ l
      · have : c ∈ b :: l := by simp [hm]
        rw [if_pos hm, if_pos this, hb]
        have : (((before c l : Nat) : Int) == -1) = false := by rw [beq_eq_false_iff_ne]; omega
        simp [this]
      · have : ¬ c ∈ b :: l := by simp [hm, Ne.symm h]
        rw [if_neg hm, if_neg this]; simp

set_option maxRecDepth 100000 in
theorem sliteIndexByte_any (s : ByteArray) (c : UInt8) (w : World) :
    Calls Tryz.prog 145 #[.string s, .int .u8 (c.toNat : Nat)] w fun e w' => e = .returned (.int .i64 (Lib.indexByte s.data.toList c)) ∧ w = w' := by
  have hc : ((c.toNat : Nat) : Int).toNat.toUInt8 = c := by simp
  have hc' := Lib.hid hc; clear hc
  go_enter Tryz.func145, Tryz.ntmps145
  go_wp2
  rw [run_callFunc_extern Tryz.func151 (by kernel_rfl) (by kernel_rfl) (by kernel_rfl) (e := Extern.BytealgIndexByte.indexByte) (by kernel_rfl), Lib.run_indexByteString, hc'.out]
  simp only [Result.andThen]
  rw [Oper.upon_value]
  go_wp2
  go_ret
  exact ⟨rfl, rfl⟩

set_option maxRecDepth 100000 in
set_option maxHeartbeats 1000000 in
theorem sliteIndex_one (s : ByteArray) (c : UInt8) (r : Int) (w : World) (hr : Hid (Lib.indexByte s.data.toList c = r)) :
    Calls Tryz.prog 138 #[.string s, .string ⟨#[c]⟩] w fun e w' => e = .returned (.int .i64 r) ∧ w = w' := by
  go_enter Tryz.func138, Tryz.ntmps138
  go_wp2_with (go_at_call 145; refine (sliteIndexByte_any s c _).mono ?_; rintro e w' ⟨rfl, rfl⟩)
  · have h : ([c] == s.toList) = true := by assumption
    have e : s.data.toList = [c] := by rw [← Lib.toList_data]; exact (beq_iff_eq.1 h).symm
    have hr0 : (0 : Int) = r := by rw [← hr.out, e]; simp [Lib.indexByte]
    go_ret
    exact ⟨ret_int hr0, rfl⟩
  · go_ret
    exact ⟨ret_int hr.out, rfl⟩
theorem stringsIndex_one (s : ByteArray) (c : UInt8) (r : Int) (w : World) (hr : Hid (Lib.indexByte s.data.toList c = r)) :
    Calls Tryz.prog 130 #[.string s, .string ⟨#[c]⟩] w fun e w' => e = .returned (.int .i64 r) ∧ w = w' := by
  go_enter Tryz.func130, Tryz.ntmps130
  go_wp2_with (go_at_call 138; refine (sliteIndex_one s c r _ hr).mono ?_; rintro e w' ⟨rfl, rfl⟩)
  go_ret
  exact ⟨rfl, rfl⟩
theorem stringsContains_one (s : ByteArray) (c : UInt8) (w : World) (b : Bool) (hb : Hid (decide (c ∈ s.data.toList) = b)) :
    Calls Tryz.prog 117 #[.string s, .string ⟨#[c]⟩] w fun e w' => e = .returned (.bool b) ∧ w = w' := by
  have he := indexByte_eq s.data.toList c
  cases b with
  | true =>
    have hm : c ∈ s.data.toList := by simpa using hb.out
    rw [if_pos hm] at he
    have he' := Lib.hid he; clear he hm hb
    go_enter Tryz.func117, Tryz.ntmps117
    go_wp2_with (go_at_call 130; refine (stringsIndex_one s c _ _ he').mono ?_; rintro e w' ⟨rfl, rfl⟩)
    go_ret
    exact ⟨rfl, rfl⟩
  | false =>
    have hm : ¬ c ∈ s.data.toList := by simpa using hb.out
    rw [if_neg hm] at he
    have he' := Lib.hid he; clear he hm hb
    go_enter Tryz.func117, Tryz.ntmps117
    go_wp2_with (go_at_call 130; refine (stringsIndex_one s c _ _ he').mono ?_; rintro e w' ⟨rfl, rfl⟩)
    go_ret
    exact ⟨rfl, rfl⟩
set_option maxRecDepth 100000 in
theorem sliteCut_no (s : ByteArray) (c : UInt8) (w : World) (hm : Hid (c ∉ s.data.toList)) :
    Calls Tryz.prog 137 #[.string s, .string ⟨#[c]⟩] w fun e w' => e = .returned (.tuple #[.string s, .string ⟨#[]⟩, .bool false]) ∧ w = w' := by
  have he := indexByte_eq s.data.toList c
  rw [if_neg hm.out] at he
  have he' := Lib.hid he; clear he
  go_enter Tryz.func137, Tryz.ntmps137
  go_wp2_with (go_at_call 138; refine (sliteIndex_one s c _ _ he').mono ?_; rintro e w' ⟨rfl, rfl⟩)
  go_ret3
  exact ⟨rfl, rfl⟩
set_option maxRecDepth 100000 in
theorem sliteCut_yes (s : ByteArray) (c : UInt8) (k : Nat) (w : World) (hs : s.size ≤ 9223372036854775807) (hm : Hid (c ∈ s.data.toList)) (hk : Hid (before c s.data.toList = k)) :
    Calls Tryz.prog 137 #[.string s, .string ⟨#[c]⟩] w fun e w' => e = .returned (.tuple #[.string (s.extract 0 k), .string (s.extract (k + 1) s.size), .bool true]) ∧ ∃ n, w' = w.drewN n := by
  have he := indexByte_eq s.data.toList c
  rw [if_pos hm.out, hk.out] at he
  have he' := Lib.hid he; clear he
  have hlt : k < s.size := by
    have := before_lt hm.out
    rw [hk.out] at this
    simpa using this
  go_enter Tryz.func137, Tryz.ntmps137
  go_wp2_with (go_at_call 138; refine (sliteIndex_one s c _ _ he').mono ?_; rintro e w' ⟨rfl, rfl⟩)
  go_quiet (fail)
  go_wp2
  go_ret3
  exact ⟨rfl, _, rfl⟩
theorem stringsCut_no (s : ByteArray) (c : UInt8) (w : World) (hm : Hid (c ∉ s.data.toList)) :
    Calls Tryz.prog 129 #[.string s, .string ⟨#[c]⟩] w fun e w' => e = .returned (.tuple #[.string s, .string ⟨#[]⟩, .bool false]) ∧ w = w' := by
  go_enter Tryz.func129, Tryz.ntmps129
  go_wp2_with (go_at_call 137; refine (sliteCut_no s c _ hm).mono ?_; rintro e w' ⟨rfl, rfl⟩)
  go_ret3
  exact ⟨rfl, rfl⟩
theorem stringsCut_yes (s : ByteArray) (c : UInt8) (k : Nat) (w : World) (hs : s.size ≤ 9223372036854775807) (hm : Hid (c ∈ s.data.toList)) (hk : Hid (before c s.data.toList = k)) :
    Calls Tryz.prog 129 #[.string s, .string ⟨#[c]⟩] w fun e w' => e = .returned (.tuple #[.string (s.extract 0 k), .string (s.extract (k + 1) s.size), .bool true]) ∧ ∃ n, w' = w.drewN n := by
  go_enter Tryz.func129, Tryz.ntmps129
  go_wp2_with (go_at_call 137; refine (sliteCut_yes s c k _ hs hm hk).mono ?_; rintro e w' ⟨rfl, n, rfl⟩)
  go_ret3
  exact ⟨rfl, n, rfl⟩
/-- what stands ahead of the first c, and behind it -/
def CutAt (c : UInt8) (s X Y : ByteArray) : Prop := c ∈ s.data.toList ∧ X.data.toList = s.data.toList.take (before c s.data.toList) ∧ Y.data.toList = s.data.toList.drop (before c s.data.toList + 1) ∧ X.size ≤ s.size ∧ Y.size ≤ s.size
theorem cutAt_ex {c : UInt8} {s : ByteArray} (h : c ∈ s.data.toList) : ∃ X Y, CutAt c s X Y ∧ X = s.extract 0 (before c s.data.toList) ∧ Y = s.extract (before c s.data.toList + 1) s.size :=
  ⟨_, _, ⟨h, by rw [Lib.extract_data]; simp, by rw [Lib.extract_data]; exact List.take_of_length_le (by simp), by rw [ByteArray.size_extract]; omega, by rw [ByteArray.size_extract]; omega⟩, rfl, rfl⟩
theorem cutAt_eq {c : UInt8} {s X Y : ByteArray} (h : CutAt c s X Y) : X = s.extract 0 (before c s.data.toList) ∧ Y = s.extract (before c s.data.toList + 1) s.size := by
  obtain ⟨X', Y', h', hX, hY⟩ := cutAt_ex h.1
  have e : ∀ a b : ByteArray, a.data.toList = b.data.toList → a = b := fun a b e => by
    cases a with | mk a => cases b with | mk b => simp at e; rw [e]
  exact ⟨(e _ _ (h.2.1.trans h'.2.1.symm)).trans hX, (e _ _ (h.2.2.1.trans h'.2.2.1.symm)).trans hY⟩
theorem stringsCut_at (s : ByteArray) (c : UInt8) (X Y : ByteArray) (w : World) (hs : s.size ≤ 9223372036854775807) (h : Hid (CutAt c s X Y)) :
    Calls Tryz.prog 129 #[.string s, .string ⟨#[c]⟩] w fun e w' => e = .returned (.tuple #[.string X, .string Y, .bool true]) ∧ ∃ n, w' = w.drewN n := by
  obtain ⟨hX, hY⟩ := cutAt_eq h.out
  rw [hX, hY]
  exact stringsCut_yes s c _ w hs (Lib.hid h.out.1) (Lib.hid rfl)
end Go.Proofs.YtdannodhlaaoiaaGreatDoor
/- Numbers, addresses and nets, as plain lists of bytes. -/
namespace Go.Proofs.YtdannodhlaaoiaaGreatDoor

def digB (c : UInt8) : Bool := decide (48 ≤ c.toNat ∧ c.toNat ≤ 57)
def decVal (l : List UInt8) : Nat := l.foldl (fun n c => n * 10 + (c.toNat - 48)) 0
theorem decVal_snoc (l : List UInt8) (c : UInt8) : decVal (l ++ [c]) = decVal l * 10 + (c.toNat - 48) := by unfold decVal; rw [List.foldl_append]; rfl
theorem decVal_lt (n : Nat) : ∀ l : List UInt8, l.length = n → l.all digB = true → decVal l < 10 ^ n := by
  induction n with
  | zero => intro l hl _; have : l = [] := List.eq_nil_of_length_eq_zero hl; subst this; simp [decVal]
  | succ n ih =>
    intro l hl ha
    have hne : l ≠ [] := by rintro rfl; simp at hl
    have e := List.dropLast_concat_getLast hne
    rw [← e] at ha ⊢
    rw [List.all_append] at ha
    simp only [Bool.and_eq_true] at ha
    have h1 := ih l.dropLast (by simp [hl]) ha.1
    have h2 : digB (l.getLast hne) = true := by simpa using ha.2
    unfold digB at h2
    rw [decide_eq_true_eq] at h2
    rw [decVal_snoc, Nat.pow_succ]; omega
/-- may this be a number: its length, and no needless nought -/
def decShape (l : List UInt8) : Bool := decide (1 ≤ l.length ∧ l.length ≤ 9 ∧ ¬ (1 < l.length ∧ l.head? = some 48))
def decL (l : List UInt8) : Option Nat := if decShape l && l.all digB then some (decVal l) else none
theorem decL_lt {l : List UInt8} {n : Nat} (h : decL l = some n) : n < 1000000000 := by
  unfold decL at h
  split at h
  · rename_i h'
    simp only [Bool.and_eq_true] at h'
    have h1 := decVal_lt _ l rfl h'.2
    have h2 : l.length ≤ 9 := by have := h'.1; unfold decShape at this; rw [decide_eq_true_eq] at this; exact this.2.1
    injection h with h; subst h
    have : (10 : Nat) ^ l.length ≤ 10 ^ 9 := Nat.pow_le_pow_right (by omega) h2
    omega
  · cases h
theorem decL_digs {l : List UInt8} {n : Nat} (h : decL l = some n) : l.all digB = true := by
  unfold decL at h
  split at h
  · rename_i h'; simp only [Bool.and_eq_true] at h'; exact h'.2
  · cases h
theorem decL_no {l : List UInt8} {n : Nat} (h : decL l = some n) {c : UInt8} (hc : digB c = false) : c ∉ l := by
  intro hm
  have := List.all_eq_true.1 (decL_digs h) c hm
  rw [hc] at this; cases this

/-- the parts of a text at a sign -/
def partsL (c : UInt8) : List UInt8 → List (List UInt8)
  | [] => [[]]
  | b :: l => if b = c then [] :: partsL c l else match partsL c l with
    | p :: ps => (b :: p) :: ps
    | [] => [[b]]
theorem partsL_ne (c : UInt8) (l : List UInt8) : partsL c l ≠ [] := by
  cases l with
  | nil => simp [partsL]
  | cons b l =>
    unfold partsL
    split
    · simp
    · split <;> simp
theorem before_cons_ne {c b : UInt8} {l : List UInt8} (h : b ≠ c) : before c (b :: l) = before c l + 1 := by
  unfold before; rw [List.takeWhile_cons, if_pos (by simpa using h)]; rfl
theorem before_cons_eq {c : UInt8} {l : List UInt8} : before c (c :: l) = 0 := by
  unfold before; rw [List.takeWhile_cons, if_neg (by simp)]; rfl
theorem partsL_no {c : UInt8} {l : List UInt8} (h : c ∉ l) : partsL c l = [l] := by
  induction l with
  | nil => rfl
  | cons b l ih =>
    have hb : b ≠ c := by rintro rfl; exact h (by simp)
    have hl : c ∉ l := fun m => h (by simp [m])
    unfold partsL
    rw [if_neg hb, ih hl]
theorem partsL_yes {c : UInt8} {l : List UInt8} (h : c ∈ l) : partsL c l = l.take (before c l) :: partsL c (l.drop (before c l + 1)) := by
  induction l with
  | nil => cases h
  | cons b l ih =>
    by_cases hb : b = c
    · subst hb
      rw [before_cons_eq]
      simp [partsL]
    · have hl : c ∈ l := by rcases List.mem_cons.1 h with h | h; exact (hb h.symm).elim; exact h
      rw [before_cons_ne hb, show partsL c (b :: l) = (if b = c then [] :: partsL c l else match partsL c l with
        | p :: ps => (b :: p) :: ps
        | [] => [[b]]) from rfl, if_neg hb, ih hl]
      simp
/-- the parts of a text with one byte more -/
def pushLast (b : UInt8) : List (List UInt8) → List (List UInt8)
  | [] => [[b]]
  | [p] => [p ++ [b]]
  | p :: q :: ps => p :: pushLast b (q :: ps)
theorem pushLast_snoc (b : UInt8) (ps : List (List UInt8)) (p : List UInt8) : pushLast b (ps ++ [p]) = ps ++ [p ++ [b]] := by
  induction ps with
  | nil => rfl
  | cons q ps ih =>
    cases ps with
    | nil => rfl
    | cons r ps => show q :: pushLast b (r :: ps ++ [p]) = _; rw [ih]; rfl
theorem partsL_snoc (c b : UInt8) (l : List UInt8) : partsL c (l ++ [b]) = if b = c then partsL c l ++ [[]] else pushLast b (partsL c l) := by
  induction l with
  | nil =>
    by_cases h : b = c
    · subst h; simp [partsL]
    · simp [partsL, h, pushLast]
  | cons a l ih =>
    rw [List.cons_append]
    have hne := partsL_ne c l
    by_cases ha : a = c
    · subst ha
      unfold partsL
      rw [if_pos rfl, if_pos rfl, ih]
      by_cases h : b = a
      · rw [if_pos h, if_pos h]; rfl
      · rw [if_neg h, if_neg h]
        cases hp : partsL a l with
        | nil => exact (hne hp).elim
        | cons p ps => rfl
    · unfold partsL
      rw [if_neg ha, if_neg ha, ih]
      cases hp : partsL c l with
      | nil => exact (hne hp).elim
      | cons p ps =>
        by_cases h : b = c
        · rw [if_pos h, if_pos h]; rfl
        · rw [if_neg h, if_neg h]
          cases ps with
          | nil => rfl
          | cons q ps => rfl

/-- a number of parts, each from 0 to 255 -/
def foldParts (n : Nat) : List (List UInt8) → Option Nat
  | [] => some n
  | p :: ps => match decL p with
    | some b => if b ≤ 255 then foldParts (n * 256 + b) ps else none
    | none => none
/-- as the code reads it: k parts are to come -/
def addrGo : Nat → Nat → List UInt8 → Option Nat
  | 0, n, _ => some n
  | k + 1, n, s => match decL (if 46 ∈ s then s.take (before 46 s) else s) with
    | some b => if b ≤ 255 ∧ (46 ∈ s ↔ k ≠ 0) then addrGo k (n * 256 + b) (if 46 ∈ s then s.drop (before 46 s + 1) else []) else none
    | none => none
def addrL (l : List UInt8) : Option Nat := addrGo 4 0 l
theorem addrGo_yes {k n : Nat} {s : List UInt8} (h : 46 ∈ s) : addrGo (k + 1) n s = match decL (s.take (before 46 s)) with
    | some b => if b ≤ 255 ∧ k ≠ 0 then addrGo k (n * 256 + b) (s.drop (before 46 s + 1)) else none
    | none => none := by
  rw [addrGo]; simp only [h, if_true, true_iff]
theorem addrGo_no {k n : Nat} {s : List UInt8} (h : 46 ∉ s) : addrGo (k + 1) n s = match decL s with
    | some b => if b ≤ 255 ∧ k = 0 then addrGo k (n * 256 + b) [] else none
    | none => none := by
  rw [addrGo]; simp only [h, if_false, false_iff, Decidable.not_not]
theorem addrGo_eq (k : Nat) : ∀ (n : Nat) (s : List UInt8), addrGo (k + 1) n s = if (partsL 46 s).length = k + 1 then foldParts n (partsL 46 s) else none := by
  induction k with
  | zero =>
    intro n s
    by_cases h : 46 ∈ s
    · have e := partsL_yes h
      have hne := partsL_ne 46 (s.drop (before 46 s + 1))
      have hl : (partsL 46 s).length ≠ 0 + 1 := by
        rw [e]; cases hq : partsL 46 (s.drop (before 46 s + 1)) with | nil => exact (hne hq).elim | cons => simp
      rw [addrGo_yes h, if_neg hl]
      cases decL (s.take (before 46 s)) <;> simp
    · rw [addrGo_no h, partsL_no h, if_pos (by simp)]
      cases hd : decL s <;> simp [foldParts, hd, addrGo]
  | succ k ih =>
    intro n s
    by_cases h : 46 ∈ s
    · have e := partsL_yes h
      rw [addrGo_yes h, e]
      cases hd : decL (s.take (before 46 s)) with
      | none => simp [foldParts, hd]
      | some b =>
        simp only [foldParts, hd, List.length_cons]
        by_cases hb : b ≤ 255
        · rw [if_pos ⟨hb, by omega⟩, if_pos hb, ih]
          by_cases hl : (partsL 46 (s.drop (before 46 s + 1))).length = k + 1
          · rw [if_pos hl, if_pos (by omega)]
          · rw [if_neg hl, if_neg (by omega)]
        · rw [if_neg (fun x => hb x.1), if_neg hb]; simp
    · rw [addrGo_no h, partsL_no h, if_neg (by simp)]
      cases decL s <;> simp
theorem addrL_eq (l : List UInt8) : addrL l = if (partsL 46 l).length = 4 then foldParts 0 (partsL 46 l) else none := addrGo_eq 3 0 l
theorem foldParts_lt : ∀ (ps : List (List UInt8)) (n m : Nat), foldParts n ps = some m → m < (n + 1) * 256 ^ ps.length := by
  intro ps
  induction ps with
  | nil => intro n m h; simp [foldParts] at h; subst h; simp
  | cons p ps ih =>
    intro n m h
    unfold foldParts at h
    cases hd : decL p with
    | none => rw [hd] at h; cases h
    | some b =>
      rw [hd] at h
      simp only at h
      split at h
      · have := ih _ _ h
        refine Nat.lt_of_lt_of_le this ?_
        rw [List.length_cons, Nat.pow_succ, Nat.mul_comm (256 ^ ps.length), ← Nat.mul_assoc]
        exact Nat.mul_le_mul_right _ (by omega)
      · cases h
theorem addrL_lt {l : List UInt8} {n : Nat} (h : addrL l = some n) : n < 4294967296 := by
  rw [addrL_eq] at h
  split at h
  · rename_i hl
    have h1 := foldParts_lt _ _ _ h
    have h2 : (0 + 1) * 256 ^ (partsL 46 l).length = 4294967296 := by rw [hl]
    rw [h2] at h1
    exact h1
  · cases h

/-- an address and a length -/
def netL (l : List UInt8) : Option (Nat × Nat) :=
  if 47 ∈ l then match addrL (l.take (before 47 l)), decL (l.drop (before 47 l + 1)) with
    | some a, some n => if 1 ≤ n ∧ n ≤ 32 then some (a, n) else none
    | _, _ => none
  else none
/-- as the document reads it -/
def netParts : List (List UInt8) → Option (Nat × Nat)
  | [p, q] => match addrL p, decL q with
    | some a, some n => if 1 ≤ n ∧ n ≤ 32 then some (a, n) else none
    | _, _ => none
  | _ => none
theorem netL_eq (l : List UInt8) : netL l = netParts (partsL 47 l) := by
  unfold netL
  by_cases h : 47 ∈ l
  · rw [if_pos h, partsL_yes h]
    by_cases h2 : 47 ∈ l.drop (before 47 l + 1)
    · have hd : decL (l.drop (before 47 l + 1)) = none := by
        cases hd : decL (l.drop (before 47 l + 1)) with
        | none => rfl
        | some n => exact (decL_no hd (c := 47) (by decide) h2).elim
      rw [hd, partsL_yes h2]
      have hne := partsL_ne 47 ((l.drop (before 47 l + 1)).drop (before 47 (l.drop (before 47 l + 1)) + 1))
      cases hq : partsL 47 ((l.drop (before 47 l + 1)).drop (before 47 (l.drop (before 47 l + 1)) + 1)) with
      | nil => exact (hne hq).elim
      | cons a b => cases addrL (l.take (before 47 l)) <;> rfl
    · rw [partsL_no h2]; rfl
  · rw [if_neg h, partsL_no h]; rfl
end Go.Proofs.YtdannodhlaaoiaaGreatDoor
