/- strings.Index, Contains, Cut at a separator of one byte. -/
import Derived.Test.YtdjmhjgfjbcdkaaLXB
import Derived.Lib.Bytealg
import Derived.Laws.Externs
import Derived.Deep.Draws
namespace Go.Proofs.Ytdjmhjgfjbcdkaa
open Go.RowKit

/-- how many bytes stand ahead of the first c -/
def before (c : UInt8) (l : List UInt8) : Nat := (l.takeWhile (fun x => x != c)).length
theorem before_le (c : UInt8) (l : List UInt8) : before c l ≤ l.length := (List.takeWhile_sublist _).length_le
theorem before_lt {c : UInt8} {l : List UInt8} (h : c ∈ l) : before c l < l.length := by
  induction l with
  | nil => cases h
  | cons b l ih =>
    unfold before
    rw [List.takeWhile_cons]
    by_cases e : b = c
    · subst e; simp
    · rw [if_pos (by simpa using e)]
      have := ih (by rcases List.mem_cons.1 h with h | h; exact (e h.symm).elim; exact h)
      unfold before at this
      simp; omega
theorem indexByte_eq (l : List UInt8) (c : UInt8) : Lib.indexByte l c = if c ∈ l then ((before c l : Nat) : Int) else -1 := by
  induction l with
  | nil => simp [Lib.indexByte]
  | cons b l ih =>
    unfold Lib.indexByte
    by_cases h : b = c
    · subst h; simp [before]
    · have h1 : (b == c) = false := by simpa using h
      rw [h1, ih]
      have hb : before c (b :: l) = before c l + 1 := by unfold before; rw [List.takeWhile_cons, if_pos (by simpa using h)]; rfl
      by_cases hm : c ∈ l
      · have : c ∈ b :: l := by simp [hm]
        rw [if_pos hm, if_pos this, hb]
        have : (((before c l : Nat) : Int) == -1) = false := by rw [beq_eq_false_iff_ne]; omega
        simp [this]
      · have : ¬ c ∈ b :: l := by simp [hm, Ne.symm h]
        rw [if_neg hm, if_neg this]; simp

set_option maxRecDepth 100000 in
theorem sliteIndexByte_any (s : ByteArray) (c : UInt8) (w : World) :
    Calls Try.prog 75 #[.string s, .int .u8 (c.toNat : Nat)] w fun e w' => e = .returned (.int .i64 (Lib.indexByte s.data.toList c)) ∧ w = w' := by
  have hc : ((c.toNat : Nat) : Int).toNat.toUInt8 = c := by simp
  have hc' := Lib.hid hc; clear hc
  go_enter Try.func75, Try.ntmps75
  go_wp2
  rw [run_callFunc_extern Try.func79 (by kernel_rfl) (by kernel_rfl) (by kernel_rfl) (e := Extern.BytealgIndexByte.indexByte) (by kernel_rfl), Lib.run_indexByteString, hc'.out]
  simp only [Result.andThen]
  rw [Oper.upon_value]
  go_wp2
  go_ret
  exact ⟨rfl, rfl⟩

set_option maxRecDepth 100000 in
set_option maxHeartbeats 1000000 in
theorem sliteIndex_one (s : ByteArray) (c : UInt8) (r : Int) (w : World) (hr : Hid (Lib.indexByte s.data.toList c = r)) :
    Calls Try.prog 74 #[.string s, .string ⟨#[c]⟩] w fun e w' => e = .returned (.int .i64 r) ∧ w = w' := by
  go_enter Try.func74, Try.ntmps74
  go_wp2_with (go_at_call 75; refine (sliteIndexByte_any s c _).mono ?_; rintro e w' ⟨rfl, rfl⟩)
  · have h : ([c] == s.toList) = true := by assumption
    have e : s.data.toList = [c] := by rw [← Lib.toList_data]; exact (beq_iff_eq.1 h).symm
    have hr0 : (0 : Int) = r := by rw [← hr.out, e]; simp [Lib.indexByte]
    go_ret
    exact ⟨ret_int hr0, rfl⟩
  · go_ret
    exact ⟨ret_int hr.out, rfl⟩
theorem stringsIndex_one (s : ByteArray) (c : UInt8) (r : Int) (w : World) (hr : Hid (Lib.indexByte s.data.toList c = r)) :
    Calls Try.prog 69 #[.string s, .string ⟨#[c]⟩] w fun e w' => e = .returned (.int .i64 r) ∧ w = w' := by
  go_enter Try.func69, Try.ntmps69
  go_wp2_with (go_at_call 74; refine (sliteIndex_one s c r _ hr).mono ?_; rintro e w' ⟨rfl, rfl⟩)
  go_ret
  exact ⟨rfl, rfl⟩
theorem stringsContains_one (s : ByteArray) (c : UInt8) (w : World) (b : Bool) (hb : Hid (decide (c ∈ s.data.toList) = b)) :
    Calls Try.prog 60 #[.string s, .string ⟨#[c]⟩] w fun e w' => e = .returned (.bool b) ∧ w = w' := by
  have he := indexByte_eq s.data.toList c
  cases b with
  | true =>
    have hm : c ∈ s.data.toList := by simpa using hb.out
    rw [if_pos hm] at he
    have he' := Lib.hid he; clear he hm hb
    go_enter Try.func60, Try.ntmps60
    go_wp2_with (go_at_call 69; refine (stringsIndex_one s c _ _ he').mono ?_; rintro e w' ⟨rfl, rfl⟩)
    go_ret
    exact ⟨rfl, rfl⟩
  | false =>
    have hm : ¬ c ∈ s.data.toList := by simpa using hb.out
    rw [if_neg hm] at he
    have he' := Lib.hid he; clear he hm hb
    go_enter Try.func60, Try.ntmps60
    go_wp2_with (go_at_call 69; refine (stringsIndex_one s c _ _ he').mono ?_; rintro e w' ⟨rfl, rfl⟩)
    go_ret
    exact ⟨rfl, rfl⟩
set_option maxRecDepth 100000 in
theorem sliteCut_no (s : ByteArray) (c : UInt8) (w : World) (hm : Hid (c ∉ s.data.toList)) :
    Calls Try.prog 72 #[.string s, .string ⟨#[c]⟩] w fun e w' => e = .returned (.tuple #[.string s, .string ⟨#[]⟩, .bool false]) ∧ w = w' := by
  have he := indexByte_eq s.data.toList c
  rw [if_neg hm.out] at he
  have he' := Lib.hid he; clear he
  go_enter Try.func72, Try.ntmps72
  go_wp2_with (go_at_call 74; refine (sliteIndex_one s c _ _ he').mono ?_; rintro e w' ⟨rfl, rfl⟩)
  go_ret3
  exact ⟨rfl, rfl⟩
set_option maxRecDepth 100000 in
theorem sliteCut_yes (s : ByteArray) (c : UInt8) (k : Nat) (w : World) (hs : s.size ≤ 9223372036854775807) (hm : Hid (c ∈ s.data.toList)) (hk : Hid (before c s.data.toList = k)) :
    Calls Try.prog 72 #[.string s, .string ⟨#[c]⟩] w fun e w' => e = .returned (.tuple #[.string (s.extract 0 k), .string (s.extract (k + 1) s.size), .bool true]) ∧ ∃ n, w' = w.drewN n := by
  have he := indexByte_eq s.data.toList c
  rw [if_pos hm.out, hk.out] at he
  have he' := Lib.hid he; clear he
  have hlt : k < s.size := by
    have := before_lt hm.out
    rw [hk.out] at this
    simpa using this
  go_enter Try.func72, Try.ntmps72
  go_wp2_with (go_at_call 74; refine (sliteIndex_one s c _ _ he').mono ?_; rintro e w' ⟨rfl, rfl⟩)
  go_quiet (fail)
  go_wp2
  go_ret3
  exact ⟨rfl, _, rfl⟩
theorem stringsCut_no (s : ByteArray) (c : UInt8) (w : World) (hm : Hid (c ∉ s.data.toList)) :
    Calls Try.prog 66 #[.string s, .string ⟨#[c]⟩] w fun e w' => e = .returned (.tuple #[.string s, .string ⟨#[]⟩, .bool false]) ∧ w = w' := by
  go_enter Try.func66, Try.ntmps66
  go_wp2_with (go_at_call 72; refine (sliteCut_no s c _ hm).mono ?_; rintro e w' ⟨rfl, rfl⟩)
  go_ret3
  exact ⟨rfl, rfl⟩
theorem stringsCut_yes (s : ByteArray) (c : UInt8) (k : Nat) (w : World) (hs : s.size ≤ 9223372036854775807) (hm : Hid (c ∈ s.data.toList)) (hk : Hid (before c s.data.toList = k)) :
    Calls Try.prog 66 #[.string s, .string ⟨#[c]⟩] w fun e w' => e = .returned (.tuple #[.string (s.extract 0 k), .string (s.extract (k + 1) s.size), .bool true]) ∧ ∃ n, w' = w.drewN n := by
  go_enter Try.func66, Try.ntmps66
  go_wp2_with (go_at_call 72; refine (sliteCut_yes s c k _ hs hm hk).mono ?_; rintro e w' ⟨rfl, n, rfl⟩)
  go_ret3
  exact ⟨rfl, n, rfl⟩
/-- what stands ahead of the first c, and behind it -/
def CutAt (c : UInt8) (s X Y : ByteArray) : Prop := c ∈ s.data.toList ∧ X.data.toList = s.data.toList.take (before c s.data.toList) ∧ Y.data.toList = s.data.toList.drop (before c s.data.toList + 1) ∧ X.size ≤ s.size ∧ Y.size ≤ s.size
theorem cutAt_ex {c : UInt8} {s : ByteArray} (h : c ∈ s.data.toList) : ∃ X Y, CutAt c s X Y ∧ X = s.extract 0 (before c s.data.toList) ∧ Y = s.extract (before c s.data.toList + 1) s.size :=
  ⟨_, _, ⟨h, by rw [Lib.extract_data]; simp, by rw [Lib.extract_data]; exact List.take_of_length_le (by simp), by rw [ByteArray.size_extract]; omega, by rw [ByteArray.size_extract]; omega⟩, rfl, rfl⟩
theorem cutAt_eq {c : UInt8} {s X Y : ByteArray} (h : CutAt c s X Y) : X = s.extract 0 (before c s.data.toList) ∧ Y = s.extract (before c s.data.toList + 1) s.size := by
  obtain ⟨X', Y', h', hX, hY⟩ := cutAt_ex h.1
  have e : ∀ a b : ByteArray, a.data.toList = b.data.toList → a = b := fun a b e => by
    cases a with | mk a => cases b with | mk b => simp at e; rw [e]
  exact ⟨(e _ _ (h.2.1.trans h'.2.1.symm)).trans hX, (e _ _ (h.2.2.1.trans h'.2.2.1.symm)).trans hY⟩
theorem stringsCut_at (s : ByteArray) (c : UInt8) (X Y : ByteArray) (w : World) (hs : s.size ≤ 9223372036854775807) (h : Hid (CutAt c s X Y)) :
    Calls Try.prog 66 #[.string s, .string ⟨#[c]⟩] w fun e w' => e = .returned (.tuple #[.string X, .string Y, .bool true]) ∧ ∃ n, w' = w.drewN n := by
  obtain ⟨hX, hY⟩ := cutAt_eq h.out
  rw [hX, hY]
  exact stringsCut_yes s c _ w hs (Lib.hid h.out.1) (Lib.hid rfl)
end Go.Proofs.Ytdjmhjgfjbcdkaa
