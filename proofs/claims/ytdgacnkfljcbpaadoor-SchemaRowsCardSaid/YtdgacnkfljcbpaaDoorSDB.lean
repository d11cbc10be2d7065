/- strconv.Itoa at small numbers; Dotted and Digits, the code's and the document's. -/
import Derived.Test.YtdgacnkfljcbpaaDoorSDA
import Derived.Test.YtdgacnkfljcbpaaDoorTab
namespace Go.Proofs.YtdgacnkfljcbpaaDoor
open Go.RowKit

/-- the table that strconv reads stands as it should -/
def TabOk (w : World) : Prop := Lib.TabIs Tryd.prog w "internal/strconv.uint64pow10" .u64 Lib.pow10Tab
theorem TabOk.keep {w w' : World} (h : TabOk w) (k : Keeps (fun _ => False) w w') : TabOk w' := by
  unfold TabOk Lib.TabIs World.var? at *
  cases hg : Tryd.prog.globalNamed "internal/strconv.uint64pow10" with
  | none => rw [hg] at h; cases h
  | some g =>
    rw [hg] at h
    simp only [Option.bind_some] at h ⊢
    cases hb : w.heap[g]? with
    | none => rw [hb] at h; cases h
    | some o => rw [k.block g (lt_of_block hb) id]; exact h
theorem TabOk.drewN {w : World} (h : TabOk w) (n : Nat) : TabOk (w.drewN n) := h.keep ((Keeps.refl _ _).drewN n)
theorem Keeps.grow {w0 w : World} (h : Keeps (fun _ => False) w0 w) (os : Array Obj) : Keeps (fun _ => False) w0 (Sort.grow w os) :=
  ⟨h.os, h.tape, h.output, by unfold Sort.grow; simp; have := h.size; omega, fun k hk hn => by
    rw [← h.block k hk hn]
    unfold Sort.grow
    exact Array.getElem?_append_left (by have := h.size; omega)⟩
theorem itoa_any (n : Nat) (w : World) (hn : n ≤ 999) (ht : Hid (TabOk w)) :
    Calls Tryd.prog 27 #[.int .i64 n] w (NewRes (strv (digs n)) w) :=
  (Tryd.strconv_Itoa n (by omega) (by omega) w ht.out).mono fun e w' ⟨he, k, os, hw⟩ => by
    subst he; subst hw
    exact ⟨by rw [itoa_digs]; rfl, ((Keeps.refl _ _).drewN k).grow os⟩

/-- what Dotted has behind j rounds -/
def dotPre (n : Nat) : Nat → List UInt8
  | 0 => []
  | 1 => digs (n / 16777216 % 256) ++ [46]
  | 2 => digs (n / 16777216 % 256) ++ [46] ++ digs (n / 65536 % 256) ++ [46]
  | 3 => digs (n / 16777216 % 256) ++ [46] ++ digs (n / 65536 % 256) ++ [46] ++ digs (n / 256 % 256) ++ [46]
  | _ => dotted n
theorem digs_len3 {n : Nat} (h : n < 256) : (digs n).length ≤ 3 := digs_len 3 n (by omega) (by omega)
theorem dotPre_len (n j : Nat) : (dotPre n j).length ≤ 15 := by
  have h1 := digs_len3 (n := n / 16777216 % 256) (by omega)
  have h2 := digs_len3 (n := n / 65536 % 256) (by omega)
  have h3 := digs_len3 (n := n / 256 % 256) (by omega)
  have h4 := digs_len3 (n := n % 256) (by omega)
  unfold dotPre
  split <;> simp [dotted, dottedOf] <;> omega
theorem strv_add (x y : List UInt8) : (⟨x.toArray⟩ : ByteArray) ++ ⟨y.toArray⟩ = ⟨(x ++ y).toArray⟩ := by
  apply ByteArray.ext; simp
theorem and255' (n : Nat) (hn : n < 4294967296) : bits .and .u32 (n : Int) 255 = ((n % 256 : Nat) : Int) := by
  have h := u32_and_nat n 255 hn (by omega)
  rw [show (255 : Nat) = 2 ^ 8 - 1 from rfl, Nat.and_two_pow_sub_one_eq_mod] at h
  exact h
theorem and255 (n d : Nat) (hn : n < 4294967296) : bits .and .u32 ((n : Int) / (d : Nat)) 255 = ((n / d % 256 : Nat) : Int) :=
  and255' (n / d) (Nat.lt_of_le_of_lt (Nat.div_le_self _ _) hn)
theorem itoa_D (n : Nat) (D : ByteArray) (w : World) (hn : n ≤ 999) (ht : Hid (TabOk w)) (hD : Hid (D = ⟨(digs n).toArray⟩)) :
    Calls Tryd.prog 27 #[.int .i64 n] w (NewRes (.string D) w) := by
  rw [hD.out]; exact itoa_any n w hn ht
set_option maxRecDepth 100000 in
set_option maxHeartbeats 1000000 in
theorem dotted_any (n : Nat) (w : World) (hn : n < 4294967296) (ht : Hid (TabOk w)) :
    Calls Tryd.prog 12 #[.int .u32 (n : Nat)] w (NewRes (strv (dotted n)) w) := by
  go_enter Tryd.func12, Tryd.ntmps12
  go_wp2
  go_loopw [3, 4] (fun sv iv wr => ∃ (j : Nat) (S : ByteArray), j ≤ 4 ∧ iv = .int .i64 (24 - 8 * (j : Int)) ∧ sv = .string S ∧ Hid (S.data.toList = dotPre n j) ∧ Hid (Keeps (fun _ => False) w wr)) (fun _ iv _ => (intOf iv + 8).toNat)
  case atStart => exact ⟨0, _, by omega, rfl, rfl, Lib.hid rfl, Lib.hid (Keeps.refl _ _)⟩
  case round =>
    obtain ⟨j, S, hj, rfl, rfl, hS, hk⟩ := hrel
    have hSl : S.size ≤ 15 := by
      have := dotPre_len n j
      rw [← hS.out] at this; simpa using this
    have ht' : Hid (TabOk wr) := Lib.hid (ht.out.keep hk.out)
    rcases (show j = 0 ∨ j = 1 ∨ j = 2 ∨ j = 3 ∨ j = 4 by omega) with rfl | rfl | rfl | rfl | rfl
    · rw [show (24 : Int) - 8 * ((0 : Nat) : Int) = 24 from rfl]
      obtain ⟨q, hq⟩ : ∃ q, q = n / 16777216 % 256 := ⟨_, rfl⟩
      have b0 : bits .and .u32 ((n : Int) / 16777216) 255 = (q : Int) := by rw [hq]; exact and255 n 16777216 hn
      have hq2 : q < 256 := by omega
      obtain ⟨D, hD⟩ : ∃ D : ByteArray, D = ⟨(digs q).toArray⟩ := ⟨_, rfl⟩
      have hDs : D.size ≤ 3 := by have := digs_len3 hq2; rw [hD]; exact this
      have hq' := Lib.hid hq; have hD' := Lib.hid hD; clear hq hD hj
      go_wp2_with (go_at_call 27; refine (itoa_D q D _ (by omega) ht' hD').mono ?_; rintro e w2 ⟨rfl, hk2⟩; have hk2' := Lib.hid hk2; clear hk2)
      exact ⟨⟨0 + 1, _, by omega, by rfl, rfl, Lib.hid (by rw [ByteArray.data_append, ByteArray.data_append, Array.toList_append, Array.toList_append, hS.out, hD'.out, hq'.out]; simp [dotPre, dotted, dottedOf]), Lib.hid (hk.out.trans hk2'.out)⟩, by simp [intOf]⟩
    · rw [show (24 : Int) - 8 * ((1 : Nat) : Int) = 16 from rfl]
      obtain ⟨q, hq⟩ : ∃ q, q = n / 65536 % 256 := ⟨_, rfl⟩
      have b0 : bits .and .u32 ((n : Int) / 65536) 255 = (q : Int) := by rw [hq]; exact and255 n 65536 hn
      have hq2 : q < 256 := by omega
      obtain ⟨D, hD⟩ : ∃ D : ByteArray, D = ⟨(digs q).toArray⟩ := ⟨_, rfl⟩
      have hDs : D.size ≤ 3 := by have := digs_len3 hq2; rw [hD]; exact this
      have hq' := Lib.hid hq; have hD' := Lib.hid hD; clear hq hD hj
      go_wp2_with (go_at_call 27; refine (itoa_D q D _ (by omega) ht' hD').mono ?_; rintro e w2 ⟨rfl, hk2⟩; have hk2' := Lib.hid hk2; clear hk2)
      exact ⟨⟨1 + 1, _, by omega, by rfl, rfl, Lib.hid (by rw [ByteArray.data_append, ByteArray.data_append, Array.toList_append, Array.toList_append, hS.out, hD'.out, hq'.out]; simp [dotPre, dotted, dottedOf]), Lib.hid (hk.out.trans hk2'.out)⟩, by simp [intOf]⟩
    · rw [show (24 : Int) - 8 * ((2 : Nat) : Int) = 8 from rfl]
      obtain ⟨q, hq⟩ : ∃ q, q = n / 256 % 256 := ⟨_, rfl⟩
      have b0 : bits .and .u32 ((n : Int) / 256) 255 = (q : Int) := by rw [hq]; exact and255 n 256 hn
      have hq2 : q < 256 := by omega
      obtain ⟨D, hD⟩ : ∃ D : ByteArray, D = ⟨(digs q).toArray⟩ := ⟨_, rfl⟩
      have hDs : D.size ≤ 3 := by have := digs_len3 hq2; rw [hD]; exact this
      have hq' := Lib.hid hq; have hD' := Lib.hid hD; clear hq hD hj
      go_wp2_with (go_at_call 27; refine (itoa_D q D _ (by omega) ht' hD').mono ?_; rintro e w2 ⟨rfl, hk2⟩; have hk2' := Lib.hid hk2; clear hk2)
      exact ⟨⟨2 + 1, _, by omega, by rfl, rfl, Lib.hid (by rw [ByteArray.data_append, ByteArray.data_append, Array.toList_append, Array.toList_append, hS.out, hD'.out, hq'.out]; simp [dotPre, dotted, dottedOf]), Lib.hid (hk.out.trans hk2'.out)⟩, by simp [intOf]⟩
    · rw [show (24 : Int) - 8 * ((3 : Nat) : Int) = 0 from rfl]
      obtain ⟨q, hq⟩ : ∃ q, q = n % 256 := ⟨_, rfl⟩
      have b0 : bits .and .u32 ((n : Int)) 255 = (q : Int) := by rw [hq]; exact and255' n hn
      have hq2 : q < 256 := by omega
      obtain ⟨D, hD⟩ : ∃ D : ByteArray, D = ⟨(digs q).toArray⟩ := ⟨_, rfl⟩
      have hDs : D.size ≤ 3 := by have := digs_len3 hq2; rw [hD]; exact this
      have hq' := Lib.hid hq; have hD' := Lib.hid hD; clear hq hD hj
      go_wp2_with (go_at_call 27; refine (itoa_D q D _ (by omega) ht' hD').mono ?_; rintro e w2 ⟨rfl, hk2⟩; have hk2' := Lib.hid hk2; clear hk2)
      exact ⟨⟨3 + 1, _, by omega, by rfl, rfl, Lib.hid (by rw [ByteArray.data_append, Array.toList_append, hS.out, hD'.out, hq'.out]; simp [dotPre, dotted, dottedOf]), Lib.hid (hk.out.trans hk2'.out)⟩, by simp [intOf]⟩
    · rw [show (24 : Int) - 8 * ((4 : Nat) : Int) = -8 from rfl]
      have hS' : Hid (Value.string S = strv (dotted n)) := Lib.hid (by
        have := hS.out
        have e : dotPre n 4 = dotted n := rfl
        rw [e] at this
        unfold strv
        rw [← this])
      go_wp2
      go_ret
      exact ⟨by rw [← hS'.out]; rfl, hk.out⟩
end Go.Proofs.YtdgacnkfljcbpaaDoor
