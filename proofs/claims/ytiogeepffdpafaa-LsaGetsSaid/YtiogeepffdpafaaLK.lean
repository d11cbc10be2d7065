/- wire.Read of bytes of whatever count, ReadAll; lsa.readLinks: walked. -/
import Derived.Test.YtiogeepffdpafaaLJ
namespace Go.Proofs.Ytiogeepffdpafaa
open Go.RowKit

theorem or_low32m (m : Nat) (c : UInt8) : bits .or .u32 (((m * 256 % 4294967296 : Nat) : Int)) (c.toNat : Int) = (((m * 256 + c.toNat) % 4294967296 : Nat) : Int) := by
  have hc := c.toNat_lt
  have h := u32_or_nat (m * 256 % 4294967296) c.toNat (Nat.mod_lt _ (by omega)) (by omega)
  rw [show m * 256 % 4294967296 = (m % 16777216) * 256 by omega, or_low] at h
  rw [show m * 256 % 4294967296 = (m % 16777216) * 256 by omega, h]
  omega
set_option maxHeartbeats 1000000 in
theorem wiRead_mod (sl : Value) (l : List UInt8) (hl : l.length ≤ 9223372036854775807) (w : World) (h : Hid (BytesAt w sl l)) :
    Calls Try.prog 65 #[sl] w fun e w' => e = .returned (.int .u32 (beVal l % 4294967296 : Nat)) ∧ w = w' := by
  obtain ⟨p, c, rfl, -, -, hb⟩ := h.out
  have hb' := Lib.hid hb; clear hb h
  go_enter Try.func65, Try.ntmps65
  go_wp2
  go_loop [3, 8] (fun nv iv => ∃ k : Nat, k ≤ l.length ∧ nv = .int .u32 (beVal (l.take k) % 4294967296 : Nat) ∧ iv = .int .i64 k) (fun _ iv => l.length - (intOf iv).toNat)
  case atStart => exact ⟨0, by omega, by simp [beVal], rfl⟩
  case round =>
    obtain ⟨k, hk, rfl, rfl⟩ := hrel
    by_cases hlk : k < l.length
    · obtain ⟨g, o, rfl, hr⟩ := hb'.out (by omega)
      have hc := drop_cell hr k hlk
      have hs : beVal (l.take (k + 1)) % 4294967296 = (beVal (l.take k) % 4294967296 * 256 + (l[k]).toNat) % 4294967296 := by
        rw [List.take_succ_eq_append_getElem (by omega), beVal_snoc]; omega
      have hs' := Lib.hid hs; clear hs
      have hx := (l[k]).toNat_lt
      obtain ⟨m, hmm⟩ : ∃ m, m = beVal (l.take k) % 4294967296 := ⟨_, rfl⟩
      have hm : m < 4294967296 := by rw [hmm]; exact Nat.mod_lt _ (by omega)
      rw [← hmm] at hs' ⊢
      have ho := or_low32m m l[k]
      rw [show ((m * 256 % 4294967296 : Nat) : Int) = (m : Int) * 256 % 4294967296 by omega] at ho
      clear hmm hr
      go_wp2
      exact ⟨⟨k + 1, by omega, by rw [hs'.out]; go_num, by go_num⟩, by simp [intOf]; omega⟩
    · obtain rfl : k = l.length := by omega
      rw [List.take_length]
      go_wp2
      go_ret
      exact ⟨rfl, rfl⟩
/-- numbers of the call's own -/
def OwnN (w0 w : World) (v : Value) (ns : List Nat) : Prop :=
  w.ownsRow 0 22 1 v ns.length (ns.map nv) ∧ (∀ k, v.ownBlock = some k → w0.heap.size ≤ k) ∧ w0.heap.size ≤ w.heap.size
theorem OwnN.nil (w0 w : World) (h : w0.heap.size ≤ w.heap.size) : OwnN w0 w (.slice none 0 0) [] := ⟨⟨rfl, .inl ⟨rfl, rfl⟩⟩, by simp [Value.ownBlock], h⟩
theorem OwnN.slice {w0 w : World} {v : Value} {xs : List Nat} (h : OwnN w0 w v xs) : ∃ p c, v = .slice p xs.length c := ownsRow_slice h.1
theorem OwnN.keep {F : Nat → Prop} {w0 w w' : World} {v : Value} {xs : List Nat} (h : OwnN w0 w v xs) (k : Keeps F w w') (hF : ∀ i, v.ownBlock = some i → ¬ F i) : OwnN w0 w' v xs :=
  ⟨k.ownsRow h.1 hF, h.2.1, Nat.le_trans h.2.2 k.size⟩
theorem OwnN.at {w0 w : World} {v : Value} {x : List Nat} (h : OwnN w0 w v x) : NumsAt w v x := by
  obtain ⟨p, c, rfl⟩ := h.slice
  rcases h.1.2 with ⟨e, h2⟩ | ⟨g, cap, cur, he, _, _, hle, _⟩
  · injection e with e1 e2 e3; subst e1; subst e3
    exact ⟨none, 0, rfl, fun _ => rfl, by omega, fun h0 => by omega⟩
  · injection he with e1 e2 e3
    subst e1; subst e3
    refine ⟨_, _, rfl, fun h => (by cases h), hle, fun h0 => ⟨g, 0, rfl, fun j u hu => ?_⟩⟩
    have := h.1.cells (g := g) rfl j u hu
    rw [Addr.add_mid] at this
    exact this
theorem OwnN.push {w0 w wb w1 : World} {v : Value} {xs : List Nat} (h : OwnN w0 wb v xs) (x : Nat) {p : Option Addr} {c : Nat}
    (ho : wb.grownBy w1 v.ownBlock) (h2 : w1.ownsRow 0 22 1 (.slice p (xs.length + 1) c) (xs.length + 1) (xs.map nv ++ [nv x]))
    (hs : ∀ k, (Value.slice p (xs.length + 1) c).ownBlock = some k → v.ownBlock = some k ∨ wb.heap.size ≤ k) (hk : Keeps (fun _ => False) w0 wb) (_ : w = w) :
    OwnN w0 w1 (.slice p (xs.length + 1) c) (xs ++ [x]) ∧ Keeps (fun _ => False) w0 w1 := by
  refine ⟨⟨by simpa using h2, fun k e => ?_, Nat.le_trans h.2.2 ho.size⟩, hk.grown ho (fun k e => .inr (h.2.1 k e))⟩
  rcases hs k e with e | e
  · exact h.2.1 k e
  · exact Nat.le_trans h.2.2 e
def readN (l : List UInt8) (j : Nat) : List Nat := (List.range j).map fun i => beVal (sub l (4 * i) 4)
theorem readN_len (l : List UInt8) (j : Nat) : (readN l j).length = j := by unfold readN; simp
theorem readN_succ (l : List UInt8) (j : Nat) : readN l (j + 1) = readN l j ++ [beVal (sub l (4 * j) 4)] := by unfold readN; simp [List.range_succ]
set_option maxRecDepth 100000 in
set_option maxHeartbeats 1000000 in
theorem wiReadAll_any (p : Option Addr) (c : Nat) (l : List UInt8) (hl : l.length ≤ 1000000) (w : World) (h : Hid (BytesAt w (.slice p l.length c) l)) :
    Calls Try.prog 100 #[.slice p l.length c] w fun e w' => ∃ q d, e = .returned (.slice q (l.length / 4) d) ∧ OwnN w w' (.slice q (l.length / 4) d) (readN l (l.length / 4)) ∧ Keeps (fun _ => False) w w' := by
  obtain ⟨i0, hi0, hz0, hz1, hz2⟩ := info_parts u32InfoAll
  obtain ⟨p', c', e', -, hc, hb⟩ := h.out
  injection e' with e1 e2 e3; subst e1; subst e3
  have hb' := Lib.hid hb; clear hb h
  go_enter Try.func100, Try.ntmps100
  go_wp2
  go_loopw [0, 3] (fun bw nw wr => ∃ (j : Nat) (pp : Option Addr), 4 * j ≤ l.length ∧ bw = .slice pp (l.length - 4 * j) (c - 4 * j) ∧ Hid (4 * j < l.length → ∃ g o, pp = some ⟨g, o + 4 * j, none⟩ ∧ w.rangeAt g o (l.map bv)) ∧ Hid (OwnN w wr nw (readN l j) ∧ Keeps (fun _ => False) w wr)) (fun bw _ _ => match bw with | .slice _ n _ => n | _ => 0)
  case atStart => exact ⟨0, p, by omega, rfl, Lib.hid (fun h => by obtain ⟨g, o, rfl, hr⟩ := hb'.out (by omega); exact ⟨g, o, rfl, hr⟩), Lib.hid ⟨OwnN.nil _ _ (Nat.le_refl _), Keeps.refl _ _⟩⟩
  case round =>
    obtain ⟨j, pp, hj, rfl, hpp, hO⟩ := hrel
    obtain ⟨q, d, hq⟩ := hO.out.1.slice
    rw [readN_len] at hq
    subst hq
    by_cases h4 : 4 * j + 4 ≤ l.length
    · obtain ⟨g, o, rfl, hr⟩ := hpp.out (by omega)
      have hrw : Hid (wr.rangeAt g o (l.map bv)) := Lib.hid (hO.out.2.rangeAt hr id)
      obtain ⟨n, hn⟩ : ∃ n, beVal (sub l (4 * j) 4) = n := ⟨_, rfl⟩
      have hs4 : (sub l (4 * j) 4).length ≤ 4 := by rw [sub_len (by omega)]; omega
      have hbs := Lib.hid (bytes_sub hrw.out hc (4 * j) 4 (by omega))
      have hr0 := Lib.hid hr
      have hrs := readN_succ l j
      rw [hn] at hrs
      have hrs' := Lib.hid hrs; have hn' := Lib.hid hn
      have hOl := Lib.hid (hO.out.1.keep ((Keeps.refl (fun _ => False) _).alloc (.cells #[.int .u32 n] 22)) (fun _ _ f => f))
      have hKl := Lib.hid (hO.out.2.alloc (.cells #[.int .u32 n] 22))
      have hrl := Lib.hid (readN_len l j)
      clear hr hrs hn hO hpp
      go_wp2_with fail
      refine (wiRead_r _ (sub l (4 * j) 4) n hs4 _ hbs hn').mono ?_
      rintro e w' ⟨rfl, rfl⟩
      go_wp2_with ((with_reducible refine at_slot 14 ?_); refine wpList_append_sep rfl (.tmp 9) (.tmp 13) 26 rfl 22 i0 (.int .u32 0) 1 4 Try.underlying26 hi0 hz0 hz1 hz2 rfl (by decide) _ j ((readN l j).map nv) rfl (by have := hOl.out.1; rw [hrl.out] at this; exact this) ⟨wr.heap.size, 0, none⟩ 1 1 [.int .u32 n] rfl rfl (cells_one rfl _ _) (by simp [Value.oneCell']) (by unfold maxLen; omega) (by omega) ?_; intro q2 d2 w1 ho1 hg1 hs1; have ho := Lib.hid ho1; clear ho1; have hg := Lib.hid hg1; clear hg1)
      have hR := OwnN.push (w := w) hOl.out n (p := q2) (c := d2) hg.out (by rw [hrl.out]; exact ho.out) (by rw [hrl.out]; exact hs1.out) hKl.out rfl
      rw [hrl.out] at hR
      refine ⟨⟨j + 1, if c - 4 * j = 4 then some ⟨g, o + 4 * j, none⟩ else some ⟨g, o + 4 * j + 4, none⟩, by omega, ?_, Lib.hid (fun h => ⟨g, o, ?_, hr0.out⟩), Lib.hid ⟨by rw [hrs'.out]; exact hR.1, hR.2⟩⟩, ?_⟩
      · rw [show l.length - 4 * (j + 1) = l.length - 4 * j - 4 by omega, show c - 4 * (j + 1) = c - 4 * j - 4 by omega]
      · rw [if_neg (by omega)]; rfl
      · show l.length - 4 * j - 4 < l.length - 4 * j; omega
    · have hj2 : l.length / 4 = j := by omega
      have hO' := Lib.hid hO.out
      clear hO hpp
      go_wp2_with fail
      go_ret
      rw [hj2]
      exact ⟨q, d, rfl, hO'.out.1, hO'.out.2⟩
end Go.Proofs.Ytiogeepffdpafaa
