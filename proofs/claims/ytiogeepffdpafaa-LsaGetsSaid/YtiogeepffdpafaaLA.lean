/- wire: Lay16, Lay32, Read, walked. -/
import Derived.Test.YtiogeepffdpafaaSUB
namespace Go.Proofs.Ytiogeepffdpafaa
open Go.RowKit

theorem ofNat_mod (m : Nat) : bv (UInt8.ofNat m) = .int .u8 ((m : Int) % 256) := (bv_ofNat m).symm
theorem be2 (n : Nat) : be 2 n = [UInt8.ofNat (n / 256), UInt8.ofNat n] := by simp [be]
theorem be4 (n : Nat) : be 4 n = [UInt8.ofNat (n / 16777216), UInt8.ofNat (n / 65536), UInt8.ofNat (n / 256), UInt8.ofNat n] := by simp [be]
theorem Grown.trans {w wr w2 : World} {v : Value} {q q2 : Option Addr} {n n2 d d2 : Nat} (h : Grown w v q n d wr) (g : Grown wr (.slice q n d) q2 n2 d2 w2) : Grown w v q2 n2 d2 w2 :=
  ⟨h.k.trans' g.k (fun i e => h.s i e), fun k e => by
    rcases g.s k e with e | e
    · exact h.s k e
    · exact .inr (Nat.le_trans h.k.size e)⟩
theorem lt_own {w0 w : World} {v : Value} {xs : List UInt8} (h : OwnB w0 w v xs) (k : Nat) (e : v.ownBlock = some k) : k < w.heap.size := by
  rcases h.1.2 with ⟨rfl, _⟩ | ⟨g, cap, cur, rfl, _, hg, _⟩
  · simp [Value.ownBlock] at e
  · simp only [Value.ownBlock, Option.some.injEq] at e; subst e; exact lt_of_block hg
/-- a call that appends l to a row of bytes of the call's own (own since w0) -/
def Appends (w0 : World) (v : Value) (xs l : List UInt8) (w : World) (e : Ending) (w' : World) : Prop :=
  ∃ p c, e = .returned (.slice p (xs.length + l.length) c) ∧ OwnB w0 w' (.slice p (xs.length + l.length) c) (xs ++ l) ∧ Grown w v p (xs.length + l.length) c w'

set_option maxRecDepth 100000 in
theorem wiLay16_any (w0 : World) (v : Value) (xs : List UInt8) (n : Nat) (hn : n < 65536) (hx : xs.length ≤ 1000000) (w : World) (h : Hid (OwnB w0 w v xs)) :
    Calls Try.prog 67 #[v, .int .u16 n] w (Appends w0 v xs (be 2 n) w) := by
  obtain ⟨i0, hi0, hz0, hz1, hz2⟩ := info_parts u8InfoAll
  have hsrc : Hid (BytesAt (w.alloc (.cells #[.int .u8 ((n : Int) / 256), .int .u8 ((n : Int) % 256)] 5)) (.slice (some ⟨w.heap.size, 0, none⟩) 2 2) (be 2 n)) := Lib.hid (by
    have := (OwnB.new w w (Nat.le_refl _) (be 2 n) (n := 2) rfl (by unfold maxLen; omega)).bytes
    rw [be2, List.map_cons, List.map_cons, List.map_nil, ofNat_mod, ofNat_mod, show ((n / 256 : Nat) : Int) % 256 = (n : Int) / 256 by omega] at this
    rw [be2]; exact this)
  have hO := Lib.hid (h.out.keep ((Keeps.refl (fun _ => False) _).alloc (.cells #[.int .u8 ((n : Int) / 256), .int .u8 ((n : Int) % 256)] 5)) (fun _ _ f => f))
  have hb := Lib.hid (be_len 2 n)
  obtain ⟨pv, cv, rfl⟩ := h.out.slice
  go_enter Try.func67, Try.ntmps67
  go_wp2_with ((with_reducible refine at_slot 12 ?_); refine wpList_append_b rfl (.tmp 5) (.tmp 11) 29 rfl i0 Try.underlying29 hi0 hz0 hz1 hz2 w0 _ xs rfl hO.out _ rfl (be 2 n) hsrc.out (by rw [hb.out]; omega) ?_; intro q d w1 hO1 hG1)
  go_ret
  exact ⟨q, d, rfl, hO1.out, ((Keeps.refl _ _).alloc _).trans' hG1.out.k (fun i e => .inl e), fun k e => (hG1.out.s k e).imp id (fun h => by simp at h; omega)⟩
set_option maxRecDepth 100000 in
theorem wiLay32_any (w0 : World) (v : Value) (xs : List UInt8) (n : Nat) (hn : n < 4294967296) (hx : xs.length ≤ 1000000) (w : World) (h : Hid (OwnB w0 w v xs)) :
    Calls Try.prog 97 #[v, .int .u32 n] w (Appends w0 v xs (be 4 n) w) := by
  obtain ⟨i0, hi0, hz0, hz1, hz2⟩ := info_parts u8InfoAll
  have hsrc : Hid (BytesAt (w.alloc (.cells #[.int .u8 ((n : Int) / 16777216), .int .u8 ((n : Int) / 65536 % 256), .int .u8 ((n : Int) / 256 % 256), .int .u8 ((n : Int) % 256)] 5)) (.slice (some ⟨w.heap.size, 0, none⟩) 4 4) (be 4 n)) := Lib.hid (by
    have := (OwnB.new w w (Nat.le_refl _) (be 4 n) (n := 4) rfl (by unfold maxLen; omega)).bytes
    rw [be4, List.map_cons, List.map_cons, List.map_cons, List.map_cons, List.map_nil, ofNat_mod, ofNat_mod, ofNat_mod, ofNat_mod, show ((n / 16777216 : Nat) : Int) % 256 = (n : Int) / 16777216 by omega] at this
    rw [be4]; exact this)
  have hO := Lib.hid (h.out.keep ((Keeps.refl (fun _ => False) _).alloc (.cells #[.int .u8 ((n : Int) / 16777216), .int .u8 ((n : Int) / 65536 % 256), .int .u8 ((n : Int) / 256 % 256), .int .u8 ((n : Int) % 256)] 5)) (fun _ _ f => f))
  have hb := Lib.hid (be_len 4 n)
  obtain ⟨pv, cv, rfl⟩ := h.out.slice
  go_enter Try.func97, Try.ntmps97
  go_wp2_with ((with_reducible refine at_slot 18 ?_); refine wpList_append_b rfl (.tmp 5) (.tmp 17) 29 rfl i0 Try.underlying29 hi0 hz0 hz1 hz2 w0 _ xs rfl hO.out _ rfl (be 4 n) hsrc.out (by rw [hb.out]; omega) ?_; intro q d w1 hO1 hG1)
  go_ret
  exact ⟨q, d, rfl, hO1.out, ((Keeps.refl _ _).alloc _).trans' hG1.out.k (fun i e => .inl e), fun k e => (hG1.out.s k e).imp id (fun h => by simp at h; omega)⟩

theorem or_low32 (m : Nat) (c : UInt8) (hm : m * 256 < 4294967296) : bits .or .u32 ((m : Int) * 256) (c.toNat : Int) = ((m * 256 + c.toNat : Nat) : Int) := by
  have hc := c.toNat_lt
  have h := u32_or_nat (m * 256) c.toNat hm (by omega)
  rw [or_low, show ((m * 256 : Nat) : Int) = (m : Int) * 256 by omega] at h
  exact h
set_option maxHeartbeats 1000000 in
theorem wiRead_any (sl : Value) (l : List UInt8) (hl : l.length ≤ 4) (w : World) (h : Hid (BytesAt w sl l)) :
    Calls Try.prog 65 #[sl] w fun e w' => e = .returned (.int .u32 (beVal l : Nat)) ∧ w = w' := by
  obtain ⟨p, c, rfl, -, -, hb⟩ := h.out
  have hb' := Lib.hid hb; clear hb h
  go_enter Try.func65, Try.ntmps65
  go_wp2
  go_loop [3, 8] (fun nv iv => ∃ k : Nat, k ≤ l.length ∧ nv = .int .u32 (beVal (l.take k) : Nat) ∧ iv = .int .i64 k) (fun _ iv => 4 - (intOf iv).toNat)
  case atStart => exact ⟨0, by omega, by simp [beVal], rfl⟩
  case round =>
    obtain ⟨k, hk, rfl, rfl⟩ := hrel
    by_cases hlk : k < l.length
    · obtain ⟨g, o, rfl, hr⟩ := hb'.out (by omega)
      have hc := drop_cell hr k hlk
      have hs : beVal (l.take (k + 1)) = beVal (l.take k) * 256 + (l[k]).toNat := by
        rw [List.take_succ_eq_append_getElem (by omega), beVal_snoc]
      have hs' := Lib.hid hs; clear hs
      have hm : beVal (l.take k) < 16777216 := by
        have h1 := beVal_lt (l.take k)
        have h2 : (l.take k).length ≤ 3 := by simp; omega
        have h3 : 256 ^ (l.take k).length ≤ 256 ^ 3 := Nat.pow_le_pow_right (by omega) h2
        omega
      have hx := (l[k]).toNat_lt
      obtain ⟨m, hmm⟩ : ∃ m, m = beVal (l.take k) := ⟨_, rfl⟩
      rw [← hmm] at hm hs' ⊢
      have ho := or_low32 m l[k] (by omega)
      clear hmm hr
      go_wp2
      exact ⟨⟨k + 1, by omega, by rw [hs'.out]; go_num, by go_num⟩, by simp [intOf]; omega⟩
    · obtain rfl : k = l.length := by omega
      rw [List.take_length]
      go_wp2
      go_ret
      exact ⟨rfl, rfl⟩
theorem wiRead_r (sl : Value) (l : List UInt8) (n : Nat) (hl : l.length ≤ 4) (w : World) (h : Hid (BytesAt w sl l)) (hn : Hid (beVal l = n)) :
    Calls Try.prog 65 #[sl] w fun e w' => e = .returned (.int .u32 n) ∧ w = w' := by
  rw [← hn.out]; exact wiRead_any sl l hl w h

/-! rows of numbers of 32 bits -/
def nv (n : Nat) : Value := .int .u32 n
theorem nv_one (l : List Nat) : ∀ v ∈ l.map nv, v.oneCell' = true := by
  intro v hv; obtain ⟨x, _, rfl⟩ := List.mem_map.1 hv; rfl
theorem u32InfoAll : (Try.prog.info? 22).map (fun i => (i.zero, i.size, i.bytes)) = some (some (.int .u32 0), 1, 4) := by kernel_rfl
def Small (ns : List Nat) : Prop := ∀ n ∈ ns, n < 4294967296
/-- a slice of numbers reads as these -/
def NumsAt (w : World) (v : Value) (ns : List Nat) : Prop :=
  ∃ p c, v = .slice p ns.length c ∧ (p = none → c = 0) ∧ ns.length ≤ c ∧ (0 < ns.length → ∃ b o, p = some ⟨b, o, none⟩ ∧ w.rangeAt b o (ns.map nv))
theorem NumsAt.keepF {F : Nat → Prop} {w w' : World} {v : Value} {x : List Nat} (h : NumsAt w v x) (k : Keeps F w w') (hF : 0 < x.length → ∀ i, v.ownBlock = some i → ¬ F i) : NumsAt w' v x := by
  obtain ⟨p, c, rfl, hp, hc, h⟩ := h
  exact ⟨p, c, rfl, hp, hc, fun h0 => by obtain ⟨b, o, rfl, hr⟩ := h h0; exact ⟨b, o, rfl, k.rangeAt hr (hF h0 b rfl)⟩⟩
theorem NumsAt.keep {w w' : World} {v : Value} {x : List Nat} (h : NumsAt w v x) (k : Keeps (fun _ => False) w w') : NumsAt w' v x := h.keepF k (fun _ _ _ f => f)
theorem NumsAt.nil (w : World) : NumsAt w (.slice none 0 0) [] := ⟨none, 0, rfl, fun _ => rfl, Nat.le_refl _, fun h => by simp at h⟩
/-- the bytes of numbers, four each -/
def bes (ns : List Nat) : List UInt8 := ns.flatMap (be 4)
theorem bes_len (ns : List Nat) : (bes ns).length = 4 * ns.length := by
  induction ns with
  | nil => rfl
  | cons n ns ih => unfold bes at *; rw [List.flatMap_cons, List.length_append, ih, be_len, List.length_cons]; omega
theorem bes_snoc (ns : List Nat) (n : Nat) : bes (ns ++ [n]) = bes ns ++ be 4 n := by unfold bes; simp

set_option maxRecDepth 100000 in
set_option maxHeartbeats 1000000 in
theorem wiLayAll_any (w0 : World) (v : Value) (xs : List UInt8) (sv : Value) (ns : List Nat) (hs : Hid (Small ns)) (hx : xs.length + 4 * ns.length ≤ 1000000) (w : World) (h : Hid (OwnB w0 w v xs)) (hn : Hid (NumsAt w sv ns)) (hsep : Hid (0 < ns.length → ∀ k, sv.ownBlock = some k → v.ownBlock ≠ some k ∧ k < w.heap.size)) :
    Calls Try.prog 68 #[v, sv] w (Appends w0 v xs (bes ns) w) := by
  obtain ⟨pv, cv, rfl⟩ := h.out.slice
  obtain ⟨p, c, rfl, -, -, hb⟩ := hn.out
  have hb' := Lib.hid hb; clear hb
  go_enter Try.func68, Try.ntmps68
  go_wp2
  go_loopw [0, 9] (fun bw iv wr => ∃ k : Nat, k ≤ ns.length ∧ iv = .int .i64 k ∧ Hid (∃ q d, bw = .slice q (xs.length + 4 * k) d ∧ OwnB w0 wr bw (xs ++ bes (ns.take k)) ∧ Grown w (.slice pv xs.length cv) q (xs.length + 4 * k) d wr)) (fun _ iv _ => ns.length - (intOf iv).toNat)
  case atStart => exact ⟨0, by omega, rfl, Lib.hid ⟨pv, cv, rfl, by simpa [bes] using h.out, Keeps.refl _ _, fun k e => .inl e⟩⟩
  case round =>
    obtain ⟨k, hk, rfl, hrow⟩ := hrel
    obtain ⟨q, d, rfl, hO, hG⟩ := hrow.out
    have hO' := Lib.hid hO; have hG' := Lib.hid hG
    have hlen : (xs ++ bes (ns.take k)).length = xs.length + 4 * k := by rw [List.length_append, bes_len]; simp; omega
    clear hO hG hrow
    by_cases hlk : k < ns.length
    · obtain ⟨g, o, rfl, hr⟩ := hb'.out (by omega)
      have hr1 : wr.rangeAt g o (ns.map nv) := hG'.out.k.rangeAt hr (fun e => (hsep.out (by omega) g rfl).1 e)
      have hcell : wr.cell? ⟨g, o + k, none⟩ = some (.int .u32 (ns[k] : Nat)) := hr1 k _ (by simp [hlk, nv])
      have hlt : ns[k] < 4294967296 := hs.out _ (List.getElem_mem hlk)
      have hbs := bes_snoc (ns.take k) ns[k]
      rw [← List.take_succ_eq_append_getElem hlk] at hbs
      have hbs' := Lib.hid hbs; have hlen' := Lib.hid hlen
      clear hr hr1 hbs hlen
      go_wp2_with fail
      refine (wiLay32_any w0 _ (xs ++ bes (ns.take k)) ns[k] hlt (by rw [hlen'.out]; omega) _ hO').mono ?_
      rintro e w2 ⟨q2, d2, rfl, hO2, hG2⟩
      rw [hlen'.out, be_len] at *
      have hO2' := Lib.hid hO2; have hG2' := Lib.hid hG2
      clear hO2 hG2
      go_wp2_with fail
      exact ⟨⟨k + 1, by omega, by go_num, Lib.hid ⟨q2, d2, by rw [show xs.length + 4 * (k + 1) = xs.length + 4 * k + 4 by omega], by rw [hbs'.out, ← List.append_assoc]; exact hO2'.out, by rw [show xs.length + 4 * (k + 1) = xs.length + 4 * k + 4 by omega]; exact hG'.out.trans hG2'.out⟩⟩, by simp [intOf]; omega⟩
    · obtain rfl : k = ns.length := by omega
      go_wp2
      go_ret
      have hn2 := bes_len ns
      rw [List.take_length] at hO'
      exact ⟨q, d, by rw [hn2]; rfl, by rw [hn2]; exact hO'.out, by rw [hn2]; exact hG'.out⟩
end Go.Proofs.Ytiogeepffdpafaa
