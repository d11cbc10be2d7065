/- Headers as bytes: the document's PutHeader, walked. -/
import Derived.Test.YtdaongflpllfhaaLS02
import Derived.Deep.DeepCutAuto
import Derived.Deep.MidRow
set_option linter.unusedVariables false
set_option linter.unusedSimpArgs false
namespace Go.Proofs.Ytdaongflpllfhaa
open Go.RowKit

/-- a header, plain -/
structure HeadD where
  age : Int
  type : Int
  id : Nat
  adv : Nat
  seq : Int
  sum : Nat
  len : Int
def headV (h : HeadD) : Value := .agg #[.int .i64 h.age, .int .i64 h.type, .int .u32 h.id, .int .u32 h.adv, .int .i64 h.seq, .int .u16 h.sum, .int .i64 h.len]

theorem load_int (w : World) (b o : Nat) (v : Value) (h : w.cell? ⟨b, o, none⟩ = some v) : (loadVar 3 ⟨b, o, none⟩).run Try.prog w = .ok v w := by simp [go_sem, h]
theorem load_u32 (w : World) (b o : Nat) (v : Value) (h : w.cell? ⟨b, o, none⟩ = some v) : (loadVar 23 ⟨b, o, none⟩).run Try.prog w = .ok v w := by simp [go_sem, h]
theorem load_u16 (w : World) (b o : Nat) (v : Value) (h : w.cell? ⟨b, o, none⟩ = some v) : (loadVar 80 ⟨b, o, none⟩).run Try.prog w = .ok v w := by simp [go_sem, h]
theorem load_u8 (w : World) (b o : Nat) (v : Value) (h : w.cell? ⟨b, o, none⟩ = some v) : (loadVar 5 ⟨b, o, none⟩).run Try.prog w = .ok v w := by simp [go_sem, h]
theorem bv_lt (n : Nat) (h : n < 256) : bv (UInt8.ofNat n) = .int .u8 (n : Int) := by
  unfold bv
  have : (UInt8.ofNat n).toNat = n := by simp; omega
  rw [this]
theorem u64_wrap (n : Int) : IntKind.u64.wrap n = n % 18446744073709551616 := by
  unfold IntKind.wrap
  have h1 : IntKind.u64.signed = false := rfl
  have h2 : (2 : Int) ^ IntKind.u64.bits = 18446744073709551616 := rfl
  simp [h1, h2]
theorem u8_wrap (n : Int) : IntKind.u8.wrap n = n % 256 := by
  unfold IntKind.wrap
  have h1 : IntKind.u8.signed = false := rfl
  have h2 : (2 : Int) ^ IntKind.u8.bits = 256 := rfl
  simp [h1, h2]
theorem u16_wrap (n : Int) : IntKind.u16.wrap n = n % 65536 := by
  unfold IntKind.wrap
  have h1 : IntKind.u16.signed = false := rfl
  have h2 : (2 : Int) ^ IntKind.u16.bits = 65536 := rfl
  simp [h1, h2]
theorem u32_wrap (n : Int) : IntKind.u32.wrap n = n % 4294967296 := by
  unfold IntKind.wrap
  have h1 : IntKind.u32.signed = false := rfl
  have h2 : (2 : Int) ^ IntKind.u32.bits = 4294967296 := rfl
  simp [h1, h2]
def lo64 (n : Int) : Nat := (n % 18446744073709551616).toNat
def lo32 (n : Int) : Nat := (n % 4294967296).toNat
def lo16 (n : Int) : Nat := (n % 65536).toNat
def lo8 (n : Int) : Nat := (n % 256).toNat
theorem u64_nat (n : Int) : ∃ U : Nat, IntKind.u64.wrap n = (U : Int) ∧ U < 18446744073709551616 ∧ Hid (lo64 n = U) := ⟨lo64 n, by rw [u64_wrap]; unfold lo64; omega, by unfold lo64; omega, Lib.hid rfl⟩
theorem u32_nat (n : Int) : ∃ U : Nat, IntKind.u32.wrap n = (U : Int) ∧ U < 4294967296 ∧ Hid (lo32 n = U) := ⟨lo32 n, by rw [u32_wrap]; unfold lo32; omega, by unfold lo32; omega, Lib.hid rfl⟩
theorem u16_nat (n : Int) : ∃ U : Nat, IntKind.u16.wrap n = (U : Int) ∧ U < 65536 ∧ Hid (lo16 n = U) := ⟨lo16 n, by rw [u16_wrap]; unfold lo16; omega, by unfold lo16; omega, Lib.hid rfl⟩
theorem u8_nat (n : Int) : ∃ U : Nat, IntKind.u8.wrap n = (U : Int) ∧ U < 256 ∧ Hid (lo8 n = U) := ⟨lo8 n, by rw [u8_wrap]; unfold lo8; omega, by unfold lo8; omega, Lib.hid rfl⟩
/-- a header's 20 bytes -/
def headB (h : HeadD) : List UInt8 := be 2 (lo64 h.age) ++ [2, UInt8.ofNat (lo8 h.type)] ++ be 4 h.id ++ be 4 h.adv ++ be 4 (lo64 h.seq) ++ be 2 h.sum ++ be 2 (lo64 h.len)
theorem headB_len (h : HeadD) : (headB h).length = 20 := by unfold headB; simp [be_len]
theorem Boxed.grow {B : Nat} {cs : List Value} {w0 W W' : World} (s : Boxed B cs w0 W) (hB : B < w0.heap.size) {v : Value} {p : Option Addr} {n c : Nat} (g : Grown W v p n c W') (hv : ∀ k, v.ownBlock = some k → w0.heap.size ≤ k) : Boxed B cs w0 W' :=
  ⟨g.k.rangeAt s.r (fun e => by have := hv B e; omega), s.k.trans' g.k (fun i e => .inr (hv i e))⟩
theorem run_append_b {P : Program} (w : World) (t ty : TypeId) (i : TypeInfo) (ht : P.underlying t = some (.slice 5)) (hi : P.info? 5 = some i) (hz : i.zero = some (.int .u8 0)) (hsize : i.size = 1) (hby : i.bytes = 1)
    (w0 : World) (v : Value) (xs : List UInt8) (hown : OwnB w0 w v xs) (sv : Value) (l : List UInt8) (hl : BytesAt w sv l) (hsz : xs.length + l.length ≤ 70368744177664) :
    ∃ p c w', (Builtin.append_ #[t, t] ty #[v, sv]).run P w = .ok (.slice p (xs.length + l.length) c) w' ∧ OwnB w0 w' (.slice p (xs.length + l.length) c) (xs ++ l) ∧ Grown w v p (xs.length + l.length) c w' := by
  obtain ⟨sp, sc, rfl, hp, -, hlr⟩ := hl
  cases sp with
  | none =>
    have h0 : l.length = 0 := by
      rcases Nat.eq_zero_or_pos l.length with h | h
      · exact h
      · obtain ⟨b, o, e, _⟩ := hlr h; cases e
    have hc := hp rfl
    subst hc
    have hl0 : l = [] := List.length_eq_zero_iff.1 h0
    subst hl0
    obtain ⟨p, c, rfl⟩ := hown.slice
    exact ⟨p, c, w, run_append_owned_none (P := P) (w := w) 0 t ty 5 i 1 ht hi _ xs.length (xs.map bv) hown.1, by simpa using hown, Keeps.refl _ _, fun k e => .inl e⟩
  | some ad =>
    obtain ⟨v', w', hr, h2, h3, h4⟩ := run_append_sep (P := P) w t ty 5 i (.int .u8 0) 1 1 ht hi hz hsize hby rfl (by decide) v xs.length (xs.map bv) hown.1 ad l.length sc (l.map bv) (by simp) (fun j u hu => by
      have h0 : 0 < l.length := by
        have := (List.getElem?_eq_some_iff.1 hu).1; simp at this; omega
      obtain ⟨b, o, e, hr⟩ := hlr h0
      injection e with e; subst e
      rw [Addr.add_mid]; exact hr j u hu) (bv_one l) (by unfold maxLen; omega) (by omega)
    obtain ⟨p, c, rfl⟩ := ownsRow_slice h2
    refine ⟨p, c, w', hr, ⟨by simpa using h2, fun k e => ?_, Nat.le_trans hown.2.2 h3.size⟩, (Keeps.refl _ _).grown h3 (fun k e => .inl e), h4⟩
    rcases h4 k e with e | e
    · exact hown.2.1 k e
    · exact Nat.le_trans hown.2.2 e
/-- bytes of whatever source behind bytes of the call's own: one operation -/
theorem wp_append_b {P : Program} {w : World} {o : Oper} {a : Act} {K : Act → World → Prop} {Q : Exit → Act → World → Prop} (s x : Operand) (t : TypeId)
    (ho : o.op = .call { callee := .builtin .append, args := #[s, x], argTypes := #[t, t] })
    (i : TypeInfo) (ht : P.underlying t = some (.slice 5)) (hi : P.info? 5 = some i) (hz : i.zero = some (.int .u8 0)) (hsize : i.size = 1) (hby : i.bytes = 1)
    (w0 : World) (v : Value) (xs : List UInt8) (hs : a.eval s = v) (hown : OwnB w0 w v xs) (sv : Value) (hx : a.eval x = sv) (l : List UInt8) (hl : BytesAt w sv l) (hsz : xs.length + l.length ≤ 70368744177664)
    (h : ∀ p c w', OwnB w0 w' (.slice p (xs.length + l.length) c) (xs ++ l) → Grown w v p (xs.length + l.length) c w' → K (a.put o.dst (.slice p (xs.length + l.length) c)) w') : Oper.wp P o a w K Q := by
  obtain ⟨p, c, w', hr, h1, h2⟩ := run_append_b (P := P) w t o.type i ht hi hz hsize hby w0 v xs hown sv l hl hsz
  unfold Oper.wp execOp
  simp only [ho, resolve, invoke, builtin, Sem.run_bind, Sem.run_pure, Result.andThen_ok, List.map_toArray, List.map_cons, List.map_nil, hs, hx, hr]
  exact h p c w' h1 h2

set_option maxRecDepth 100000 in
set_option maxHeartbeats 1000000 in
theorem r10PutHeader_any (age type seq len : Int) (id adv sum : Nat) (hid : id < 4294967296) (hadv : adv < 4294967296) (hsum : sum < 65536) (w : World) :
    Calls Try.prog 95 #[.agg #[.int .i64 age, .int .i64 type, .int .u32 id, .int .u32 adv, .int .i64 seq, .int .u16 sum, .int .i64 len]] w (NewOwn (headB ⟨age, type, id, adv, seq, sum, len⟩) w) := by
  obtain ⟨i0, hi0, hz0, hz1, hz2⟩ := info_parts u8InfoAll
  obtain ⟨cs, hcs⟩ : ∃ cs : List Value, cs = [.int .i64 age, .int .i64 type, .int .u32 id, .int .u32 adv, .int .i64 seq, .int .u16 sum, .int .i64 len] := ⟨_, rfl⟩
  have hB : Hid (Boxed w.heap.size cs (w.alloc (.cells #[.int .i64 age, .int .i64 type, .int .u32 id, .int .u32 adv, .int .i64 seq, .int .u16 sum, .int .i64 len] 95)) (w.alloc (.cells #[.int .i64 age, .int .i64 type, .int .u32 id, .int .u32 adv, .int .i64 seq, .int .u16 sum, .int .i64 len] 95))) := Lib.hid (by rw [hcs]; exact boxed_new0 w _ _)
  have hsz : Hid (w.heap.size < (w.alloc (.cells #[.int .i64 age, .int .i64 type, .int .u32 id, .int .u32 adv, .int .i64 seq, .int .u16 sum, .int .i64 len] 95)).heap.size) := Lib.hid (by simp)
  have hwB : Hid (Keeps (fun _ => False) w (w.alloc (.cells #[.int .i64 age, .int .i64 type, .int .u32 id, .int .u32 adv, .int .i64 seq, .int .u16 sum, .int .i64 len] 95))) := Lib.hid ((Keeps.refl _ _).alloc _)
  have hcs' := Lib.hid hcs; clear hcs
  go_enter Try.func95, Try.ntmps95
  go_upto_region 1 with fail
  generalize w.alloc (.cells #[.int .i64 age, .int .i64 type, .int .u32 id, .int .u32 adv, .int .i64 seq, .int .u16 sum, .int .i64 len] 95) = wB at hB hsz hwB ⊢
  refine wp_region_noPanic ?_
  refine wp_region_held_drew (S := (fun W => Boxed w.heap.size cs wB W)) (by kernel_rfl) (hB.out.next ((Keeps.refl _ _).drew)) (fun hHeld => ?_)
  refine tk 0 rfl ?_
  refine tkL 1 rfl (yieldsIf_load_cell (by rfl) 3 (.tmp 4) rfl w.heap.size 0 rfl _ (fun _ s => s.cell 0 (.int .i64 age) (by rw [hcs'.out]; rfl)) (fun w s => load_int w _ _ _ s)) ?_
  refine tk 2 rfl ?_
  refine tk 4 rfl ?_
  refine tk 5 rfl ?_
  refine tkL 6 rfl (yieldsIf_load_cell (by rfl) 3 (.tmp 9) rfl w.heap.size 1 rfl _ (fun _ s => s.cell 1 (.int .i64 type) (by rw [hcs'.out]; rfl)) (fun w s => load_int w _ _ _ s)) ?_
  refine tk 7 rfl ?_
  obtain ⟨U, hU, lU, hUl⟩ := u64_nat age
  obtain ⟨T, hT, lT, hTl⟩ := u8_nat type
  rw [hU, hT]
  refine wpAnyH_slots [7, 12, 13, 3] [3, 8, 9, 10] (fun L f W =>
      (L 3 = true → L 9 = false → ∃ p c, f 7 = .slice p (be 2 U).length c ∧ OwnB wB W (f 7) (be 2 U)) ∧
      (L 8 = true → L 9 = false → ∃ g, f 12 = .slice (some ⟨g, 0, none⟩) 2 2 ∧ BytesAt W (f 12) [2, UInt8.ofNat T]) ∧
      (L 9 = true → ∃ p c, f 13 = .slice p ((be 2 U).length + 2) c ∧ OwnB wB W (f 13) (be 2 U ++ [2, UInt8.ofNat T])) ∧
      (L 10 = true → L 9 = true ∧ f 3 = f 13)) (by kernel_rfl) (by kernel_rfl) (by kernel_rfl) (by kernel_rfl) (Nat.le_of_ble_eq_true (by kernel_rfl)) hHeld
    (fun L f h => ⟨fun e => absurd (h 3 (by decide)) (by rw [e]; decide), fun e => absurd (h 8 (by decide)) (by rw [e]; decide), fun e => absurd (h 9 (by decide)) (by rw [e]; decide), fun e => absurd (h 10 (by decide)) (by rw [e]; decide)⟩) ?_ ?_
  · refine StepsG.cons (d := 7) rfl rfl (by decide) ?_ (StepsG.cons (d := 12) rfl rfl (by decide) ?_ (StepsG.cons (d := 13) rfl rfl (by decide) ?_ (StepsG.cons (d := 3) rfl rfl (by decide) ?_ StepsG.nil)))
    · intro L f W hG hS hL hdep K hK
      simp only [actOf, List.foldl_cons, List.foldl_nil, Act.put, sA, sZ, sS] at hK ⊢
      rw [if_pos (by rfl)]
      go_simp
      refine (r10num_any U 2 lU (by omega) _).mono ?_
      rintro e W' ⟨p, c, rfl, hO, hk⟩
      go_wp2_with fail
      refine hK.out _ _ (hS.next hk) ⟨fun _ _ => ⟨p, c, rfl, hO.older hS.k.size⟩, fun e8 e9 => ?_, fun e9 => ?_, fun e10 => hG.2.2.2 e10⟩
      · obtain ⟨g, h1, h2⟩ := hG.2.1 e8 e9
        exact ⟨g, h1, h2.keep hk⟩
      · obtain ⟨p, c, h1, h2⟩ := hG.2.2.1 e9
        exact ⟨p, c, h1, h2.keep hk (fun _ _ f => f)⟩
    · intro L f W hG hS hL hdep K hK
      simp only [actOf, List.foldl_cons, List.foldl_nil, Act.put, sA, sZ, sS] at hK ⊢
      rw [if_pos (by rfl)]
      go_simp
      have hk : Keeps (fun _ => False) W (W.alloc (.cells #[.int .u8 2, .int .u8 T] 5)) := (Keeps.refl _ _).alloc _
      refine hK.out _ _ (hS.next hk) ⟨fun e3 e9 => ?_, fun _ _ => ⟨W.heap.size, rfl, ?_⟩, fun e9 => ?_, fun e10 => hG.2.2.2 e10⟩
      · obtain ⟨p, c, h1, h2⟩ := hG.1 e3 e9
        exact ⟨p, c, h1, h2.keep hk (fun _ _ f => f)⟩
      · have := (OwnB.new W W (Nat.le_refl _) [2, UInt8.ofNat T] (n := 2) rfl (by unfold maxLen; omega)).bytes
        rw [List.map_cons, List.map_cons, List.map_nil, bv_lt T lT] at this
        exact this
      · obtain ⟨p, c, h1, h2⟩ := hG.2.2.1 e9
        exact ⟨p, c, h1, h2.keep hk (fun _ _ f => f)⟩
    · intro L f W hG hS hL hdep K hK
      simp only [actOf, List.foldl_cons, List.foldl_nil, Act.put, sA, sZ, sS] at hK ⊢
      rw [if_pos (by rfl)]
      have d3 := hdep ⟨3, .data⟩ (by simp) rfl (by decide)
      have d8 := hdep ⟨8, .data⟩ (by simp) rfl (by decide)
      obtain ⟨p7, c7, h7, hO⟩ := hG.1 d3 hL
      obtain ⟨g, h12, hB12⟩ := hG.2.1 d8 hL
      refine wp_append_b (.tmp 7) (.tmp 12) 71 rfl i0 Try.underlying71 hi0 hz0 hz1 hz2 wB (f 7) (be 2 U) rfl hO (f 12) rfl [2, UInt8.ofNat T] hB12 (by rw [be_len]; simp) ?_
      intro p c W' hO' hG'
      exact hK.out _ _ (hS.grow hsz.out hG' hO.2.1) ⟨fun _ e => absurd (show true = false from e) (by decide), fun _ e => absurd (show true = false from e) (by decide), fun _ => ⟨p, c, rfl, hO'⟩, fun e10 => absurd ((hG.2.2.2 e10).1.symm.trans hL) (by decide)⟩
    · intro L f W hG hS hL hdep K hK
      simp only [actOf, List.foldl_cons, List.foldl_nil, Act.put, sA, sZ, sS] at hK ⊢
      rw [if_pos (by rfl)]
      go_simp
      have d9 := hdep ⟨9, .data⟩ (by simp) rfl (by decide)
      exact hK.out _ _ hS ⟨fun e3 e9 => hG.1 e3 e9, fun e8 e9 => hG.2.1 e8 e9, fun e9 => hG.2.2.1 e9, fun _ => ⟨d9, rfl⟩⟩
  · intro f W hG hS
    obtain ⟨p13, c13, h13, hO13⟩ := hG.2.2.1 rfl
    have h3 := (hG.2.2.2 rfl).2
    simp only [actOf, List.foldl_cons, List.foldl_nil, Act.put, sA, sZ, sS]
    rw [h13] at hO13 h3
    rw [h3]
    have hO' := Lib.hid hO13; have hS' := Lib.hid hS
    generalize f 7 = f7
    generalize f 12 = f12
    generalize f 13 = f13
    clear hG h13 h3 hO13 hS f
    refine NoPanic.normal ?_
    obtain ⟨X1, hX1⟩ : ∃ X, X = be 2 U ++ [2, UInt8.ofNat T] := ⟨_, rfl⟩
    have hX1l : X1.length = 4 := by rw [hX1, List.length_append, be_len]; rfl
    rw [← hX1, show (be 2 U).length + 2 = X1.length by rw [hX1l, be_len]] at hO'
    rw [show (be 2 U).length + 2 = X1.length by rw [hX1l, be_len]]
    have hX1' := Lib.hid hX1; have hX1l' := Lib.hid hX1l
    clear hX1 hX1l
    obtain ⟨Z, hZ, lZ, hZl⟩ := u64_nat seq
    have wid : IntKind.u64.wrap (id : Int) = (id : Int) := IntWalk.u64_in _ (by omega)
    have wadv : IntKind.u64.wrap (adv : Int) = (adv : Int) := IntWalk.u64_in _ (by omega)
    have wsum : IntKind.u64.wrap (sum : Int) = (sum : Int) := IntWalk.u64_in _ (by omega)
    go_upto_region 2 with fail
    refine wp_region_noPanic ?_
    refine wp_region_held_drew (S := (fun W => Boxed w.heap.size cs wB W)) (by kernel_rfl) (hS'.out.next ((Keeps.refl _ _).drew)) (fun hHeld => ?_)
    refine tk 0 rfl ?_
    refine tk 1 rfl ?_
    refine tk 2 rfl ?_
    refine tkL 3 rfl (yieldsIf_load_cell (by rfl) 23 (.tmp 16) rfl w.heap.size 2 rfl _ (fun _ s => s.cell 2 (.int .u32 id) (by rw [hcs'.out]; rfl)) (fun w s => load_u32 w _ _ _ s)) ?_
    refine tk 4 rfl ?_
    refine tk 7 rfl ?_
    refine tk 8 rfl ?_
    refine tkL 9 rfl (yieldsIf_load_cell (by rfl) 23 (.tmp 22) rfl w.heap.size 3 rfl _ (fun _ s => s.cell 3 (.int .u32 adv) (by rw [hcs'.out]; rfl)) (fun w s => load_u32 w _ _ _ s)) ?_
    refine tk 10 rfl ?_
    refine tk 13 rfl ?_
    refine tkL 14 rfl (yieldsIf_load_cell (by rfl) 3 (.tmp 27) rfl w.heap.size 4 rfl _ (fun _ s => s.cell 4 (.int .i64 seq) (by rw [hcs'.out]; rfl)) (fun w s => load_int w _ _ _ s)) ?_
    refine tk 15 rfl ?_
    have hO1 := Lib.hid (hO'.out.keep ((Keeps.refl (fun _ => False) _).drew) (fun _ _ f => f))
    refine stepL 5 rfl (by kernel_rfl) (fun K hK => ?_)
    go_simp
    (refine (r10num_any id 4 (by omega) (by omega) _).mono ?_; rintro e W1 ⟨pa, ca, rfl, hN1, hk1⟩; have hO2 := Lib.hid (hO1.out.keep hk1 (fun _ _ f => f)); have hN1' := Lib.hid hN1.bytes)
    go_wp2_with fail
    refine hK.out _ _ (hHeld.next hk1) (fun hHeld => ?_)
    clear hK K
    try simp only [Act.put, sA, sZ, sS]
    refine stepL 6 rfl (by kernel_rfl) (fun K hK => ?_)
    rw [if_pos (by rfl)]
    (refine wp_append_b (.tmp 14) (.tmp 19) 71 rfl i0 Try.underlying71 hi0 hz0 hz1 hz2 wB _ X1 rfl hO2.out _ rfl (be 4 id) hN1'.out (by rw [hX1l'.out, be_len]; omega) ?_; intro p1 c1 W2 hO3 hG3)
    refine hK.out _ _ (hHeld.grow hsz.out hG3 hO2.out.2.1) (fun hHeld => ?_)
    clear hK K
    try simp only [Act.put, sA, sZ, sS]
    obtain ⟨X2, hX2⟩ : ∃ X, X = X1 ++ be 4 id := ⟨_, rfl⟩
    have hX2l : X2.length = 8 := by rw [hX2, List.length_append, hX1l'.out, be_len]
    rw [← hX2, show X1.length + (be 4 id).length = X2.length by rw [hX2, List.length_append]] at hO3
    rw [show X1.length + (be 4 id).length = X2.length by rw [hX2, List.length_append]]
    have hX2' := Lib.hid hX2; have hX2l' := Lib.hid hX2l; have hO3' := Lib.hid hO3
    clear hX2 hX2l hO3 hG3 hO2 hN1' hO1 hN1 hk1
    refine stepL 11 rfl (by kernel_rfl) (fun K hK => ?_)
    go_simp
    (refine (r10num_any adv 4 (by omega) (by omega) _).mono ?_; rintro e W3 ⟨pb, cb, rfl, hN2, hk2⟩; have hO4 := Lib.hid (hO3'.out.keep hk2 (fun _ _ f => f)); have hN2' := Lib.hid hN2.bytes)
    go_wp2_with fail
    refine hK.out _ _ (hHeld.next hk2) (fun hHeld => ?_)
    clear hK K
    try simp only [Act.put, sA, sZ, sS]
    refine stepL 12 rfl (by kernel_rfl) (fun K hK => ?_)
    rw [if_pos (by rfl)]
    (refine wp_append_b (.tmp 20) (.tmp 25) 71 rfl i0 Try.underlying71 hi0 hz0 hz1 hz2 wB _ X2 rfl hO4.out _ rfl (be 4 adv) hN2'.out (by rw [hX2l'.out, be_len]; omega) ?_; intro p2 c2 W4 hO5 hG5)
    refine hK.out _ _ (hHeld.grow hsz.out hG5 hO4.out.2.1) (fun hHeld => ?_)
    clear hK K
    try simp only [Act.put, sA, sZ, sS]
    obtain ⟨X3, hX3⟩ : ∃ X, X = X2 ++ be 4 adv := ⟨_, rfl⟩
    have hX3l : X3.length = 12 := by rw [hX3, List.length_append, hX2l'.out, be_len]
    rw [← hX3, show X2.length + (be 4 adv).length = X3.length by rw [hX3, List.length_append]] at hO5
    rw [show X2.length + (be 4 adv).length = X3.length by rw [hX3, List.length_append]]
    have hX3' := Lib.hid hX3; have hX3l' := Lib.hid hX3l; have hO5' := Lib.hid hO5
    clear hX3 hX3l hO5 hG5 hO4 hN2' hN2 hk2
    refine stepL 16 rfl (by kernel_rfl) (fun K hK => ?_)
    go_simp
    (refine (r10num_any Z 4 lZ (by omega) _).mono ?_; rintro e W5 ⟨pc, cc, rfl, hN3, hk3⟩; have hO6 := Lib.hid (hO5'.out.keep hk3 (fun _ _ f => f)); have hN3' := Lib.hid hN3.bytes)
    go_wp2_with fail
    refine hK.out _ _ (hHeld.next hk3) (fun hHeld => ?_)
    clear hK K
    try simp only [Act.put, sA, sZ, sS]
    refine stepL 17 rfl (by kernel_rfl) (fun K hK => ?_)
    rw [if_pos (by rfl)]
    (refine wp_append_b (.tmp 26) (.tmp 30) 71 rfl i0 Try.underlying71 hi0 hz0 hz1 hz2 wB _ X3 rfl hO6.out _ rfl (be 4 Z) hN3'.out (by rw [hX3l'.out, be_len]; omega) ?_; intro p3 c3 W6 hO7 hG7)
    refine hK.out _ _ (hHeld.grow hsz.out hG7 hO6.out.2.1) (fun hHeld => ?_)
    clear hK K
    try simp only [Act.put, sA, sZ, sS]
    obtain ⟨X4, hX4⟩ : ∃ X, X = X3 ++ be 4 Z := ⟨_, rfl⟩
    have hX4l : X4.length = 16 := by rw [hX4, List.length_append, hX3l'.out, be_len]
    rw [← hX4, show X3.length + (be 4 Z).length = X4.length by rw [hX4, List.length_append]] at hO7
    rw [show X3.length + (be 4 Z).length = X4.length by rw [hX4, List.length_append]]
    have hX4' := Lib.hid hX4; have hX4l' := Lib.hid hX4l; have hO7' := Lib.hid hO7
    clear hX4 hX4l hO7 hG7 hO6 hN3' hN3 hk3
    refine tk 18 rfl ?_
    refine wpAnyH_done (by kernel_rfl) (NoPanic.normal ?_) _
    have hS6 := Lib.hid hHeld
    clear hHeld
    obtain ⟨Y, hY, lY, hYl⟩ := u64_nat len
    go_upto_region 3 with fail
    refine wp_region_noPanic ?_
    refine wp_region_held_drew (S := (fun W => Boxed w.heap.size cs wB W)) (by kernel_rfl) (hS6.out.next ((Keeps.refl _ _).drew)) (fun hHeld => ?_)
    refine tk 0 rfl ?_
    refine tk 1 rfl ?_
    refine tkL 2 rfl (yieldsIf_load_cell (by rfl) 80 (.tmp 33) rfl w.heap.size 5 rfl _ (fun _ s => s.cell 5 (.int .u16 sum) (by rw [hcs'.out]; rfl)) (fun w s => load_u16 w _ _ _ s)) ?_
    refine tk 3 rfl ?_
    refine tk 6 rfl ?_
    refine tkL 7 rfl (yieldsIf_load_cell (by rfl) 3 (.tmp 38) rfl w.heap.size 6 rfl _ (fun _ s => s.cell 6 (.int .i64 len) (by rw [hcs'.out]; rfl)) (fun w s => load_int w _ _ _ s)) ?_
    refine tk 8 rfl ?_
    have hO8 := Lib.hid (hO7'.out.keep ((Keeps.refl (fun _ => False) _).drew) (fun _ _ f => f))
    refine stepL 4 rfl (by kernel_rfl) (fun K hK => ?_)
    go_simp
    (refine (r10num_any sum 2 (by omega) (by omega) _).mono ?_; rintro e W7 ⟨pd, cd, rfl, hN4, hk4⟩; have hO9 := Lib.hid (hO8.out.keep hk4 (fun _ _ f => f)); have hN4' := Lib.hid hN4.bytes)
    go_wp2_with fail
    refine hK.out _ _ (hHeld.next hk4) (fun hHeld => ?_)
    clear hK K
    try simp only [Act.put, sA, sZ, sS]
    refine stepL 5 rfl (by kernel_rfl) (fun K hK => ?_)
    rw [if_pos (by rfl)]
    (refine wp_append_b (.tmp 32) (.tmp 36) 71 rfl i0 Try.underlying71 hi0 hz0 hz1 hz2 wB _ X4 rfl hO9.out _ rfl (be 2 sum) hN4'.out (by rw [hX4l'.out, be_len]; omega) ?_; intro p4 c4 W8 hO10 hG10)
    refine hK.out _ _ (hHeld.grow hsz.out hG10 hO9.out.2.1) (fun hHeld => ?_)
    clear hK K
    try simp only [Act.put, sA, sZ, sS]
    obtain ⟨X5, hX5⟩ : ∃ X, X = X4 ++ be 2 sum := ⟨_, rfl⟩
    have hX5l : X5.length = 18 := by rw [hX5, List.length_append, hX4l'.out, be_len]
    rw [← hX5, show X4.length + (be 2 sum).length = X5.length by rw [hX5, List.length_append]] at hO10
    rw [show X4.length + (be 2 sum).length = X5.length by rw [hX5, List.length_append]]
    have hX5' := Lib.hid hX5; have hX5l' := Lib.hid hX5l; have hO10' := Lib.hid hO10
    clear hX5 hX5l hO10 hG10 hO9 hN4' hN4 hk4
    refine stepL 9 rfl (by kernel_rfl) (fun K hK => ?_)
    go_simp
    (refine (r10num_any Y 2 lY (by omega) _).mono ?_; rintro e W9 ⟨pe, ce, rfl, hN5, hk5⟩; have hO11 := Lib.hid (hO10'.out.keep hk5 (fun _ _ f => f)); have hN5' := Lib.hid hN5.bytes)
    go_wp2_with fail
    refine hK.out _ _ (hHeld.next hk5) (fun hHeld => ?_)
    clear hK K
    try simp only [Act.put, sA, sZ, sS]
    refine stepL 10 rfl (by kernel_rfl) (fun K hK => ?_)
    rw [if_pos (by rfl)]
    (refine wp_append_b (.tmp 37) (.tmp 41) 71 rfl i0 Try.underlying71 hi0 hz0 hz1 hz2 wB _ X5 rfl hO11.out _ rfl (be 2 Y) hN5'.out (by rw [hX5l'.out, be_len]; omega) ?_; intro p5 c5 W10 hO12 hG12)
    refine hK.out _ _ (hHeld.grow hsz.out hG12 hO11.out.2.1) (fun hHeld => ?_)
    clear hK K
    try simp only [Act.put, sA, sZ, sS]
    refine tk 11 rfl ?_
    refine wpAnyH_done (by kernel_rfl) (NoPanic.normal ?_) _
    have hfin : X5 ++ be 2 Y = headB ⟨age, type, id, adv, seq, sum, len⟩ := by
      rw [hX5'.out, hX4'.out, hX3'.out, hX2'.out, hX1'.out]
      unfold headB
      simp only [hUl.out, hTl.out, hZl.out, hYl.out, List.append_assoc]
    have hl20 : X5.length + (be 2 Y).length = (headB ⟨age, type, id, adv, seq, sum, len⟩).length := by rw [← hfin, List.length_append]
    rw [hfin] at hO12
    have hO13 := Lib.hid hO12; have hS10 := Lib.hid hHeld; have hl20' := Lib.hid hl20
    clear hO12 hHeld hfin hl20 hG12
    go_wp2_with fail
    go_ret
    exact ⟨p5, c5, by rw [← hl20'.out]; rfl, by rw [← hl20'.out]; exact hO13.out.older (by have := hsz.out; omega), hwB.out.trans hS10.out.k⟩
end Go.Proofs.Ytdaongflpllfhaa
/- lsa.PutHeader, walked. -/
namespace Go.Proofs.Ytdaongflpllfhaa
open Go.RowKit

theorem be_mod (k n m : Nat) (h : n % 256 ^ k = m % 256 ^ k) : be k n = be k m := by
  have h1 := be_beVal (be k n)
  have h2 := be_beVal (be k m)
  rw [be_len, beVal_be] at h1 h2
  rw [← h1, ← h2, h]
theorem be4_lo (n : Int) : be 4 (lo32 n) = be 4 (lo64 n) := be_mod 4 _ _ (by unfold lo32 lo64; omega)
theorem be2_lo (n : Int) : be 2 (lo16 n) = be 2 (lo64 n) := be_mod 2 _ _ (by unfold lo16 lo64; omega)
theorem Grown.nil {W W' : World} {p : Option Addr} {n c : Nat} (g : Grown W (.slice none 0 0) p n c W') : Keeps (fun _ => False) W W' := g.k.mono (fun i e => by simp [Value.ownBlock] at e)
/-- a new block of numbers -/
theorem NumsAt.new (w : World) (l : List Nat) {n : Nat} (hn : l.length = n) : NumsAt (w.alloc (.cells (l.map nv).toArray 23)) (.slice (some ⟨w.heap.size, 0, none⟩) n n) l := by
  subst hn
  refine ⟨some ⟨w.heap.size, 0, none⟩, l.length, rfl, (fun h => nomatch h), Nat.le_refl _, fun _ => ⟨w.heap.size, 0, rfl, fun j u hu => ?_⟩⟩
  have := cells_new (w := w) (n := w.heap.size) rfl (l.map nv) 23 j u hu
  rw [Addr.add_mid] at this; exact this

set_option maxRecDepth 100000 in
set_option maxHeartbeats 1000000 in
theorem lsPutHeader_any (age type seq len : Int) (id adv sum : Nat) (hid : id < 4294967296) (hadv : adv < 4294967296) (hsum : sum < 65536) (w : World) :
    Calls Try.prog 87 #[.agg #[.int .i64 age, .int .i64 type, .int .u32 id, .int .u32 adv, .int .i64 seq, .int .u16 sum, .int .i64 len]] w (NewOwn (headB ⟨age, type, id, adv, seq, sum, len⟩) w) := by
  obtain ⟨i0, hi0, hz0, hz1, hz2⟩ := info_parts u8InfoAll
  obtain ⟨cs, hcs⟩ : ∃ cs : List Value, cs = [.int .i64 age, .int .i64 type, .int .u32 id, .int .u32 adv, .int .i64 seq, .int .u16 sum, .int .i64 len] := ⟨_, rfl⟩
  have hB : Hid (Boxed w.heap.size cs (w.alloc (.cells #[.int .i64 age, .int .i64 type, .int .u32 id, .int .u32 adv, .int .i64 seq, .int .u16 sum, .int .i64 len] 82)) (w.alloc (.cells #[.int .i64 age, .int .i64 type, .int .u32 id, .int .u32 adv, .int .i64 seq, .int .u16 sum, .int .i64 len] 82))) := Lib.hid (by rw [hcs]; exact boxed_new0 w _ _)
  have hsz : Hid (w.heap.size < (w.alloc (.cells #[.int .i64 age, .int .i64 type, .int .u32 id, .int .u32 adv, .int .i64 seq, .int .u16 sum, .int .i64 len] 82)).heap.size) := Lib.hid (by simp)
  have hwB : Hid (Keeps (fun _ => False) w (w.alloc (.cells #[.int .i64 age, .int .i64 type, .int .u32 id, .int .u32 adv, .int .i64 seq, .int .u16 sum, .int .i64 len] 82))) := Lib.hid ((Keeps.refl _ _).alloc _)
  have hcs' := Lib.hid hcs; clear hcs
  obtain ⟨U, hU, lU, hUl⟩ := u16_nat age
  obtain ⟨T, hT, lT, hTl⟩ := u8_nat type
  obtain ⟨Z, hZ, lZ, hZl⟩ := u32_nat seq
  obtain ⟨Y, hY, lY, hYl⟩ := u16_nat len
  go_enter Try.func87, Try.ntmps87
  go_upto_region 1 with fail
  generalize w.alloc (.cells #[.int .i64 age, .int .i64 type, .int .u32 id, .int .u32 adv, .int .i64 seq, .int .u16 sum, .int .i64 len] 82) = wB at hB hsz hwB ⊢
  refine wp_region_noPanic ?_
  refine wp_region_held_drew (S := (fun W => Boxed w.heap.size cs wB W)) (by kernel_rfl) (hB.out.next ((Keeps.refl _ _).drew)) (fun hHeld => ?_)
  refine tk 0 rfl ?_
  refine tkL 1 rfl (yieldsIf_load_cell (by rfl) 3 (.tmp 4) rfl w.heap.size 0 rfl _ (fun _ s => s.cell 0 (.int .i64 age) (by rw [hcs'.out]; rfl)) (fun w s => load_int w _ _ _ s)) ?_
  refine tk 2 rfl ?_
  refine tk 4 rfl ?_
  refine tk 5 rfl ?_
  refine tkL 6 rfl (yieldsIf_load_cell (by rfl) 3 (.tmp 9) rfl w.heap.size 1 rfl _ (fun _ s => s.cell 1 (.int .i64 type) (by rw [hcs'.out]; rfl)) (fun w s => load_int w _ _ _ s)) ?_
  refine tk 7 rfl ?_
  refine wpAnyH_slots [7, 12, 13, 3] [3, 8, 9, 10] (fun L f W =>
      (L 3 = true → L 9 = false → ∃ p c, f 7 = .slice p (be 2 U).length c ∧ OwnB wB W (f 7) (be 2 U)) ∧
      (L 8 = true → L 9 = false → ∃ g, f 12 = .slice (some ⟨g, 0, none⟩) 2 2 ∧ BytesAt W (f 12) [2, UInt8.ofNat T]) ∧
      (L 9 = true → ∃ p c, f 13 = .slice p ((be 2 U).length + 2) c ∧ OwnB wB W (f 13) (be 2 U ++ [2, UInt8.ofNat T])) ∧
      (L 10 = true → L 9 = true ∧ f 3 = f 13)) (by kernel_rfl) (by kernel_rfl) (by kernel_rfl) (by kernel_rfl) (Nat.le_of_ble_eq_true (by kernel_rfl)) hHeld
    (fun L f h => ⟨fun e => absurd (h 3 (by decide)) (by rw [e]; decide), fun e => absurd (h 8 (by decide)) (by rw [e]; decide), fun e => absurd (h 9 (by decide)) (by rw [e]; decide), fun e => absurd (h 10 (by decide)) (by rw [e]; decide)⟩) ?_ ?_
  · refine StepsG.cons (d := 7) rfl rfl (by decide) ?_ (StepsG.cons (d := 12) rfl rfl (by decide) ?_ (StepsG.cons (d := 13) rfl rfl (by decide) ?_ (StepsG.cons (d := 3) rfl rfl (by decide) ?_ StepsG.nil)))
    · intro L f W hG hS hL hdep K hK
      simp only [actOf, List.foldl_cons, List.foldl_nil, Act.put, sA, sZ, sS] at hK ⊢
      rw [if_pos (by rfl)]
      go_simp
      refine (wiLay16_any wB _ [] U lU (by simp) _ (Lib.hid (OwnB.nil wB W hS.k.size))).mono ?_
      rintro e W' ⟨p, c, rfl, hO, hg⟩
      have hk := hg.nil
      rw [List.nil_append, show ([] : List UInt8).length + (be 2 U).length = (be 2 U).length by simp] at hO
      rw [show ([] : List UInt8).length + (be 2 U).length = (be 2 U).length by simp]
      go_wp2_with fail
      refine hK.out _ _ (hS.next hk) ⟨fun _ _ => ⟨p, c, rfl, hO⟩, fun e8 e9 => ?_, fun e9 => ?_, fun e10 => hG.2.2.2 e10⟩
      · obtain ⟨g, h1, h2⟩ := hG.2.1 e8 e9
        exact ⟨g, h1, h2.keep hk⟩
      · obtain ⟨p, c, h1, h2⟩ := hG.2.2.1 e9
        exact ⟨p, c, h1, h2.keep hk (fun _ _ f => f)⟩
    · intro L f W hG hS hL hdep K hK
      simp only [actOf, List.foldl_cons, List.foldl_nil, Act.put, sA, sZ, sS] at hK ⊢
      rw [if_pos (by rfl)]
      go_simp
      have hk : Keeps (fun _ => False) W (W.alloc (.cells #[.int .u8 2, .int .u8 T] 5)) := (Keeps.refl _ _).alloc _
      refine hK.out _ _ (hS.next hk) ⟨fun e3 e9 => ?_, fun _ _ => ⟨W.heap.size, rfl, ?_⟩, fun e9 => ?_, fun e10 => hG.2.2.2 e10⟩
      · obtain ⟨p, c, h1, h2⟩ := hG.1 e3 e9
        exact ⟨p, c, h1, h2.keep hk (fun _ _ f => f)⟩
      · have := (OwnB.new W W (Nat.le_refl _) [2, UInt8.ofNat T] (n := 2) rfl (by unfold maxLen; omega)).bytes
        rw [List.map_cons, List.map_cons, List.map_nil, bv_lt T lT] at this
        exact this
      · obtain ⟨p, c, h1, h2⟩ := hG.2.2.1 e9
        exact ⟨p, c, h1, h2.keep hk (fun _ _ f => f)⟩
    · intro L f W hG hS hL hdep K hK
      simp only [actOf, List.foldl_cons, List.foldl_nil, Act.put, sA, sZ, sS] at hK ⊢
      rw [if_pos (by rfl)]
      have d3 := hdep ⟨3, .data⟩ (by simp) rfl (by decide)
      have d8 := hdep ⟨8, .data⟩ (by simp) rfl (by decide)
      obtain ⟨p7, c7, h7, hO⟩ := hG.1 d3 hL
      obtain ⟨g, h12, hB12⟩ := hG.2.1 d8 hL
      refine wp_append_b (.tmp 7) (.tmp 12) 71 rfl i0 Try.underlying71 hi0 hz0 hz1 hz2 wB (f 7) (be 2 U) rfl hO (f 12) rfl [2, UInt8.ofNat T] hB12 (by rw [be_len]; simp) ?_
      intro p c W' hO' hG'
      exact hK.out _ _ (hS.grow hsz.out hG' hO.2.1) ⟨fun _ e => absurd (show true = false from e) (by decide), fun _ e => absurd (show true = false from e) (by decide), fun _ => ⟨p, c, rfl, hO'⟩, fun e10 => absurd ((hG.2.2.2 e10).1.symm.trans hL) (by decide)⟩
    · intro L f W hG hS hL hdep K hK
      simp only [actOf, List.foldl_cons, List.foldl_nil, Act.put, sA, sZ, sS] at hK ⊢
      rw [if_pos (by rfl)]
      go_simp
      have d9 := hdep ⟨9, .data⟩ (by simp) rfl (by decide)
      exact hK.out _ _ hS ⟨fun e3 e9 => hG.1 e3 e9, fun e8 e9 => hG.2.1 e8 e9, fun e9 => hG.2.2.1 e9, fun _ => ⟨d9, rfl⟩⟩
  · intro f W hG hS
    obtain ⟨p13, c13, h13, hO13⟩ := hG.2.2.1 rfl
    have h3 := (hG.2.2.2 rfl).2
    simp only [actOf, List.foldl_cons, List.foldl_nil, Act.put, sA, sZ, sS]
    rw [h13] at hO13 h3
    rw [h3]
    have hO' := Lib.hid hO13; have hS' := Lib.hid hS
    generalize f 7 = f7
    generalize f 12 = f12
    generalize f 13 = f13
    clear hG h13 h3 hO13 hS f
    refine NoPanic.normal ?_
    obtain ⟨X1, hX1⟩ : ∃ X, X = be 2 U ++ [2, UInt8.ofNat T] := ⟨_, rfl⟩
    have hX1l : X1.length = 4 := by rw [hX1, List.length_append, be_len]; rfl
    rw [← hX1, show (be 2 U).length + 2 = X1.length by rw [hX1l, be_len]] at hO'
    rw [show (be 2 U).length + 2 = X1.length by rw [hX1l, be_len]]
    have hX1' := Lib.hid hX1; have hX1l' := Lib.hid hX1l
    clear hX1 hX1l
    have c2 := hS'.out.cell 2 (.int .u32 id) (by rw [hcs'.out]; rfl)
    have c3 := hS'.out.cell 3 (.int .u32 adv) (by rw [hcs'.out]; rfl)
    have c4 := hS'.out.cell 4 (.int .i64 seq) (by rw [hcs'.out]; rfl)
    go_wp2_with fail
    have hN : Hid (NumsAt (W.alloc (.cells #[.int .u32 id, .int .u32 adv, .int .u32 Z] 23)) (.slice (some ⟨W.heap.size, 0, none⟩) 3 3) [id, adv, Z]) := Lib.hid (NumsAt.new W [id, adv, Z] rfl)
    refine (wiLayAll_any wB _ X1 _ [id, adv, Z] (Lib.hid (by intro n hn; simp at hn; rcases hn with rfl | rfl | rfl <;> assumption)) (by rw [hX1l'.out]; simp) _ (Lib.hid (hO'.out.keep ((Keeps.refl (fun _ => False) _).alloc _) (fun _ _ f => f))) hN (Lib.hid (fun _ k e => by
      simp only [Value.ownBlock, Option.some.injEq] at e
      subst e
      refine ⟨fun e => ?_, by simp⟩
      have := lt_own hO'.out _ e; omega))).mono ?_
    rintro e W2 ⟨p2, d2, rfl, hO2, hg2⟩
    have hS2 := Lib.hid ((hS'.out.next ((Keeps.refl (fun _ => False) _).alloc (.cells #[.int .u32 id, .int .u32 adv, .int .u32 Z] 23))).grow hsz.out hg2 hO'.out.2.1)
    obtain ⟨X2, hX2⟩ : ∃ X, X = X1 ++ bes [id, adv, Z] := ⟨_, rfl⟩
    have hX2l : X2.length = 16 := by rw [hX2, List.length_append, hX1l'.out, bes_len]; rfl
    rw [← hX2, show X1.length + (bes [id, adv, Z]).length = X2.length by rw [hX2, List.length_append]] at hO2
    rw [show X1.length + (bes [id, adv, Z]).length = X2.length by rw [hX2, List.length_append]]
    have hX2' := Lib.hid hX2; have hX2l' := Lib.hid hX2l; have hO2' := Lib.hid hO2
    clear hX2 hX2l hO2 hg2 hS' hO' hN c2 c3 c4
    go_upto_region 3 with fail
    refine wp_region_noPanic ?_
    refine wp_region_held_drew (S := (fun W => Boxed w.heap.size cs wB W)) (by kernel_rfl) (hS2.out.next ((Keeps.refl _ _).drew)) (fun hHeld => ?_)
    refine tk 0 rfl ?_
    refine tk 1 rfl ?_
    refine tkL 2 rfl (yieldsIf_load_cell (by rfl) 80 (.tmp 27) rfl w.heap.size 5 rfl _ (fun _ s => s.cell 5 (.int .u16 sum) (by rw [hcs'.out]; rfl)) (fun w s => load_u16 w _ _ _ s)) ?_
    refine tk 4 rfl ?_
    refine tkL 5 rfl (yieldsIf_load_cell (by rfl) 3 (.tmp 30) rfl w.heap.size 6 rfl _ (fun _ s => s.cell 6 (.int .i64 len) (by rw [hcs'.out]; rfl)) (fun w s => load_int w _ _ _ s)) ?_
    refine tk 6 rfl ?_
    have hO3 := Lib.hid (hO2'.out.keep ((Keeps.refl (fun _ => False) _).drew) (fun _ _ f => f))
    refine stepL 3 rfl (by kernel_rfl) (fun K hK => ?_)
    go_simp
    (refine (wiLay16_any wB _ X2 sum hsum (by rw [hX2l'.out]; omega) _ hO3).mono ?_; rintro e W4 ⟨p4, d4, rfl, hO4, hg4⟩)
    go_wp2_with fail
    refine hK.out _ _ (hHeld.grow hsz.out hg4 hO3.out.2.1) (fun hHeld => ?_)
    clear hK K
    try simp only [Act.put, sA, sZ, sS]
    obtain ⟨X3, hX3⟩ : ∃ X, X = X2 ++ be 2 sum := ⟨_, rfl⟩
    have hX3l : X3.length = 18 := by rw [hX3, List.length_append, hX2l'.out, be_len]
    rw [← hX3, show X2.length + (be 2 sum).length = X3.length by rw [hX3, List.length_append]] at hO4
    rw [show X2.length + (be 2 sum).length = X3.length by rw [hX3, List.length_append]]
    have hX3' := Lib.hid hX3; have hX3l' := Lib.hid hX3l; have hO4' := Lib.hid hO4
    clear hX3 hX3l hO4 hg4 hO3
    refine stepL 7 rfl (by kernel_rfl) (fun K hK => ?_)
    go_simp
    (refine (wiLay16_any wB _ X3 Y lY (by rw [hX3l'.out]; omega) _ hO4').mono ?_; rintro e W5 ⟨p5, d5, rfl, hO5, hg5⟩)
    go_wp2_with fail
    refine hK.out _ _ (hHeld.grow hsz.out hg5 hO4'.out.2.1) (fun hHeld => ?_)
    clear hK K
    try simp only [Act.put, sA, sZ, sS]
    refine tk 8 rfl ?_
    refine wpAnyH_done (by kernel_rfl) (NoPanic.normal ?_) _
    have hfin : X3 ++ be 2 Y = headB ⟨age, type, id, adv, seq, sum, len⟩ := by
      rw [hX3'.out, hX2'.out, hX1'.out]
      unfold headB
      simp only [← hUl.out, ← hTl.out, ← hZl.out, ← hYl.out, be4_lo, be2_lo, bes, List.flatMap_cons, List.flatMap_nil, List.append_nil, List.append_assoc]
    have hl20 : X3.length + (be 2 Y).length = (headB ⟨age, type, id, adv, seq, sum, len⟩).length := by rw [← hfin, List.length_append]
    rw [hfin] at hO5
    have hO6 := Lib.hid hO5; have hS6 := Lib.hid hHeld; have hl20' := Lib.hid hl20
    clear hO5 hHeld hfin hl20 hg5
    go_wp2_with fail
    go_ret
    exact ⟨p5, d5, by rw [← hl20'.out]; rfl, by rw [← hl20'.out]; exact hO6.out.older (by have := hsz.out; omega), hwB.out.trans hS6.out.k⟩
end Go.Proofs.Ytdaongflpllfhaa
/- Links in memory; within, isWrong, the search among links. -/
namespace Go.Proofs.Ytdaongflpllfhaa
open Go.RowKit

/-- a link, plain -/
structure LinkD where
  id : Nat
  data : Nat
  type : Int
  cost : Int
def LinkD.ok (l : LinkD) : Prop := l.id < 4294967296 ∧ l.data < 4294967296 ∧ (-9223372036854775808 ≤ l.type ∧ l.type ≤ 9223372036854775807) ∧ (-9223372036854775808 ≤ l.cost ∧ l.cost ≤ 9223372036854775807)
def linkVals (l : LinkD) : List Value := [.int .u32 l.id, .int .u32 l.data, .int .i64 l.type, .int .i64 l.cost]
theorem linkInfo : (Try.prog.info? 70).map (·.size) = some 4 := by kernel_rfl
/-- links in memory -/
def LinksAt (w : World) (v : Value) (ls : List LinkD) : Prop := ∃ p c, v = .slice p ls.length c ∧ (p = none → c = 0) ∧ ls.length ≤ c ∧ (0 < ls.length → ∃ g o, p = some ⟨g, o, none⟩ ∧ ∀ i l, ls[i]? = some l → w.rangeAt g (o + i * 4) (linkVals l))
theorem LinksAt.keepF {F : Nat → Prop} {w w' : World} {v : Value} {ls : List LinkD} (h : LinksAt w v ls) (k : Keeps F w w') (hF : 0 < ls.length → ∀ i, v.ownBlock = some i → ¬ F i) : LinksAt w' v ls := by
  obtain ⟨p, c, rfl, hp, hc, h⟩ := h
  refine ⟨p, c, rfl, hp, hc, fun h0 => ?_⟩
  obtain ⟨g, o, rfl, hr⟩ := h h0
  exact ⟨g, o, rfl, fun i l hl => k.rangeAt (hr i l hl) (hF h0 g rfl)⟩
theorem LinksAt.keep {w w' : World} {v : Value} {ls : List LinkD} (h : LinksAt w v ls) (k : Keeps (fun _ => False) w w') : LinksAt w' v ls := h.keepF k (fun _ _ _ f => f)
theorem LinksAt.nil (w : World) : LinksAt w (.slice none 0 0) [] := ⟨none, 0, rfl, fun _ => rfl, Nat.le_refl _, fun h => by simp at h⟩
def withinB (n lo hi : Int) : Bool := decide (lo ≤ n ∧ n ≤ hi)
theorem lsWithin_r (n lo hi : Int) (r : Bool) (w : World) (hr : Hid (withinB n lo hi = r)) :
    Calls Try.prog 106 #[.int .i64 n, .int .i64 lo, .int .i64 hi] w fun e w' => e = .returned (.bool r) ∧ w = w' := by
  have h := hr.out
  unfold withinB at h
  by_cases h1 : lo ≤ n
  · by_cases h2 : n ≤ hi
    · rw [decide_eq_true ⟨h1, h2⟩] at h
      subst h
      go_enter Try.func106, Try.ntmps106
      go_wp2
      go_ret
      exact ⟨rfl, rfl⟩
    · rw [decide_eq_false (fun h => h2 h.2)] at h
      subst h
      go_enter Try.func106, Try.ntmps106
      go_wp2
      go_ret
      exact ⟨rfl, rfl⟩
  · rw [decide_eq_false (fun h => h1 h.1)] at h
    subst h
    go_enter Try.func106, Try.ntmps106
    go_wp2
    go_ret
    exact ⟨rfl, rfl⟩
def wrongB (l : LinkD) : Bool := !withinB l.type 1 4 || !withinB l.cost 0 65535
theorem lsIsWrong_r (l : LinkD) (r : Bool) (w : World) (hr : Hid (wrongB l = r)) :
    Calls Try.prog 108 #[.agg #[.int .u32 l.id, .int .u32 l.data, .int .i64 l.type, .int .i64 l.cost]] w (fun e w' => e = .returned (.bool r) ∧ Keeps (fun _ => False) w w') := by
  have h := hr.out
  unfold wrongB at h
  obtain ⟨a, ha⟩ : ∃ a, withinB l.type 1 4 = a := ⟨_, rfl⟩
  obtain ⟨b, hb⟩ : ∃ b, withinB l.cost 0 65535 = b := ⟨_, rfl⟩
  rw [ha, hb] at h
  have ha' := Lib.hid ha; have hb' := Lib.hid hb
  clear ha hb hr
  cases a
  · have h' : true = r := h
    subst h'
    clear h
    go_enter Try.func108, Try.ntmps108
    go_wp2_with (go_at_call 106; refine (lsWithin_r _ _ _ false _ ha').mono ?_; rintro e w' ⟨rfl, rfl⟩)
    go_ret
    exact ⟨rfl, (Keeps.refl _ _).alloc _⟩
  · have h' : (!b) = r := h
    subst h'
    clear h
    go_enter Try.func108, Try.ntmps108
    go_wp2_with fail
    refine (lsWithin_r _ _ _ true _ ha').mono ?_
    rintro e w' ⟨rfl, rfl⟩
    go_wp2_with fail
    refine (lsWithin_r _ _ _ b _ hb').mono ?_
    rintro e w' ⟨rfl, rfl⟩
    go_wp2_with fail
    go_ret
    exact ⟨rfl, (Keeps.refl _ _).alloc _⟩
def anyFrom (ls : List LinkD) (k : Nat) : Bool := (ls.drop k).any wrongB
theorem anyFrom_step (ls : List LinkD) (k : Nat) (l : LinkD) (h : ls[k]? = some l) : anyFrom ls k = (wrongB l || anyFrom ls (k + 1)) := by
  obtain ⟨hk, rfl⟩ := List.getElem?_eq_some_iff.1 h
  unfold anyFrom
  rw [List.drop_eq_getElem_cons hk, List.any_cons]
theorem anyFrom_end (ls : List LinkD) : anyFrom ls ls.length = false := by unfold anyFrom; simp
set_option maxRecDepth 100000 in
theorem slIFLinks_any (sl : Value) (ls : List LinkD) (hl : ls.length ≤ 9223372036854775807) (z : Bool) (w : World) (h : Hid (LinksAt w sl ls)) (hz : Hid (ls.any wrongB = z)) :
    Calls Try.prog 118 #[sl, .func (.func 108) #[] #[]] w (fun e w' => (∃ r : Int, e = .returned (.int .i64 r) ∧ decide (0 ≤ r) = z) ∧ Keeps (fun _ => False) w w') := by
  obtain ⟨p, c, rfl, -, -, hb⟩ := h.out
  have hb' := Lib.hid hb; clear hb h
  go_enter Try.func118, Try.ntmps118
  go_wp2_with fail
  go_loopw [8] (fun iv wr => ∃ k : Nat, k ≤ ls.length ∧ iv = .int .i64 k ∧ Hid (anyFrom ls k = z) ∧ Hid (Keeps (fun _ => False) w wr)) (fun iv _ => ls.length - (intOf iv).toNat)
  case atStart => exact ⟨0, by omega, rfl, Lib.hid hz.out, Lib.hid (Keeps.refl _ _)⟩
  case round =>
    obtain ⟨k, hk, rfl, hany, hkr⟩ := hrel
    by_cases hlk : k < ls.length
    · obtain ⟨g, o, rfl, hrows⟩ := hb'.out (by omega)
      obtain ⟨l, hll⟩ : ∃ l, ls[k]? = some l := ⟨_, List.getElem?_eq_getElem hlk⟩
      have hrow : Hid (wr.rangeAt g (o + k * 4) [.int .u32 l.id, .int .u32 l.data, .int .i64 l.type, .int .i64 l.cost]) := Lib.hid (hkr.out.rangeAt (hrows k l hll) id)
      have hst := anyFrom_step ls k l hll
      rw [hany.out] at hst
      obtain ⟨x, hx⟩ : ∃ x, wrongB l = x := ⟨_, rfl⟩
      rw [hx] at hst
      have hx' := Lib.hid hx; have hst' := Lib.hid hst
      clear hx hst hrows hll hany
      go_wp2_with ((with_reducible refine at_slot 15 ?_); refine wpList_load_mid rfl 70 (.tmp 14) rfl g (o + k * 4) rfl _ _ hrow.out Try.underlying70 rfl linkInfo ?_)
      refine (lsIsWrong_r l x _ hx').mono ?_
      rintro e w2 ⟨rfl, k2⟩
      have k2' := Lib.hid (hkr.out.trans k2); clear k2
      cases x with
      | true =>
        have hz1 : Hid (z = true) := Lib.hid hst'.out
        clear hst'
        go_wp2_with fail
        go_ret
        exact ⟨⟨_, rfl, by rw [hz1.out]; simp⟩, k2'.out⟩
      | false =>
        have hz1 : Hid (anyFrom ls (k + 1) = z) := Lib.hid hst'.out.symm
        clear hst'
        go_wp2_with fail
        exact ⟨⟨k + 1, by omega, by go_num, hz1, k2'⟩, by simp [intOf]; omega⟩
    · obtain rfl : k = ls.length := by omega
      have hz1 : Hid (z = false) := Lib.hid (by rw [← hany.out, anyFrom_end])
      clear hany
      go_wp2_with fail
      go_ret
      exact ⟨⟨_, rfl, by rw [hz1.out]; rfl⟩, hkr.out⟩
theorem slCFLinks_any (sl : Value) (ls : List LinkD) (hl : ls.length ≤ 9223372036854775807) (z : Bool) (w : World) (h : Hid (LinksAt w sl ls)) (hz : Hid (ls.any wrongB = z)) :
    Calls Try.prog 107 #[sl, .func (.func 108) #[] #[]] w (fun e w' => e = .returned (.bool z) ∧ Keeps (fun _ => False) w w') := by
  go_enter Try.func107, Try.ntmps107
  go_wp2_with fail
  refine (slIFLinks_any sl ls hl z _ h hz).mono ?_
  rintro e w2 ⟨⟨r, rfl, hr⟩, k2⟩
  have hr' := Lib.hid hr; have k2' := Lib.hid k2
  clear hr k2
  go_wp2_with fail
  go_ret
  exact ⟨by rw [← hr'.out]; rfl, k2'.out⟩
end Go.Proofs.Ytdaongflpllfhaa
