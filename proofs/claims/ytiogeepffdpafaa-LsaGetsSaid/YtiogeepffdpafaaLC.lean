/- Headers as bytes: the document's PutHeader, walked. -/
import Derived.Test.YtiogeepffdpafaaLB
import Derived.Deep.DeepCutAuto
namespace Go.Proofs.Ytiogeepffdpafaa
open Go.RowKit

/-- a header, plain -/
structure HeadD where
  age : Int
  type : Int
  id : Nat
  adv : Nat
  seq : Int
  sum : Nat
  len : Int
def headV (h : HeadD) : Value := .agg #[.int .i64 h.age, .int .i64 h.type, .int .u32 h.id, .int .u32 h.adv, .int .i64 h.seq, .int .u16 h.sum, .int .i64 h.len]

theorem load_int (w : World) (b o : Nat) (v : Value) (h : w.cell? ⟨b, o, none⟩ = some v) : (loadVar 3 ⟨b, o, none⟩).run Try.prog w = .ok v w := by simp [go_sem, h]
theorem load_u32 (w : World) (b o : Nat) (v : Value) (h : w.cell? ⟨b, o, none⟩ = some v) : (loadVar 22 ⟨b, o, none⟩).run Try.prog w = .ok v w := by simp [go_sem, h]
theorem load_u16 (w : World) (b o : Nat) (v : Value) (h : w.cell? ⟨b, o, none⟩ = some v) : (loadVar 43 ⟨b, o, none⟩).run Try.prog w = .ok v w := by simp [go_sem, h]
theorem load_u8 (w : World) (b o : Nat) (v : Value) (h : w.cell? ⟨b, o, none⟩ = some v) : (loadVar 5 ⟨b, o, none⟩).run Try.prog w = .ok v w := by simp [go_sem, h]
theorem bv_lt (n : Nat) (h : n < 256) : bv (UInt8.ofNat n) = .int .u8 (n : Int) := by
  unfold bv
  have : (UInt8.ofNat n).toNat = n := by simp; omega
  rw [this]
theorem u64_wrap (n : Int) : IntKind.u64.wrap n = n % 18446744073709551616 := by
  unfold IntKind.wrap
  have h1 : IntKind.u64.signed = false := rfl
  have h2 : (2 : Int) ^ IntKind.u64.bits = 18446744073709551616 := rfl
  simp [h1, h2]
theorem u8_wrap (n : Int) : IntKind.u8.wrap n = n % 256 := by
  unfold IntKind.wrap
  have h1 : IntKind.u8.signed = false := rfl
  have h2 : (2 : Int) ^ IntKind.u8.bits = 256 := rfl
  simp [h1, h2]
theorem u16_wrap (n : Int) : IntKind.u16.wrap n = n % 65536 := by
  unfold IntKind.wrap
  have h1 : IntKind.u16.signed = false := rfl
  have h2 : (2 : Int) ^ IntKind.u16.bits = 65536 := rfl
  simp [h1, h2]
theorem u32_wrap (n : Int) : IntKind.u32.wrap n = n % 4294967296 := by
  unfold IntKind.wrap
  have h1 : IntKind.u32.signed = false := rfl
  have h2 : (2 : Int) ^ IntKind.u32.bits = 4294967296 := rfl
  simp [h1, h2]
def lo64 (n : Int) : Nat := (n % 18446744073709551616).toNat
def lo32 (n : Int) : Nat := (n % 4294967296).toNat
def lo16 (n : Int) : Nat := (n % 65536).toNat
def lo8 (n : Int) : Nat := (n % 256).toNat
theorem u64_nat (n : Int) : ∃ U : Nat, IntKind.u64.wrap n = (U : Int) ∧ U < 18446744073709551616 ∧ Hid (lo64 n = U) := ⟨lo64 n, by rw [u64_wrap]; unfold lo64; omega, by unfold lo64; omega, Lib.hid rfl⟩
theorem u32_nat (n : Int) : ∃ U : Nat, IntKind.u32.wrap n = (U : Int) ∧ U < 4294967296 ∧ Hid (lo32 n = U) := ⟨lo32 n, by rw [u32_wrap]; unfold lo32; omega, by unfold lo32; omega, Lib.hid rfl⟩
theorem u16_nat (n : Int) : ∃ U : Nat, IntKind.u16.wrap n = (U : Int) ∧ U < 65536 ∧ Hid (lo16 n = U) := ⟨lo16 n, by rw [u16_wrap]; unfold lo16; omega, by unfold lo16; omega, Lib.hid rfl⟩
theorem u8_nat (n : Int) : ∃ U : Nat, IntKind.u8.wrap n = (U : Int) ∧ U < 256 ∧ Hid (lo8 n = U) := ⟨lo8 n, by rw [u8_wrap]; unfold lo8; omega, by unfold lo8; omega, Lib.hid rfl⟩
/-- a header's 20 bytes -/
def headB (h : HeadD) : List UInt8 := be 2 (lo64 h.age) ++ [2, UInt8.ofNat (lo8 h.type)] ++ be 4 h.id ++ be 4 h.adv ++ be 4 (lo64 h.seq) ++ be 2 h.sum ++ be 2 (lo64 h.len)
theorem headB_len (h : HeadD) : (headB h).length = 20 := by unfold headB; simp [be_len]
theorem Boxed.grow {B : Nat} {cs : List Value} {w0 W W' : World} (s : Boxed B cs w0 W) (hB : B < w0.heap.size) {v : Value} {p : Option Addr} {n c : Nat} (g : Grown W v p n c W') (hv : ∀ k, v.ownBlock = some k → w0.heap.size ≤ k) : Boxed B cs w0 W' :=
  ⟨g.k.rangeAt s.r (fun e => by have := hv B e; omega), s.k.trans' g.k (fun i e => .inr (hv i e))⟩
theorem run_append_b {P : Program} (w : World) (t ty : TypeId) (i : TypeInfo) (ht : P.underlying t = some (.slice 5)) (hi : P.info? 5 = some i) (hz : i.zero = some (.int .u8 0)) (hsize : i.size = 1) (hby : i.bytes = 1)
    (w0 : World) (v : Value) (xs : List UInt8) (hown : OwnB w0 w v xs) (sv : Value) (l : List UInt8) (hl : BytesAt w sv l) (hsz : xs.length + l.length ≤ 70368744177664) :
    ∃ p c w', (Builtin.append_ #[t, t] ty #[v, sv]).run P w = .ok (.slice p (xs.length + l.length) c) w' ∧ OwnB w0 w' (.slice p (xs.length + l.length) c) (xs ++ l) ∧ Grown w v p (xs.length + l.length) c w' := by
  obtain ⟨sp, sc, rfl, hp, -, hlr⟩ := hl
  cases sp with
  | none =>
    have h0 : l.length = 0 := by
      rcases Nat.eq_zero_or_pos l.length with h | h
      · exact h
      · obtain ⟨b, o, e, _⟩ := hlr h; cases e
    have hc := hp rfl
    subst hc
    have hl0 : l = [] := List.length_eq_zero_iff.1 h0
    subst hl0
    obtain ⟨p, c, rfl⟩ := hown.slice
    exact ⟨p, c, w, run_append_owned_none (P := P) (w := w) 0 t ty 5 i 1 ht hi _ xs.length (xs.map bv) hown.1, by simpa using hown, Keeps.refl _ _, fun k e => .inl e⟩
  | some ad =>
    obtain ⟨v', w', hr, h2, h3, h4⟩ := run_append_sep (P := P) w t ty 5 i (.int .u8 0) 1 1 ht hi hz hsize hby rfl (by decide) v xs.length (xs.map bv) hown.1 ad l.length sc (l.map bv) (by simp) (fun j u hu => by
      have h0 : 0 < l.length := by
        have := (List.getElem?_eq_some_iff.1 hu).1; simp at this; omega
      obtain ⟨b, o, e, hr⟩ := hlr h0
      injection e with e; subst e
      rw [Addr.add_mid]; exact hr j u hu) (bv_one l) (by unfold maxLen; omega) (by omega)
    obtain ⟨p, c, rfl⟩ := ownsRow_slice h2
    refine ⟨p, c, w', hr, ⟨by simpa using h2, fun k e => ?_, Nat.le_trans hown.2.2 h3.size⟩, (Keeps.refl _ _).grown h3 (fun k e => .inl e), h4⟩
    rcases h4 k e with e | e
    · exact hown.2.1 k e
    · exact Nat.le_trans hown.2.2 e
/-- bytes of whatever source behind bytes of the call's own: one operation -/
theorem wp_append_b {P : Program} {w : World} {o : Oper} {a : Act} {K : Act → World → Prop} {Q : Exit → Act → World → Prop} (s x : Operand) (t : TypeId)
    (ho : o.op = .call { callee := .builtin .append, args := #[s, x], argTypes := #[t, t] })
    (i : TypeInfo) (ht : P.underlying t = some (.slice 5)) (hi : P.info? 5 = some i) (hz : i.zero = some (.int .u8 0)) (hsize : i.size = 1) (hby : i.bytes = 1)
    (w0 : World) (v : Value) (xs : List UInt8) (hs : a.eval s = v) (hown : OwnB w0 w v xs) (sv : Value) (hx : a.eval x = sv) (l : List UInt8) (hl : BytesAt w sv l) (hsz : xs.length + l.length ≤ 70368744177664)
    (h : ∀ p c w', OwnB w0 w' (.slice p (xs.length + l.length) c) (xs ++ l) → Grown w v p (xs.length + l.length) c w' → K (a.put o.dst (.slice p (xs.length + l.length) c)) w') : Oper.wp P o a w K Q := by
  obtain ⟨p, c, w', hr, h1, h2⟩ := run_append_b (P := P) w t o.type i ht hi hz hsize hby w0 v xs hown sv l hl hsz
  unfold Oper.wp execOp
  simp only [ho, resolve, invoke, builtin, Sem.run_bind, Sem.run_pure, Result.andThen_ok, List.map_toArray, List.map_cons, List.map_nil, hs, hx, hr]
  exact h p c w' h1 h2

set_option maxRecDepth 100000 in
set_option maxHeartbeats 1000000 in
theorem r10PutHeader_any (age type seq len : Int) (id adv sum : Nat) (hid : id < 4294967296) (hadv : adv < 4294967296) (hsum : sum < 65536) (w : World) :
    Calls Try.prog 60 #[.agg #[.int .i64 age, .int .i64 type, .int .u32 id, .int .u32 adv, .int .i64 seq, .int .u16 sum, .int .i64 len]] w (NewOwn (headB ⟨age, type, id, adv, seq, sum, len⟩) w) := by
  obtain ⟨i0, hi0, hz0, hz1, hz2⟩ := info_parts u8InfoAll
  obtain ⟨cs, hcs⟩ : ∃ cs : List Value, cs = [.int .i64 age, .int .i64 type, .int .u32 id, .int .u32 adv, .int .i64 seq, .int .u16 sum, .int .i64 len] := ⟨_, rfl⟩
  have hB : Hid (Boxed w.heap.size cs (w.alloc (.cells #[.int .i64 age, .int .i64 type, .int .u32 id, .int .u32 adv, .int .i64 seq, .int .u16 sum, .int .i64 len] 51)) (w.alloc (.cells #[.int .i64 age, .int .i64 type, .int .u32 id, .int .u32 adv, .int .i64 seq, .int .u16 sum, .int .i64 len] 51))) := Lib.hid (by rw [hcs]; exact boxed_new0 w _ _)
  have hsz : Hid (w.heap.size < (w.alloc (.cells #[.int .i64 age, .int .i64 type, .int .u32 id, .int .u32 adv, .int .i64 seq, .int .u16 sum, .int .i64 len] 51)).heap.size) := Lib.hid (by simp)
  have hwB : Hid (Keeps (fun _ => False) w (w.alloc (.cells #[.int .i64 age, .int .i64 type, .int .u32 id, .int .u32 adv, .int .i64 seq, .int .u16 sum, .int .i64 len] 51))) := Lib.hid ((Keeps.refl _ _).alloc _)
  have hcs' := Lib.hid hcs; clear hcs
  go_enter Try.func60, Try.ntmps60
  go_upto_region 1 with fail
  generalize w.alloc (.cells #[.int .i64 age, .int .i64 type, .int .u32 id, .int .u32 adv, .int .i64 seq, .int .u16 sum, .int .i64 len] 51) = wB at hB hsz hwB ⊢
  refine wp_region_noPanic ?_
  refine wp_region_held_drew (S := (fun W => Boxed w.heap.size cs wB W)) (by kernel_rfl) (hB.out.next ((Keeps.refl _ _).drew)) (fun hHeld => ?_)
  refine takeL 0 (v := ?_) rfl (by kernel_rfl) (by kernel_rfl) (by kernel_rfl) (fun _ _ _ h => h) (Or.inl ⟨by rfl, ?_⟩) (by assumption) ?_
  rotate_left
  · (intro wS hSw; go_simp; try with_reducible rfl)
  try simp only [Act.put, List.setIfInBounds_toArray, List.set_cons_zero, List.set_cons_succ]
  refine takeL 1 rfl (by kernel_rfl) (by kernel_rfl) (by kernel_rfl) (fun _ _ _ h => h) (yieldsIf_load_cell (by rfl) 3 (.tmp 4) rfl w.heap.size 0 rfl _ (fun _ s => s.cell 0 (.int .i64 age) (by rw [hcs'.out]; rfl)) (fun w s => load_int w _ _ _ s)) (by assumption) ?_
  try simp only [Act.put, List.setIfInBounds_toArray, List.set_cons_zero, List.set_cons_succ]
  refine takeL 2 (v := ?_) rfl (by kernel_rfl) (by kernel_rfl) (by kernel_rfl) (fun _ _ _ h => h) (Or.inl ⟨by rfl, ?_⟩) (by assumption) ?_
  rotate_left
  · (intro wS hSw; go_simp; try with_reducible rfl)
  try simp only [Act.put, List.setIfInBounds_toArray, List.set_cons_zero, List.set_cons_succ]
  refine takeL 4 (v := ?_) rfl (by kernel_rfl) (by kernel_rfl) (by kernel_rfl) (fun _ _ _ h => h) (Or.inl ⟨by rfl, ?_⟩) (by assumption) ?_
  rotate_left
  · (intro wS hSw; go_simp; try with_reducible rfl)
  try simp only [Act.put, List.setIfInBounds_toArray, List.set_cons_zero, List.set_cons_succ]
  refine takeL 5 (v := ?_) rfl (by kernel_rfl) (by kernel_rfl) (by kernel_rfl) (fun _ _ _ h => h) (Or.inl ⟨by rfl, ?_⟩) (by assumption) ?_
  rotate_left
  · (intro wS hSw; go_simp; try with_reducible rfl)
  try simp only [Act.put, List.setIfInBounds_toArray, List.set_cons_zero, List.set_cons_succ]
  refine takeL 6 rfl (by kernel_rfl) (by kernel_rfl) (by kernel_rfl) (fun _ _ _ h => h) (yieldsIf_load_cell (by rfl) 3 (.tmp 9) rfl w.heap.size 1 rfl _ (fun _ s => s.cell 1 (.int .i64 type) (by rw [hcs'.out]; rfl)) (fun w s => load_int w _ _ _ s)) (by assumption) ?_
  try simp only [Act.put, List.setIfInBounds_toArray, List.set_cons_zero, List.set_cons_succ]
  refine takeL 7 (v := ?_) rfl (by kernel_rfl) (by kernel_rfl) (by kernel_rfl) (fun _ _ _ h => h) (Or.inl ⟨by rfl, ?_⟩) (by assumption) ?_
  rotate_left
  · (intro wS hSw; go_simp; try with_reducible rfl)
  try simp only [Act.put, List.setIfInBounds_toArray, List.set_cons_zero, List.set_cons_succ]
  obtain ⟨U, hU, lU, hUl⟩ := u64_nat age
  obtain ⟨T, hT, lT, hTl⟩ := u8_nat type
  rw [hU, hT]
  refine wpAnyH_slots [7, 12, 13, 3] [3, 8, 9, 10] (fun L f W =>
      (L 3 = true → L 9 = false → ∃ p c, f 7 = .slice p (be 2 U).length c ∧ OwnB wB W (f 7) (be 2 U)) ∧
      (L 8 = true → L 9 = false → ∃ g, f 12 = .slice (some ⟨g, 0, none⟩) 2 2 ∧ BytesAt W (f 12) [2, UInt8.ofNat T]) ∧
      (L 9 = true → ∃ p c, f 13 = .slice p ((be 2 U).length + 2) c ∧ OwnB wB W (f 13) (be 2 U ++ [2, UInt8.ofNat T])) ∧
      (L 10 = true → L 9 = true ∧ f 3 = f 13)) (by kernel_rfl) (by kernel_rfl) (by kernel_rfl) (by kernel_rfl) (Nat.le_of_ble_eq_true (by kernel_rfl)) hHeld
    (fun L f h => ⟨fun e => absurd (h 3 (by decide)) (by rw [e]; decide), fun e => absurd (h 8 (by decide)) (by rw [e]; decide), fun e => absurd (h 9 (by decide)) (by rw [e]; decide), fun e => absurd (h 10 (by decide)) (by rw [e]; decide)⟩) ?_ ?_
  · refine StepsG.cons (d := 7) rfl rfl (by decide) ?_ (StepsG.cons (d := 12) rfl rfl (by decide) ?_ (StepsG.cons (d := 13) rfl rfl (by decide) ?_ (StepsG.cons (d := 3) rfl rfl (by decide) ?_ StepsG.nil)))
    · intro L f W hG hS hL hdep K hK
      simp only [actOf, List.foldl_cons, List.foldl_nil, Act.put, List.setIfInBounds_toArray, List.set_cons_zero, List.set_cons_succ] at hK ⊢
      rw [if_pos (by rfl)]
      go_simp
      refine (r10num_any U 2 lU (by omega) _).mono ?_
      rintro e W' ⟨p, c, rfl, hO, hk⟩
      go_wp2_with fail
      refine hK.out _ _ (hS.next hk) ⟨fun _ _ => ⟨p, c, rfl, hO.older hS.k.size⟩, fun e8 e9 => ?_, fun e9 => ?_, fun e10 => hG.2.2.2 e10⟩
      · obtain ⟨g, h1, h2⟩ := hG.2.1 e8 e9
        exact ⟨g, h1, h2.keep hk⟩
      · obtain ⟨p, c, h1, h2⟩ := hG.2.2.1 e9
        exact ⟨p, c, h1, h2.keep hk (fun _ _ f => f)⟩
    · intro L f W hG hS hL hdep K hK
      simp only [actOf, List.foldl_cons, List.foldl_nil, Act.put, List.setIfInBounds_toArray, List.set_cons_zero, List.set_cons_succ] at hK ⊢
      rw [if_pos (by rfl)]
      go_simp
      have hk : Keeps (fun _ => False) W (W.alloc (.cells #[.int .u8 2, .int .u8 T] 5)) := (Keeps.refl _ _).alloc _
      refine hK.out _ _ (hS.next hk) ⟨fun e3 e9 => ?_, fun _ _ => ⟨W.heap.size, rfl, ?_⟩, fun e9 => ?_, fun e10 => hG.2.2.2 e10⟩
      · obtain ⟨p, c, h1, h2⟩ := hG.1 e3 e9
        exact ⟨p, c, h1, h2.keep hk (fun _ _ f => f)⟩
      · have := (OwnB.new W W (Nat.le_refl _) [2, UInt8.ofNat T] (n := 2) rfl (by unfold maxLen; omega)).bytes
        rw [List.map_cons, List.map_cons, List.map_nil, bv_lt T lT] at this
        exact this
      · obtain ⟨p, c, h1, h2⟩ := hG.2.2.1 e9
        exact ⟨p, c, h1, h2.keep hk (fun _ _ f => f)⟩
    · intro L f W hG hS hL hdep K hK
      simp only [actOf, List.foldl_cons, List.foldl_nil, Act.put, List.setIfInBounds_toArray, List.set_cons_zero, List.set_cons_succ] at hK ⊢
      rw [if_pos (by rfl)]
      have d3 := hdep ⟨3, .data⟩ (by simp) rfl (by decide)
      have d8 := hdep ⟨8, .data⟩ (by simp) rfl (by decide)
      obtain ⟨p7, c7, h7, hO⟩ := hG.1 d3 hL
      obtain ⟨g, h12, hB12⟩ := hG.2.1 d8 hL
      refine wp_append_b (.tmp 7) (.tmp 12) 29 rfl i0 Try.underlying29 hi0 hz0 hz1 hz2 wB (f 7) (be 2 U) rfl hO (f 12) rfl [2, UInt8.ofNat T] hB12 (by rw [be_len]; simp) ?_
      intro p c W' hO' hG'
      exact hK.out _ _ (hS.grow hsz.out hG' hO.2.1) ⟨fun _ e => absurd (show true = false from e) (by decide), fun _ e => absurd (show true = false from e) (by decide), fun _ => ⟨p, c, rfl, hO'⟩, fun e10 => absurd ((hG.2.2.2 e10).1.symm.trans hL) (by decide)⟩
    · intro L f W hG hS hL hdep K hK
      simp only [actOf, List.foldl_cons, List.foldl_nil, Act.put, List.setIfInBounds_toArray, List.set_cons_zero, List.set_cons_succ] at hK ⊢
      rw [if_pos (by rfl)]
      go_simp
      have d9 := hdep ⟨9, .data⟩ (by simp) rfl (by decide)
      exact hK.out _ _ hS ⟨fun e3 e9 => hG.1 e3 e9, fun e8 e9 => hG.2.1 e8 e9, fun e9 => hG.2.2.1 e9, fun _ => ⟨d9, rfl⟩⟩
  · intro f W hG hS
    obtain ⟨p13, c13, h13, hO13⟩ := hG.2.2.1 rfl
    have h3 := (hG.2.2.2 rfl).2
    simp only [actOf, List.foldl_cons, List.foldl_nil, Act.put, List.setIfInBounds_toArray, List.set_cons_zero, List.set_cons_succ]
    rw [h13] at hO13 h3
    rw [h3]
    have hO' := Lib.hid hO13; have hS' := Lib.hid hS
    generalize f 7 = f7
    generalize f 12 = f12
    generalize f 13 = f13
    clear hG h13 h3 hO13 hS f
    refine NoPanic.normal ?_
    obtain ⟨X1, hX1⟩ : ∃ X, X = be 2 U ++ [2, UInt8.ofNat T] := ⟨_, rfl⟩
    have hX1l : X1.length = 4 := by rw [hX1, List.length_append, be_len]; rfl
    rw [← hX1, show (be 2 U).length + 2 = X1.length by rw [hX1l, be_len]] at hO'
    rw [show (be 2 U).length + 2 = X1.length by rw [hX1l, be_len]]
    have hX1' := Lib.hid hX1; have hX1l' := Lib.hid hX1l
    clear hX1 hX1l
    obtain ⟨Z, hZ, lZ, hZl⟩ := u64_nat seq
    have wid : IntKind.u64.wrap (id : Int) = (id : Int) := IntWalk.u64_in _ (by omega)
    have wadv : IntKind.u64.wrap (adv : Int) = (adv : Int) := IntWalk.u64_in _ (by omega)
    have wsum : IntKind.u64.wrap (sum : Int) = (sum : Int) := IntWalk.u64_in _ (by omega)
    go_upto_region 2 with fail
    refine wp_region_noPanic ?_
    refine wp_region_held_drew (S := (fun W => Boxed w.heap.size cs wB W)) (by kernel_rfl) (hS'.out.next ((Keeps.refl _ _).drew)) (fun hHeld => ?_)
    refine takeL 0 (v := ?_) rfl (by kernel_rfl) (by kernel_rfl) (by kernel_rfl) (fun _ _ _ h => h) (Or.inl ⟨by rfl, ?_⟩) (by assumption) ?_
    rotate_left
    · (intro wS hSw; go_simp; try with_reducible rfl)
    try simp only [Act.put, List.setIfInBounds_toArray, List.set_cons_zero, List.set_cons_succ]
    refine takeL 1 (v := ?_) rfl (by kernel_rfl) (by kernel_rfl) (by kernel_rfl) (fun _ _ _ h => h) (Or.inl ⟨by rfl, ?_⟩) (by assumption) ?_
    rotate_left
    · (intro wS hSw; go_simp; try with_reducible rfl)
    try simp only [Act.put, List.setIfInBounds_toArray, List.set_cons_zero, List.set_cons_succ]
    refine takeL 2 (v := ?_) rfl (by kernel_rfl) (by kernel_rfl) (by kernel_rfl) (fun _ _ _ h => h) (Or.inl ⟨by rfl, ?_⟩) (by assumption) ?_
    rotate_left
    · (intro wS hSw; go_simp; try with_reducible rfl)
    try simp only [Act.put, List.setIfInBounds_toArray, List.set_cons_zero, List.set_cons_succ]
    refine takeL 3 rfl (by kernel_rfl) (by kernel_rfl) (by kernel_rfl) (fun _ _ _ h => h) (yieldsIf_load_cell (by rfl) 22 (.tmp 16) rfl w.heap.size 2 rfl _ (fun _ s => s.cell 2 (.int .u32 id) (by rw [hcs'.out]; rfl)) (fun w s => load_u32 w _ _ _ s)) (by assumption) ?_
    try simp only [Act.put, List.setIfInBounds_toArray, List.set_cons_zero, List.set_cons_succ]
    refine takeL 4 (v := ?_) rfl (by kernel_rfl) (by kernel_rfl) (by kernel_rfl) (fun _ _ _ h => h) (Or.inl ⟨by rfl, ?_⟩) (by assumption) ?_
    rotate_left
    · (intro wS hSw; go_simp; try with_reducible rfl)
    try simp only [Act.put, List.setIfInBounds_toArray, List.set_cons_zero, List.set_cons_succ]
    refine takeL 7 (v := ?_) rfl (by kernel_rfl) (by kernel_rfl) (by kernel_rfl) (fun _ _ _ h => h) (Or.inl ⟨by rfl, ?_⟩) (by assumption) ?_
    rotate_left
    · (intro wS hSw; go_simp; try with_reducible rfl)
    try simp only [Act.put, List.setIfInBounds_toArray, List.set_cons_zero, List.set_cons_succ]
    refine takeL 8 (v := ?_) rfl (by kernel_rfl) (by kernel_rfl) (by kernel_rfl) (fun _ _ _ h => h) (Or.inl ⟨by rfl, ?_⟩) (by assumption) ?_
    rotate_left
    · (intro wS hSw; go_simp; try with_reducible rfl)
    try simp only [Act.put, List.setIfInBounds_toArray, List.set_cons_zero, List.set_cons_succ]
    refine takeL 9 rfl (by kernel_rfl) (by kernel_rfl) (by kernel_rfl) (fun _ _ _ h => h) (yieldsIf_load_cell (by rfl) 22 (.tmp 22) rfl w.heap.size 3 rfl _ (fun _ s => s.cell 3 (.int .u32 adv) (by rw [hcs'.out]; rfl)) (fun w s => load_u32 w _ _ _ s)) (by assumption) ?_
    try simp only [Act.put, List.setIfInBounds_toArray, List.set_cons_zero, List.set_cons_succ]
    refine takeL 10 (v := ?_) rfl (by kernel_rfl) (by kernel_rfl) (by kernel_rfl) (fun _ _ _ h => h) (Or.inl ⟨by rfl, ?_⟩) (by assumption) ?_
    rotate_left
    · (intro wS hSw; go_simp; try with_reducible rfl)
    try simp only [Act.put, List.setIfInBounds_toArray, List.set_cons_zero, List.set_cons_succ]
    refine takeL 13 (v := ?_) rfl (by kernel_rfl) (by kernel_rfl) (by kernel_rfl) (fun _ _ _ h => h) (Or.inl ⟨by rfl, ?_⟩) (by assumption) ?_
    rotate_left
    · (intro wS hSw; go_simp; try with_reducible rfl)
    try simp only [Act.put, List.setIfInBounds_toArray, List.set_cons_zero, List.set_cons_succ]
    refine takeL 14 rfl (by kernel_rfl) (by kernel_rfl) (by kernel_rfl) (fun _ _ _ h => h) (yieldsIf_load_cell (by rfl) 3 (.tmp 27) rfl w.heap.size 4 rfl _ (fun _ s => s.cell 4 (.int .i64 seq) (by rw [hcs'.out]; rfl)) (fun w s => load_int w _ _ _ s)) (by assumption) ?_
    try simp only [Act.put, List.setIfInBounds_toArray, List.set_cons_zero, List.set_cons_succ]
    refine takeL 15 (v := ?_) rfl (by kernel_rfl) (by kernel_rfl) (by kernel_rfl) (fun _ _ _ h => h) (Or.inl ⟨by rfl, ?_⟩) (by assumption) ?_
    rotate_left
    · (intro wS hSw; go_simp; try with_reducible rfl)
    try simp only [Act.put, List.setIfInBounds_toArray, List.set_cons_zero, List.set_cons_succ]
    have hO1 := Lib.hid (hO'.out.keep ((Keeps.refl (fun _ => False) _).drew) (fun _ _ f => f))
    refine stepL 5 rfl (by kernel_rfl) (fun K hK => ?_)
    go_simp
    (refine (r10num_any id 4 (by omega) (by omega) _).mono ?_; rintro e W1 ⟨pa, ca, rfl, hN1, hk1⟩; have hO2 := Lib.hid (hO1.out.keep hk1 (fun _ _ f => f)); have hN1' := Lib.hid hN1.bytes)
    go_wp2_with fail
    refine hK.out _ _ (hHeld.next hk1) (fun hHeld => ?_)
    clear hK K
    try simp only [Act.put, List.setIfInBounds_toArray, List.set_cons_zero, List.set_cons_succ]
    refine stepL 6 rfl (by kernel_rfl) (fun K hK => ?_)
    rw [if_pos (by rfl)]
    (refine wp_append_b (.tmp 14) (.tmp 19) 29 rfl i0 Try.underlying29 hi0 hz0 hz1 hz2 wB _ X1 rfl hO2.out _ rfl (be 4 id) hN1'.out (by rw [hX1l'.out, be_len]; omega) ?_; intro p1 c1 W2 hO3 hG3)
    refine hK.out _ _ (hHeld.grow hsz.out hG3 hO2.out.2.1) (fun hHeld => ?_)
    clear hK K
    try simp only [Act.put, List.setIfInBounds_toArray, List.set_cons_zero, List.set_cons_succ]
    obtain ⟨X2, hX2⟩ : ∃ X, X = X1 ++ be 4 id := ⟨_, rfl⟩
    have hX2l : X2.length = 8 := by rw [hX2, List.length_append, hX1l'.out, be_len]
    rw [← hX2, show X1.length + (be 4 id).length = X2.length by rw [hX2, List.length_append]] at hO3
    rw [show X1.length + (be 4 id).length = X2.length by rw [hX2, List.length_append]]
    have hX2' := Lib.hid hX2; have hX2l' := Lib.hid hX2l; have hO3' := Lib.hid hO3
    clear hX2 hX2l hO3 hG3 hO2 hN1' hO1 hN1 hk1
    refine stepL 11 rfl (by kernel_rfl) (fun K hK => ?_)
    go_simp
    (refine (r10num_any adv 4 (by omega) (by omega) _).mono ?_; rintro e W3 ⟨pb, cb, rfl, hN2, hk2⟩; have hO4 := Lib.hid (hO3'.out.keep hk2 (fun _ _ f => f)); have hN2' := Lib.hid hN2.bytes)
    go_wp2_with fail
    refine hK.out _ _ (hHeld.next hk2) (fun hHeld => ?_)
    clear hK K
    try simp only [Act.put, List.setIfInBounds_toArray, List.set_cons_zero, List.set_cons_succ]
    refine stepL 12 rfl (by kernel_rfl) (fun K hK => ?_)
    rw [if_pos (by rfl)]
    (refine wp_append_b (.tmp 20) (.tmp 25) 29 rfl i0 Try.underlying29 hi0 hz0 hz1 hz2 wB _ X2 rfl hO4.out _ rfl (be 4 adv) hN2'.out (by rw [hX2l'.out, be_len]; omega) ?_; intro p2 c2 W4 hO5 hG5)
    refine hK.out _ _ (hHeld.grow hsz.out hG5 hO4.out.2.1) (fun hHeld => ?_)
    clear hK K
    try simp only [Act.put, List.setIfInBounds_toArray, List.set_cons_zero, List.set_cons_succ]
    obtain ⟨X3, hX3⟩ : ∃ X, X = X2 ++ be 4 adv := ⟨_, rfl⟩
    have hX3l : X3.length = 12 := by rw [hX3, List.length_append, hX2l'.out, be_len]
    rw [← hX3, show X2.length + (be 4 adv).length = X3.length by rw [hX3, List.length_append]] at hO5
    rw [show X2.length + (be 4 adv).length = X3.length by rw [hX3, List.length_append]]
    have hX3' := Lib.hid hX3; have hX3l' := Lib.hid hX3l; have hO5' := Lib.hid hO5
    clear hX3 hX3l hO5 hG5 hO4 hN2' hN2 hk2
    refine stepL 16 rfl (by kernel_rfl) (fun K hK => ?_)
    go_simp
    (refine (r10num_any Z 4 lZ (by omega) _).mono ?_; rintro e W5 ⟨pc, cc, rfl, hN3, hk3⟩; have hO6 := Lib.hid (hO5'.out.keep hk3 (fun _ _ f => f)); have hN3' := Lib.hid hN3.bytes)
    go_wp2_with fail
    refine hK.out _ _ (hHeld.next hk3) (fun hHeld => ?_)
    clear hK K
    try simp only [Act.put, List.setIfInBounds_toArray, List.set_cons_zero, List.set_cons_succ]
    refine stepL 17 rfl (by kernel_rfl) (fun K hK => ?_)
    rw [if_pos (by rfl)]
    (refine wp_append_b (.tmp 26) (.tmp 30) 29 rfl i0 Try.underlying29 hi0 hz0 hz1 hz2 wB _ X3 rfl hO6.out _ rfl (be 4 Z) hN3'.out (by rw [hX3l'.out, be_len]; omega) ?_; intro p3 c3 W6 hO7 hG7)
    refine hK.out _ _ (hHeld.grow hsz.out hG7 hO6.out.2.1) (fun hHeld => ?_)
    clear hK K
    try simp only [Act.put, List.setIfInBounds_toArray, List.set_cons_zero, List.set_cons_succ]
    obtain ⟨X4, hX4⟩ : ∃ X, X = X3 ++ be 4 Z := ⟨_, rfl⟩
    have hX4l : X4.length = 16 := by rw [hX4, List.length_append, hX3l'.out, be_len]
    rw [← hX4, show X3.length + (be 4 Z).length = X4.length by rw [hX4, List.length_append]] at hO7
    rw [show X3.length + (be 4 Z).length = X4.length by rw [hX4, List.length_append]]
    have hX4' := Lib.hid hX4; have hX4l' := Lib.hid hX4l; have hO7' := Lib.hid hO7
    clear hX4 hX4l hO7 hG7 hO6 hN3' hN3 hk3
    refine takeL 18 (v := ?_) rfl (by kernel_rfl) (by kernel_rfl) (by kernel_rfl) (fun _ _ _ h => h) (Or.inl ⟨by rfl, ?_⟩) (by assumption) ?_
    rotate_left
    · (intro wS hSw; go_simp; try with_reducible rfl)
    try simp only [Act.put, List.setIfInBounds_toArray, List.set_cons_zero, List.set_cons_succ]
    refine wpAnyH_done (by kernel_rfl) (NoPanic.normal ?_) _
    have hS6 := Lib.hid hHeld
    clear hHeld
    obtain ⟨Y, hY, lY, hYl⟩ := u64_nat len
    go_upto_region 3 with fail
    refine wp_region_noPanic ?_
    refine wp_region_held_drew (S := (fun W => Boxed w.heap.size cs wB W)) (by kernel_rfl) (hS6.out.next ((Keeps.refl _ _).drew)) (fun hHeld => ?_)
    refine takeL 0 (v := ?_) rfl (by kernel_rfl) (by kernel_rfl) (by kernel_rfl) (fun _ _ _ h => h) (Or.inl ⟨by rfl, ?_⟩) (by assumption) ?_
    rotate_left
    · (intro wS hSw; go_simp; try with_reducible rfl)
    try simp only [Act.put, List.setIfInBounds_toArray, List.set_cons_zero, List.set_cons_succ]
    refine takeL 1 (v := ?_) rfl (by kernel_rfl) (by kernel_rfl) (by kernel_rfl) (fun _ _ _ h => h) (Or.inl ⟨by rfl, ?_⟩) (by assumption) ?_
    rotate_left
    · (intro wS hSw; go_simp; try with_reducible rfl)
    try simp only [Act.put, List.setIfInBounds_toArray, List.set_cons_zero, List.set_cons_succ]
    refine takeL 2 rfl (by kernel_rfl) (by kernel_rfl) (by kernel_rfl) (fun _ _ _ h => h) (yieldsIf_load_cell (by rfl) 43 (.tmp 33) rfl w.heap.size 5 rfl _ (fun _ s => s.cell 5 (.int .u16 sum) (by rw [hcs'.out]; rfl)) (fun w s => load_u16 w _ _ _ s)) (by assumption) ?_
    try simp only [Act.put, List.setIfInBounds_toArray, List.set_cons_zero, List.set_cons_succ]
    refine takeL 3 (v := ?_) rfl (by kernel_rfl) (by kernel_rfl) (by kernel_rfl) (fun _ _ _ h => h) (Or.inl ⟨by rfl, ?_⟩) (by assumption) ?_
    rotate_left
    · (intro wS hSw; go_simp; try with_reducible rfl)
    try simp only [Act.put, List.setIfInBounds_toArray, List.set_cons_zero, List.set_cons_succ]
    refine takeL 6 (v := ?_) rfl (by kernel_rfl) (by kernel_rfl) (by kernel_rfl) (fun _ _ _ h => h) (Or.inl ⟨by rfl, ?_⟩) (by assumption) ?_
    rotate_left
    · (intro wS hSw; go_simp; try with_reducible rfl)
    try simp only [Act.put, List.setIfInBounds_toArray, List.set_cons_zero, List.set_cons_succ]
    refine takeL 7 rfl (by kernel_rfl) (by kernel_rfl) (by kernel_rfl) (fun _ _ _ h => h) (yieldsIf_load_cell (by rfl) 3 (.tmp 38) rfl w.heap.size 6 rfl _ (fun _ s => s.cell 6 (.int .i64 len) (by rw [hcs'.out]; rfl)) (fun w s => load_int w _ _ _ s)) (by assumption) ?_
    try simp only [Act.put, List.setIfInBounds_toArray, List.set_cons_zero, List.set_cons_succ]
    refine takeL 8 (v := ?_) rfl (by kernel_rfl) (by kernel_rfl) (by kernel_rfl) (fun _ _ _ h => h) (Or.inl ⟨by rfl, ?_⟩) (by assumption) ?_
    rotate_left
    · (intro wS hSw; go_simp; try with_reducible rfl)
    try simp only [Act.put, List.setIfInBounds_toArray, List.set_cons_zero, List.set_cons_succ]
    have hO8 := Lib.hid (hO7'.out.keep ((Keeps.refl (fun _ => False) _).drew) (fun _ _ f => f))
    refine stepL 4 rfl (by kernel_rfl) (fun K hK => ?_)
    go_simp
    (refine (r10num_any sum 2 (by omega) (by omega) _).mono ?_; rintro e W7 ⟨pd, cd, rfl, hN4, hk4⟩; have hO9 := Lib.hid (hO8.out.keep hk4 (fun _ _ f => f)); have hN4' := Lib.hid hN4.bytes)
    go_wp2_with fail
    refine hK.out _ _ (hHeld.next hk4) (fun hHeld => ?_)
    clear hK K
    try simp only [Act.put, List.setIfInBounds_toArray, List.set_cons_zero, List.set_cons_succ]
    refine stepL 5 rfl (by kernel_rfl) (fun K hK => ?_)
    rw [if_pos (by rfl)]
    (refine wp_append_b (.tmp 32) (.tmp 36) 29 rfl i0 Try.underlying29 hi0 hz0 hz1 hz2 wB _ X4 rfl hO9.out _ rfl (be 2 sum) hN4'.out (by rw [hX4l'.out, be_len]; omega) ?_; intro p4 c4 W8 hO10 hG10)
    refine hK.out _ _ (hHeld.grow hsz.out hG10 hO9.out.2.1) (fun hHeld => ?_)
    clear hK K
    try simp only [Act.put, List.setIfInBounds_toArray, List.set_cons_zero, List.set_cons_succ]
    obtain ⟨X5, hX5⟩ : ∃ X, X = X4 ++ be 2 sum := ⟨_, rfl⟩
    have hX5l : X5.length = 18 := by rw [hX5, List.length_append, hX4l'.out, be_len]
    rw [← hX5, show X4.length + (be 2 sum).length = X5.length by rw [hX5, List.length_append]] at hO10
    rw [show X4.length + (be 2 sum).length = X5.length by rw [hX5, List.length_append]]
    have hX5' := Lib.hid hX5; have hX5l' := Lib.hid hX5l; have hO10' := Lib.hid hO10
    clear hX5 hX5l hO10 hG10 hO9 hN4' hN4 hk4
    refine stepL 9 rfl (by kernel_rfl) (fun K hK => ?_)
    go_simp
    (refine (r10num_any Y 2 lY (by omega) _).mono ?_; rintro e W9 ⟨pe, ce, rfl, hN5, hk5⟩; have hO11 := Lib.hid (hO10'.out.keep hk5 (fun _ _ f => f)); have hN5' := Lib.hid hN5.bytes)
    go_wp2_with fail
    refine hK.out _ _ (hHeld.next hk5) (fun hHeld => ?_)
    clear hK K
    try simp only [Act.put, List.setIfInBounds_toArray, List.set_cons_zero, List.set_cons_succ]
    refine stepL 10 rfl (by kernel_rfl) (fun K hK => ?_)
    rw [if_pos (by rfl)]
    (refine wp_append_b (.tmp 37) (.tmp 41) 29 rfl i0 Try.underlying29 hi0 hz0 hz1 hz2 wB _ X5 rfl hO11.out _ rfl (be 2 Y) hN5'.out (by rw [hX5l'.out, be_len]; omega) ?_; intro p5 c5 W10 hO12 hG12)
    refine hK.out _ _ (hHeld.grow hsz.out hG12 hO11.out.2.1) (fun hHeld => ?_)
    clear hK K
    try simp only [Act.put, List.setIfInBounds_toArray, List.set_cons_zero, List.set_cons_succ]
    refine takeL 11 (v := ?_) rfl (by kernel_rfl) (by kernel_rfl) (by kernel_rfl) (fun _ _ _ h => h) (Or.inl ⟨by rfl, ?_⟩) (by assumption) ?_
    rotate_left
    · (intro wS hSw; go_simp; try with_reducible rfl)
    try simp only [Act.put, List.setIfInBounds_toArray, List.set_cons_zero, List.set_cons_succ]
    refine wpAnyH_done (by kernel_rfl) (NoPanic.normal ?_) _
    have hfin : X5 ++ be 2 Y = headB ⟨age, type, id, adv, seq, sum, len⟩ := by
      rw [hX5'.out, hX4'.out, hX3'.out, hX2'.out, hX1'.out]
      unfold headB
      simp only [hUl.out, hTl.out, hZl.out, hYl.out, List.append_assoc]
    have hl20 : X5.length + (be 2 Y).length = (headB ⟨age, type, id, adv, seq, sum, len⟩).length := by rw [← hfin, List.length_append]
    rw [hfin] at hO12
    have hO13 := Lib.hid hO12; have hS10 := Lib.hid hHeld; have hl20' := Lib.hid hl20
    clear hO12 hHeld hfin hl20 hG12
    go_wp2_with fail
    go_ret
    exact ⟨p5, c5, by rw [← hl20'.out]; rfl, by rw [← hl20'.out]; exact hO13.out.older (by have := hsz.out; omega), hwB.out.trans hS10.out.k⟩
end Go.Proofs.Ytiogeepffdpafaa
