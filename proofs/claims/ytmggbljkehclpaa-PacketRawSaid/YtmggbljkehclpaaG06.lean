/- LC LD LE LF LG -/
import Derived.Test.YtmggbljkehclpaaG05
import Derived.Deep.DeepCutAuto
import Derived.Deep.MidRow
set_option linter.unusedVariables false
set_option linter.unusedSimpArgs false
namespace Go.Proofs.Ytmggbljkehclpaa
open Go.RowKit
structure c0i where
 age : Int
 type : Int
 id : Nat
 adv : Nat
 seq : Int
 sum : Nat
 len : Int
def headV (h : c0i) : Value := .agg (Ha h.age h.type h.id h.adv h.seq h.sum h.len)
theorem a0t (w : World) (b o : Nat) (v : Value) (h : w.cell? ⟨b, o, none⟩ = some v) : (loadVar 3 ⟨b, o, none⟩).run Try.prog w = .ok v w := by simp [go_sem, h]
theorem b08 (w : World) (b o : Nat) (v : Value) (h : w.cell? ⟨b, o, none⟩ = some v) : (loadVar 22 ⟨b, o, none⟩).run Try.prog w = .ok v w := by simp [go_sem, h]
theorem o02 (w : World) (b o : Nat) (v : Value) (h : w.cell? ⟨b, o, none⟩ = some v) : (loadVar 61 ⟨b, o, none⟩).run Try.prog w = .ok v w := by simp [go_sem, h]
theorem g05 (w : World) (b o : Nat) (v : Value) (h : w.cell? ⟨b, o, none⟩ = some v) : (loadVar 5 ⟨b, o, none⟩).run Try.prog w = .ok v w := by simp [go_sem, h]
theorem g0m (n : Nat) (h : n < 256) : bv (UInt8.ofNat n) = .int .u8 (n : Int) := by
 unfold bv
 have : (UInt8.ofNat n).toNat = n := by simp; omega
 rw [this]
theorem n0q (n : Int) : IntKind.u64.wrap n = n % 18446744073709551616 := by
 unfold IntKind.wrap
 have h1 : IntKind.u64.signed = false := rfl
 have h2 : (2 : Int) ^ IntKind.u64.bits = 18446744073709551616 := rfl
 simp [h1, h2]
theorem u8_wrap (n : Int) : IntKind.u8.wrap n = n % 256 := by
 unfold IntKind.wrap
 have h1 : IntKind.u8.signed = false := rfl
 have h2 : (2 : Int) ^ IntKind.u8.bits = 256 := rfl
 simp [h1, h2]
theorem g0e (n : Int) : IntKind.u16.wrap n = n % 65536 := by
 unfold IntKind.wrap
 have h1 : IntKind.u16.signed = false := rfl
 have h2 : (2 : Int) ^ IntKind.u16.bits = 65536 := rfl
 simp [h1, h2]
theorem c01 (n : Int) : IntKind.u32.wrap n = n % 4294967296 := by
 unfold IntKind.wrap
 have h1 : IntKind.u32.signed = false := rfl
 have h2 : (2 : Int) ^ IntKind.u32.bits = 4294967296 := rfl
 simp [h1, h2]
def lo64 (n : Int) : Nat := (n % 18446744073709551616).toNat
def lo32 (n : Int) : Nat := (n % 4294967296).toNat
def lo16 (n : Int) : Nat := (n % 65536).toNat
def lo8 (n : Int) : Nat := (n % 256).toNat
theorem f0q (n : Int) : ∃ U : Nat, IntKind.u64.wrap n = (U : Int) ∧ U < 18446744073709551616 ∧ Hid (lo64 n = U) := ⟨lo64 n, by rw [n0q]; unfold lo64; omega, by unfold lo64; omega, Hi rfl⟩
theorem k0o (n : Int) : ∃ U : Nat, IntKind.u32.wrap n = (U : Int) ∧ U < 4294967296 ∧ Hid (lo32 n = U) := ⟨lo32 n, by rw [c01]; unfold lo32; omega, by unfold lo32; omega, Hi rfl⟩
theorem k0p (n : Int) : ∃ U : Nat, IntKind.u16.wrap n = (U : Int) ∧ U < 65536 ∧ Hid (lo16 n = U) := ⟨lo16 n, by rw [g0e]; unfold lo16; omega, by unfold lo16; omega, Hi rfl⟩
theorem f0p (n : Int) : ∃ U : Nat, IntKind.u8.wrap n = (U : Int) ∧ U < 256 ∧ Hid (lo8 n = U) := ⟨lo8 n, by rw [u8_wrap]; unfold lo8; omega, by unfold lo8; omega, Hi rfl⟩
def e09 (h : c0i) : List UInt8 := be 2 (lo64 h.age) ++ [2, UInt8.ofNat (lo8 h.type)] ++ be 4 h.id ++ be 4 h.adv ++ be 4 (lo64 h.seq) ++ be 2 h.sum ++ be 2 (lo64 h.len)
theorem c0x (h : c0i) : (e09 h).length = 20 := by unfold e09; simp [a0b]
theorem b0v.grow {B : Nat} {cs : List Value} {w0 W W' : World} (s : b0v B cs w0 W) (hB : B < w0.heap.size) {v : Value} {p : Option Addr} {n c : Nat} (g : d06 W v p n c W') (hv : ∀ k, v.ownBlock = some k → w0.heap.size ≤ k) : b0v B cs w0 W' :=
 ⟨g.k.rangeAt s.r (fun e => by have := hv B e; omega), s.k.trans' g.k (fun i e => .inr (hv i e))⟩
theorem l0m {P : Program} (w : World) (t ty : TypeId) (i : TypeInfo) (ht : P.underlying t = some (.slice 5)) (hi : P.info? 5 = some i) (hz : i.zero = some (.int .u8 0)) (hsize : i.size = 1) (hby : i.bytes = 1)
 (w0 : World) (v : Value) (xs : List UInt8) (hown : OwnB w0 w v xs) (sv : Value) (l : List UInt8) (hl : a0a w sv l) (hsz : xs.length + l.length ≤ 70368744177664) :
 ∃ p c w', (Builtin.append_ #[t, t] ty #[v, sv]).run P w = .ok (.slice p (xs.length + l.length) c) w' ∧ OwnB w0 w' (.slice p (xs.length + l.length) c) (xs ++ l) ∧ d06 w v p (xs.length + l.length) c w' := by
 obtain ⟨sp, sc, rfl, hp, -, hlr⟩ := hl
 cases sp with
 | none =>
  have h0 : l.length = 0 := by
   rcases Nat.eq_zero_or_pos l.length with h | h
   ·exact h
   ·obtain ⟨b, o, e, _⟩ := hlr h; cases e
  have hc := hp rfl
  subst hc
  have hl0 : l = [] := List.length_eq_zero_iff.1 h0
  subst hl0
  obtain ⟨p, c, rfl⟩ := hown.slice
  exact ⟨p, c, w, run_append_owned_none (P := P) (w := w) 0 t ty 5 i 1 ht hi _ xs.length (xs.map bv) hown.1, by simpa using hown, a02.refl _ _, fun k e => .inl e⟩
 | some ad =>
  obtain ⟨v', w', hr, h2, h3, h4⟩ := c04 (P := P) w t ty 5 i (.int .u8 0) 1 1 ht hi hz hsize hby rfl (by decide) v xs.length (xs.map bv) hown.1 ad l.length sc (l.map bv) (by simp) (fun j u hu => by
   have h0 : 0 < l.length := by
    have := (List.getElem?_eq_some_iff.1 hu).1; simp at this; omega
   obtain ⟨b, o, e, hr⟩ := hlr h0
   injection e with e; subst e
   rw [Addr.add_mid]; exact hr j u hu) (o09 l) (by unfold maxLen; omega) (by omega)
  obtain ⟨p, c, rfl⟩ := b0e h2
  refine ⟨p, c, w', hr, ⟨by simpa using h2, fun k e => ?_, Nat.le_trans hown.2.2 h3.size⟩, (a02.refl _ _).grown h3 (fun k e => .inl e), h4⟩
  rcases h4 k e with e | e
  ·exact hown.2.1 k e
  ·exact Nat.le_trans hown.2.2 e
theorem a0m {P : Program} {w : World} {o : Oper} {a : Act} {K : Act → World → Prop} {Q : Exit → Act → World → Prop} (s x : Operand) (t : TypeId)
 (ho : o.op = .call { callee := .builtin .append, args := #[s, x], argTypes := #[t, t] })
 (i : TypeInfo) (ht : P.underlying t = some (.slice 5)) (hi : P.info? 5 = some i) (hz : i.zero = some (.int .u8 0)) (hsize : i.size = 1) (hby : i.bytes = 1)
 (w0 : World) (v : Value) (xs : List UInt8) (hs : a.eval s = v) (hown : OwnB w0 w v xs) (sv : Value) (hx : a.eval x = sv) (l : List UInt8) (hl : a0a w sv l) (hsz : xs.length + l.length ≤ 70368744177664)
 (h : ∀ p c w', OwnB w0 w' (.slice p (xs.length + l.length) c) (xs ++ l) → d06 w v p (xs.length + l.length) c w' → K (a.put o.dst (.slice p (xs.length + l.length) c)) w') : Oper.wp P o a w K Q := by
 obtain ⟨p, c, w', hr, h1, h2⟩ := l0m (P := P) w t o.type i ht hi hz hsize hby w0 v xs hown sv l hl hsz
 unfold Oper.wp execOp
 simp only [ho, resolve, invoke, builtin, Sem.run_bind, Sem.run_pure, Result.andThen_ok, List.map_toArray, List.map_cons, List.map_nil, hs, hx, hr]
 exact h p c w' h1 h2
set_option maxRecDepth 100000 in
set_option maxHeartbeats 1000000 in
theorem d01 (age type seq len : Int) (id adv sum : Nat) (hid : id < 4294967296) (hadv : adv < 4294967296) (hsum : sum < 65536) (w : World) :
 Calls Try.prog 27 #[.agg (Ha age type id adv seq sum len)] w (h0x (e09 ⟨age, type, id, adv, seq, sum, len⟩) w) := by
 obtain ⟨i0, hi0, hz0, hz1, hz2⟩ := info_parts b0g
 obtain ⟨cs, hcs⟩ : ∃ cs : List Value, cs = (Ha' age type id adv seq sum len) := ⟨_, rfl⟩
 have hB : Hid (b0v w.heap.size cs (w.alloc (.cells (Ha age type id adv seq sum len) 73)) (w.alloc (.cells (Ha age type id adv seq sum len) 73))) := Hi (by rw [hcs]; exact c0f w _ _)
 have hsz : Hid (w.heap.size < (w.alloc (.cells (Ha age type id adv seq sum len) 73)).heap.size) := Hi (by simp)
 have hwB : Hid (a02 (fun _ => False) w (w.alloc (.cells (Ha age type id adv seq sum len) 73))) := Hi ((a02.refl _ _).alloc _)
 have hcs' := Hi hcs; clear hcs
 go_enter Try.func27, Try.ntmps27
 go_upto_region 1 with fail
 generalize w.alloc (.cells (Ha age type id adv seq sum len) 73) = wB at hB hsz hwB ⊢
 refine wp_region_noPanic ?_
 refine wp_region_held_drew (S := (fun W => b0v w.heap.size cs wB W)) (by kernel_rfl) (hB.out.next ((a02.refl _ _).drew)) (fun hHeld => ?_)
 refine tk 0 rfl ?_
 refine tkL 1 rfl (a04 (by rfl) 3 (.tmp 4) rfl w.heap.size 0 rfl _ (fun _ s => s.cell 0 (.int .i64 age) (by rw [hcs'.out]; rfl)) (fun w s => a0t w _ _ _ s)) ?_
 refine tk 2 rfl ?_
 refine tk 4 rfl ?_
 refine tk 5 rfl ?_
 refine tkL 6 rfl (a04 (by rfl) 3 (.tmp 9) rfl w.heap.size 1 rfl _ (fun _ s => s.cell 1 (.int .i64 type) (by rw [hcs'.out]; rfl)) (fun w s => a0t w _ _ _ s)) ?_
 refine tk 7 rfl ?_
 obtain ⟨U, hU, lU, hUl⟩ := f0q age
 obtain ⟨T, hT, lT, hTl⟩ := f0p type
 rw [hU, hT]
 refine b0a [7, 12, 13, 3] [3, 8, 9, 10] (fun L f W =>
  (L 3 = true → L 9 = false → ∃ p c, f 7 = .slice p (be 2 U).length c ∧ OwnB wB W (f 7) (be 2 U)) ∧
  (L 8 = true → L 9 = false → ∃ g, f 12 = .slice (some ⟨g, 0, none⟩) 2 2 ∧ a0a W (f 12) [2, UInt8.ofNat T]) ∧
  (L 9 = true → ∃ p c, f 13 = .slice p ((be 2 U).length + 2) c ∧ OwnB wB W (f 13) (be 2 U ++ [2, UInt8.ofNat T])) ∧
  (L 10 = true → L 9 = true ∧ f 3 = f 13)) (by kernel_rfl) (by kernel_rfl) (by kernel_rfl) (by kernel_rfl) (Nat.le_of_ble_eq_true (by kernel_rfl)) hHeld
  (fun L f h => ⟨fun e => absurd (h 3 (by decide)) (by rw [e]; decide), fun e => absurd (h 8 (by decide)) (by rw [e]; decide), fun e => absurd (h 9 (by decide)) (by rw [e]; decide), fun e => absurd (h 10 (by decide)) (by rw [e]; decide)⟩) ?_ ?_
 ·refine a0v.cons (d := 7) rfl rfl (by decide) ?_ (a0v.cons (d := 12) rfl rfl (by decide) ?_ (a0v.cons (d := 13) rfl rfl (by decide) ?_ (a0v.cons (d := 3) rfl rfl (by decide) ?_ a0v.nil)))
  ·intro L f W hG hS hL hdep K hK
   simp only [a0r, List.foldl_cons, List.foldl_nil, Act.put, sA, sZ, sS] at hK ⊢
   rw [if_pos (by rfl)]
   go_simp
   refine (b07 U 2 lU (by omega) _).mono ?_
   rintro e W' ⟨p, c, rfl, hO, hk⟩
   go_wp2_with fail
   refine hK.out _ _ (hS.next hk) ⟨fun _ _ => ⟨p, c, rfl, hO.older hS.k.size⟩, fun e8 e9 => ?_, fun e9 => ?_, fun e10 => hG.2.2.2 e10⟩
   ·obtain ⟨g, h1, h2⟩ := hG.2.1 e8 e9
    exact ⟨g, h1, h2.keep hk⟩
   ·obtain ⟨p, c, h1, h2⟩ := hG.2.2.1 e9
    exact ⟨p, c, h1, h2.keep hk (fun _ _ f => f)⟩
  ·intro L f W hG hS hL hdep K hK
   simp only [a0r, List.foldl_cons, List.foldl_nil, Act.put, sA, sZ, sS] at hK ⊢
   rw [if_pos (by rfl)]
   go_simp
   have hk : a02 (fun _ => False) W (W.alloc (.cells #[.int .u8 2, .int .u8 T] 5)) := (a02.refl _ _).alloc _
   refine hK.out _ _ (hS.next hk) ⟨fun e3 e9 => ?_, fun _ _ => ⟨W.heap.size, rfl, ?_⟩, fun e9 => ?_, fun e10 => hG.2.2.2 e10⟩
   ·obtain ⟨p, c, h1, h2⟩ := hG.1 e3 e9
    exact ⟨p, c, h1, h2.keep hk (fun _ _ f => f)⟩
   ·have := (OwnB.new W W (Nat.le_refl _) [2, UInt8.ofNat T] (n := 2) rfl (by unfold maxLen; omega)).bytes
    rw [List.map_cons, List.map_cons, List.map_nil, g0m T lT] at this
    exact this
   ·obtain ⟨p, c, h1, h2⟩ := hG.2.2.1 e9
    exact ⟨p, c, h1, h2.keep hk (fun _ _ f => f)⟩
  ·intro L f W hG hS hL hdep K hK
   simp only [a0r, List.foldl_cons, List.foldl_nil, Act.put, sA, sZ, sS] at hK ⊢
   rw [if_pos (by rfl)]
   have d3 := hdep ⟨3, .data⟩ (by simp) rfl (by decide)
   have d8 := hdep ⟨8, .data⟩ (by simp) rfl (by decide)
   obtain ⟨p7, c7, h7, hO⟩ := hG.1 d3 hL
   obtain ⟨g, h12, hB12⟩ := hG.2.1 d8 hL
   refine a0m (.tmp 7) (.tmp 12) 31 rfl i0 Try.underlying31 hi0 hz0 hz1 hz2 wB (f 7) (be 2 U) rfl hO (f 12) rfl [2, UInt8.ofNat T] hB12 (by rw [a0b]; simp) ?_
   intro p c W' hO' hG'
   exact hK.out _ _ (hS.grow hsz.out hG' hO.2.1) ⟨fun _ e => absurd (show true = false from e) (by decide), fun _ e => absurd (show true = false from e) (by decide), fun _ => ⟨p, c, rfl, hO'⟩, fun e10 => absurd ((hG.2.2.2 e10).1.symm.trans hL) (by decide)⟩
  ·intro L f W hG hS hL hdep K hK
   simp only [a0r, List.foldl_cons, List.foldl_nil, Act.put, sA, sZ, sS] at hK ⊢
   rw [if_pos (by rfl)]
   go_simp
   have d9 := hdep ⟨9, .data⟩ (by simp) rfl (by decide)
   exact hK.out _ _ hS ⟨fun e3 e9 => hG.1 e3 e9, fun e8 e9 => hG.2.1 e8 e9, fun e9 => hG.2.2.1 e9, fun _ => ⟨d9, rfl⟩⟩
 ·intro f W hG hS
  obtain ⟨p13, c13, h13, hO13⟩ := hG.2.2.1 rfl
  have h3 := (hG.2.2.2 rfl).2
  simp only [a0r, List.foldl_cons, List.foldl_nil, Act.put, sA, sZ, sS]
  rw [h13] at hO13 h3
  rw [h3]
  have hO' := Hi hO13; have hS' := Hi hS
  generalize f 7 = f7
  generalize f 12 = f12
  generalize f 13 = f13
  clear hG h13 h3 hO13 hS f
  refine NoPanic.normal ?_
  obtain ⟨X1, hX1⟩ : ∃ X, X = be 2 U ++ [2, UInt8.ofNat T] := ⟨_, rfl⟩
  have hX1l : X1.length = 4 := by rw [hX1, List.length_append, a0b]; rfl
  rw [← hX1, show (be 2 U).length + 2 = X1.length by rw [hX1l, a0b]] at hO'
  rw [show (be 2 U).length + 2 = X1.length by rw [hX1l, a0b]]
  have hX1' := Hi hX1; have hX1l' := Hi hX1l
  clear hX1 hX1l
  obtain ⟨Z, hZ, lZ, hZl⟩ := f0q seq
  have wid : IntKind.u64.wrap (id : Int) = (id : Int) := IntWalk.u64_in _ (by omega)
  have wadv : IntKind.u64.wrap (adv : Int) = (adv : Int) := IntWalk.u64_in _ (by omega)
  have wsum : IntKind.u64.wrap (sum : Int) = (sum : Int) := IntWalk.u64_in _ (by omega)
  go_upto_region 2 with fail
  refine wp_region_noPanic ?_
  refine wp_region_held_drew (S := (fun W => b0v w.heap.size cs wB W)) (by kernel_rfl) (hS'.out.next ((a02.refl _ _).drew)) (fun hHeld => ?_)
  refine tk 0 rfl ?_
  refine tk 1 rfl ?_
  refine tk 2 rfl ?_
  refine tkL 3 rfl (a04 (by rfl) 22 (.tmp 16) rfl w.heap.size 2 rfl _ (fun _ s => s.cell 2 (.int .u32 id) (by rw [hcs'.out]; rfl)) (fun w s => b08 w _ _ _ s)) ?_
  refine tk 4 rfl ?_
  refine tk 7 rfl ?_
  refine tk 8 rfl ?_
  refine tkL 9 rfl (a04 (by rfl) 22 (.tmp 22) rfl w.heap.size 3 rfl _ (fun _ s => s.cell 3 (.int .u32 adv) (by rw [hcs'.out]; rfl)) (fun w s => b08 w _ _ _ s)) ?_
  refine tk 10 rfl ?_
  refine tk 13 rfl ?_
  refine tkL 14 rfl (a04 (by rfl) 3 (.tmp 27) rfl w.heap.size 4 rfl _ (fun _ s => s.cell 4 (.int .i64 seq) (by rw [hcs'.out]; rfl)) (fun w s => a0t w _ _ _ s)) ?_
  refine tk 15 rfl ?_
  have hO1 := Hi (hO'.out.keep ((a02.refl (fun _ => False) _).drew) (fun _ _ f => f))
  refine sL 5 rfl fun K hK => ?_
  go_simp
  (refine (b07 id 4 (by omega) (by omega) _).mono ?_; rintro e W1 ⟨pa, ca, rfl, hN1, hk1⟩; have hO2 := Hi (hO1.out.keep hk1 (fun _ _ f => f)); have hN1' := Hi hN1.bytes)
  go_wp2_with fail
  refine hK.out _ _ (hHeld.next hk1) (fun hHeld => ?_)
  clear hK K
  try simp only [Act.put, sA, sZ, sS]
  refine sL 6 rfl fun K hK => ?_
  rw [if_pos (by rfl)]
  (refine a0m (.tmp 14) (.tmp 19) 31 rfl i0 Try.underlying31 hi0 hz0 hz1 hz2 wB _ X1 rfl hO2.out _ rfl (be 4 id) hN1'.out (by rw [hX1l'.out, a0b]; omega) ?_; intro p1 c1 W2 hO3 hG3)
  refine hK.out _ _ (hHeld.grow hsz.out hG3 hO2.out.2.1) (fun hHeld => ?_)
  clear hK K
  try simp only [Act.put, sA, sZ, sS]
  obtain ⟨X2, hX2⟩ : ∃ X, X = X1 ++ be 4 id := ⟨_, rfl⟩
  have hX2l : X2.length = 8 := by rw [hX2, List.length_append, hX1l'.out, a0b]
  rw [← hX2, show X1.length + (be 4 id).length = X2.length by rw [hX2, List.length_append]] at hO3
  rw [show X1.length + (be 4 id).length = X2.length by rw [hX2, List.length_append]]
  have hX2' := Hi hX2; have hX2l' := Hi hX2l; have hO3' := Hi hO3
  clear hX2 hX2l hO3 hG3 hO2 hN1' hO1 hN1 hk1
  refine sL 11 rfl fun K hK => ?_
  go_simp
  (refine (b07 adv 4 (by omega) (by omega) _).mono ?_; rintro e W3 ⟨pb, cb, rfl, hN2, hk2⟩; have hO4 := Hi (hO3'.out.keep hk2 (fun _ _ f => f)); have hN2' := Hi hN2.bytes)
  go_wp2_with fail
  refine hK.out _ _ (hHeld.next hk2) (fun hHeld => ?_)
  clear hK K
  try simp only [Act.put, sA, sZ, sS]
  refine sL 12 rfl fun K hK => ?_
  rw [if_pos (by rfl)]
  (refine a0m (.tmp 20) (.tmp 25) 31 rfl i0 Try.underlying31 hi0 hz0 hz1 hz2 wB _ X2 rfl hO4.out _ rfl (be 4 adv) hN2'.out (by rw [hX2l'.out, a0b]; omega) ?_; intro p2 c2 W4 hO5 hG5)
  refine hK.out _ _ (hHeld.grow hsz.out hG5 hO4.out.2.1) (fun hHeld => ?_)
  clear hK K
  try simp only [Act.put, sA, sZ, sS]
  obtain ⟨X3, hX3⟩ : ∃ X, X = X2 ++ be 4 adv := ⟨_, rfl⟩
  have hX3l : X3.length = 12 := by rw [hX3, List.length_append, hX2l'.out, a0b]
  rw [← hX3, show X2.length + (be 4 adv).length = X3.length by rw [hX3, List.length_append]] at hO5
  rw [show X2.length + (be 4 adv).length = X3.length by rw [hX3, List.length_append]]
  have hX3' := Hi hX3; have hX3l' := Hi hX3l; have hO5' := Hi hO5
  clear hX3 hX3l hO5 hG5 hO4 hN2' hN2 hk2
  refine sL 16 rfl fun K hK => ?_
  go_simp
  (refine (b07 Z 4 lZ (by omega) _).mono ?_; rintro e W5 ⟨pc, cc, rfl, hN3, hk3⟩; have hO6 := Hi (hO5'.out.keep hk3 (fun _ _ f => f)); have hN3' := Hi hN3.bytes)
  go_wp2_with fail
  refine hK.out _ _ (hHeld.next hk3) (fun hHeld => ?_)
  clear hK K
  try simp only [Act.put, sA, sZ, sS]
  refine sL 17 rfl fun K hK => ?_
  rw [if_pos (by rfl)]
  (refine a0m (.tmp 26) (.tmp 30) 31 rfl i0 Try.underlying31 hi0 hz0 hz1 hz2 wB _ X3 rfl hO6.out _ rfl (be 4 Z) hN3'.out (by rw [hX3l'.out, a0b]; omega) ?_; intro p3 c3 W6 hO7 hG7)
  refine hK.out _ _ (hHeld.grow hsz.out hG7 hO6.out.2.1) (fun hHeld => ?_)
  clear hK K
  try simp only [Act.put, sA, sZ, sS]
  obtain ⟨X4, hX4⟩ : ∃ X, X = X3 ++ be 4 Z := ⟨_, rfl⟩
  have hX4l : X4.length = 16 := by rw [hX4, List.length_append, hX3l'.out, a0b]
  rw [← hX4, show X3.length + (be 4 Z).length = X4.length by rw [hX4, List.length_append]] at hO7
  rw [show X3.length + (be 4 Z).length = X4.length by rw [hX4, List.length_append]]
  have hX4' := Hi hX4; have hX4l' := Hi hX4l; have hO7' := Hi hO7
  clear hX4 hX4l hO7 hG7 hO6 hN3' hN3 hk3
  refine tk 18 rfl ?_
  refine wpAnyH_done (by kernel_rfl) (NoPanic.normal ?_) _
  have hS6 := Hi hHeld
  clear hHeld
  obtain ⟨Y, hY, lY, hYl⟩ := f0q len
  go_upto_region 3 with fail
  refine wp_region_noPanic ?_
  refine wp_region_held_drew (S := (fun W => b0v w.heap.size cs wB W)) (by kernel_rfl) (hS6.out.next ((a02.refl _ _).drew)) (fun hHeld => ?_)
  refine tk 0 rfl ?_
  refine tk 1 rfl ?_
  refine tkL 2 rfl (a04 (by rfl) 61 (.tmp 33) rfl w.heap.size 5 rfl _ (fun _ s => s.cell 5 (.int .u16 sum) (by rw [hcs'.out]; rfl)) (fun w s => o02 w _ _ _ s)) ?_
  refine tk 3 rfl ?_
  refine tk 6 rfl ?_
  refine tkL 7 rfl (a04 (by rfl) 3 (.tmp 38) rfl w.heap.size 6 rfl _ (fun _ s => s.cell 6 (.int .i64 len) (by rw [hcs'.out]; rfl)) (fun w s => a0t w _ _ _ s)) ?_
  refine tk 8 rfl ?_
  have hO8 := Hi (hO7'.out.keep ((a02.refl (fun _ => False) _).drew) (fun _ _ f => f))
  refine sL 4 rfl fun K hK => ?_
  go_simp
  (refine (b07 sum 2 (by omega) (by omega) _).mono ?_; rintro e W7 ⟨pd, cd, rfl, hN4, hk4⟩; have hO9 := Hi (hO8.out.keep hk4 (fun _ _ f => f)); have hN4' := Hi hN4.bytes)
  go_wp2_with fail
  refine hK.out _ _ (hHeld.next hk4) (fun hHeld => ?_)
  clear hK K
  try simp only [Act.put, sA, sZ, sS]
  refine sL 5 rfl fun K hK => ?_
  rw [if_pos (by rfl)]
  (refine a0m (.tmp 32) (.tmp 36) 31 rfl i0 Try.underlying31 hi0 hz0 hz1 hz2 wB _ X4 rfl hO9.out _ rfl (be 2 sum) hN4'.out (by rw [hX4l'.out, a0b]; omega) ?_; intro p4 c4 W8 hO10 hG10)
  refine hK.out _ _ (hHeld.grow hsz.out hG10 hO9.out.2.1) (fun hHeld => ?_)
  clear hK K
  try simp only [Act.put, sA, sZ, sS]
  obtain ⟨X5, hX5⟩ : ∃ X, X = X4 ++ be 2 sum := ⟨_, rfl⟩
  have hX5l : X5.length = 18 := by rw [hX5, List.length_append, hX4l'.out, a0b]
  rw [← hX5, show X4.length + (be 2 sum).length = X5.length by rw [hX5, List.length_append]] at hO10
  rw [show X4.length + (be 2 sum).length = X5.length by rw [hX5, List.length_append]]
  have hX5' := Hi hX5; have hX5l' := Hi hX5l; have hO10' := Hi hO10
  clear hX5 hX5l hO10 hG10 hO9 hN4' hN4 hk4
  refine sL 9 rfl fun K hK => ?_
  go_simp
  (refine (b07 Y 2 lY (by omega) _).mono ?_; rintro e W9 ⟨pe, ce, rfl, hN5, hk5⟩; have hO11 := Hi (hO10'.out.keep hk5 (fun _ _ f => f)); have hN5' := Hi hN5.bytes)
  go_wp2_with fail
  refine hK.out _ _ (hHeld.next hk5) (fun hHeld => ?_)
  clear hK K
  try simp only [Act.put, sA, sZ, sS]
  refine sL 10 rfl fun K hK => ?_
  rw [if_pos (by rfl)]
  (refine a0m (.tmp 37) (.tmp 41) 31 rfl i0 Try.underlying31 hi0 hz0 hz1 hz2 wB _ X5 rfl hO11.out _ rfl (be 2 Y) hN5'.out (by rw [hX5l'.out, a0b]; omega) ?_; intro p5 c5 W10 hO12 hG12)
  refine hK.out _ _ (hHeld.grow hsz.out hG12 hO11.out.2.1) (fun hHeld => ?_)
  clear hK K
  try simp only [Act.put, sA, sZ, sS]
  refine tk 11 rfl ?_
  refine wpAnyH_done (by kernel_rfl) (NoPanic.normal ?_) _
  have hfin : X5 ++ be 2 Y = e09 ⟨age, type, id, adv, seq, sum, len⟩ := by
   rw [hX5'.out, hX4'.out, hX3'.out, hX2'.out, hX1'.out]
   unfold e09
   simp only [hUl.out, hTl.out, hZl.out, hYl.out, List.append_assoc]
  have hl20 : X5.length + (be 2 Y).length = (e09 ⟨age, type, id, adv, seq, sum, len⟩).length := by rw [← hfin, List.length_append]
  rw [hfin] at hO12
  have hO13 := Hi hO12; have hS10 := Hi hHeld; have hl20' := Hi hl20
  clear hO12 hHeld hfin hl20 hG12
  go_wp2_with fail
  go_ret
  exact ⟨p5, c5, by rw [← hl20'.out]; rfl, by rw [← hl20'.out]; exact hO13.out.older (by have := hsz.out; omega), hwB.out.trans hS10.out.k⟩
theorem m0f (k n m : Nat) (h : n % 256 ^ k = m % 256 ^ k) : be k n = be k m := by
 have h1 := o0b (be k n)
 have h2 := o0b (be k m)
 rw [a0b, l0a] at h1 h2
 rw [← h1, ← h2, h]
theorem be4_lo (n : Int) : be 4 (lo32 n) = be 4 (lo64 n) := m0f 4 _ _ (by unfold lo32 lo64; omega)
theorem be2_lo (n : Int) : be 2 (lo16 n) = be 2 (lo64 n) := m0f 2 _ _ (by unfold lo16 lo64; omega)
theorem d06.nil {W W' : World} {p : Option Addr} {n c : Nat} (g : d06 W (.slice none 0 0) p n c W') : a02 (fun _ => False) W W' := g.k.mono (fun i e => by simp [Value.ownBlock] at e)
theorem a0u.new (w : World) (l : List Nat) {n : Nat} (hn : l.length = n) : a0u (w.alloc (.cells (l.map nv).toArray 22)) (.slice (some ⟨w.heap.size, 0, none⟩) n n) l := by
 subst hn
 refine ⟨some ⟨w.heap.size, 0, none⟩, l.length, rfl, (fun h => nomatch h), Nat.le_refl _, fun _ => ⟨w.heap.size, 0, rfl, fun j u hu => ?_⟩⟩
 have := c0y (w := w) (n := w.heap.size) rfl (l.map nv) 22 j u hu
 rw [Addr.add_mid] at this; exact this
set_option maxRecDepth 100000 in
set_option maxHeartbeats 1000000 in
theorem g04 (age type seq len : Int) (id adv sum : Nat) (hid : id < 4294967296) (hadv : adv < 4294967296) (hsum : sum < 65536) (w : World) :
 Calls Try.prog 65 #[.agg (Ha age type id adv seq sum len)] w (h0x (e09 ⟨age, type, id, adv, seq, sum, len⟩) w) := by
 obtain ⟨i0, hi0, hz0, hz1, hz2⟩ := info_parts b0g
 obtain ⟨cs, hcs⟩ : ∃ cs : List Value, cs = (Ha' age type id adv seq sum len) := ⟨_, rfl⟩
 have hB : Hid (b0v w.heap.size cs (w.alloc (.cells (Ha age type id adv seq sum len) 69)) (w.alloc (.cells (Ha age type id adv seq sum len) 69))) := Hi (by rw [hcs]; exact c0f w _ _)
 have hsz : Hid (w.heap.size < (w.alloc (.cells (Ha age type id adv seq sum len) 69)).heap.size) := Hi (by simp)
 have hwB : Hid (a02 (fun _ => False) w (w.alloc (.cells (Ha age type id adv seq sum len) 69))) := Hi ((a02.refl _ _).alloc _)
 have hcs' := Hi hcs; clear hcs
 obtain ⟨U, hU, lU, hUl⟩ := k0p age
 obtain ⟨T, hT, lT, hTl⟩ := f0p type
 obtain ⟨Z, hZ, lZ, hZl⟩ := k0o seq
 obtain ⟨Y, hY, lY, hYl⟩ := k0p len
 go_enter Try.func65, Try.ntmps65
 go_upto_region 1 with fail
 generalize w.alloc (.cells (Ha age type id adv seq sum len) 69) = wB at hB hsz hwB ⊢
 refine wp_region_noPanic ?_
 refine wp_region_held_drew (S := (fun W => b0v w.heap.size cs wB W)) (by kernel_rfl) (hB.out.next ((a02.refl _ _).drew)) (fun hHeld => ?_)
 refine tk 0 rfl ?_
 refine tkL 1 rfl (a04 (by rfl) 3 (.tmp 4) rfl w.heap.size 0 rfl _ (fun _ s => s.cell 0 (.int .i64 age) (by rw [hcs'.out]; rfl)) (fun w s => a0t w _ _ _ s)) ?_
 refine tk 2 rfl ?_
 refine tk 4 rfl ?_
 refine tk 5 rfl ?_
 refine tkL 6 rfl (a04 (by rfl) 3 (.tmp 9) rfl w.heap.size 1 rfl _ (fun _ s => s.cell 1 (.int .i64 type) (by rw [hcs'.out]; rfl)) (fun w s => a0t w _ _ _ s)) ?_
 refine tk 7 rfl ?_
 refine b0a [7, 12, 13, 3] [3, 8, 9, 10] (fun L f W =>
  (L 3 = true → L 9 = false → ∃ p c, f 7 = .slice p (be 2 U).length c ∧ OwnB wB W (f 7) (be 2 U)) ∧
  (L 8 = true → L 9 = false → ∃ g, f 12 = .slice (some ⟨g, 0, none⟩) 2 2 ∧ a0a W (f 12) [2, UInt8.ofNat T]) ∧
  (L 9 = true → ∃ p c, f 13 = .slice p ((be 2 U).length + 2) c ∧ OwnB wB W (f 13) (be 2 U ++ [2, UInt8.ofNat T])) ∧
  (L 10 = true → L 9 = true ∧ f 3 = f 13)) (by kernel_rfl) (by kernel_rfl) (by kernel_rfl) (by kernel_rfl) (Nat.le_of_ble_eq_true (by kernel_rfl)) hHeld
  (fun L f h => ⟨fun e => absurd (h 3 (by decide)) (by rw [e]; decide), fun e => absurd (h 8 (by decide)) (by rw [e]; decide), fun e => absurd (h 9 (by decide)) (by rw [e]; decide), fun e => absurd (h 10 (by decide)) (by rw [e]; decide)⟩) ?_ ?_
 ·refine a0v.cons (d := 7) rfl rfl (by decide) ?_ (a0v.cons (d := 12) rfl rfl (by decide) ?_ (a0v.cons (d := 13) rfl rfl (by decide) ?_ (a0v.cons (d := 3) rfl rfl (by decide) ?_ a0v.nil)))
  ·intro L f W hG hS hL hdep K hK
   simp only [a0r, List.foldl_cons, List.foldl_nil, Act.put, sA, sZ, sS] at hK ⊢
   rw [if_pos (by rfl)]
   go_simp
   refine (c0c wB _ [] U lU (by simp) _ (Hi (OwnB.nil wB W hS.k.size))).mono ?_
   rintro e W' ⟨p, c, rfl, hO, hg⟩
   have hk := hg.nil
   rw [List.nil_append, show ([] : List UInt8).length + (be 2 U).length = (be 2 U).length by simp] at hO
   rw [show ([] : List UInt8).length + (be 2 U).length = (be 2 U).length by simp]
   go_wp2_with fail
   refine hK.out _ _ (hS.next hk) ⟨fun _ _ => ⟨p, c, rfl, hO⟩, fun e8 e9 => ?_, fun e9 => ?_, fun e10 => hG.2.2.2 e10⟩
   ·obtain ⟨g, h1, h2⟩ := hG.2.1 e8 e9
    exact ⟨g, h1, h2.keep hk⟩
   ·obtain ⟨p, c, h1, h2⟩ := hG.2.2.1 e9
    exact ⟨p, c, h1, h2.keep hk (fun _ _ f => f)⟩
  ·intro L f W hG hS hL hdep K hK
   simp only [a0r, List.foldl_cons, List.foldl_nil, Act.put, sA, sZ, sS] at hK ⊢
   rw [if_pos (by rfl)]
   go_simp
   have hk : a02 (fun _ => False) W (W.alloc (.cells #[.int .u8 2, .int .u8 T] 5)) := (a02.refl _ _).alloc _
   refine hK.out _ _ (hS.next hk) ⟨fun e3 e9 => ?_, fun _ _ => ⟨W.heap.size, rfl, ?_⟩, fun e9 => ?_, fun e10 => hG.2.2.2 e10⟩
   ·obtain ⟨p, c, h1, h2⟩ := hG.1 e3 e9
    exact ⟨p, c, h1, h2.keep hk (fun _ _ f => f)⟩
   ·have := (OwnB.new W W (Nat.le_refl _) [2, UInt8.ofNat T] (n := 2) rfl (by unfold maxLen; omega)).bytes
    rw [List.map_cons, List.map_cons, List.map_nil, g0m T lT] at this
    exact this
   ·obtain ⟨p, c, h1, h2⟩ := hG.2.2.1 e9
    exact ⟨p, c, h1, h2.keep hk (fun _ _ f => f)⟩
  ·intro L f W hG hS hL hdep K hK
   simp only [a0r, List.foldl_cons, List.foldl_nil, Act.put, sA, sZ, sS] at hK ⊢
   rw [if_pos (by rfl)]
   have d3 := hdep ⟨3, .data⟩ (by simp) rfl (by decide)
   have d8 := hdep ⟨8, .data⟩ (by simp) rfl (by decide)
   obtain ⟨p7, c7, h7, hO⟩ := hG.1 d3 hL
   obtain ⟨g, h12, hB12⟩ := hG.2.1 d8 hL
   refine a0m (.tmp 7) (.tmp 12) 31 rfl i0 Try.underlying31 hi0 hz0 hz1 hz2 wB (f 7) (be 2 U) rfl hO (f 12) rfl [2, UInt8.ofNat T] hB12 (by rw [a0b]; simp) ?_
   intro p c W' hO' hG'
   exact hK.out _ _ (hS.grow hsz.out hG' hO.2.1) ⟨fun _ e => absurd (show true = false from e) (by decide), fun _ e => absurd (show true = false from e) (by decide), fun _ => ⟨p, c, rfl, hO'⟩, fun e10 => absurd ((hG.2.2.2 e10).1.symm.trans hL) (by decide)⟩
  ·intro L f W hG hS hL hdep K hK
   simp only [a0r, List.foldl_cons, List.foldl_nil, Act.put, sA, sZ, sS] at hK ⊢
   rw [if_pos (by rfl)]
   go_simp
   have d9 := hdep ⟨9, .data⟩ (by simp) rfl (by decide)
   exact hK.out _ _ hS ⟨fun e3 e9 => hG.1 e3 e9, fun e8 e9 => hG.2.1 e8 e9, fun e9 => hG.2.2.1 e9, fun _ => ⟨d9, rfl⟩⟩
 ·intro f W hG hS
  obtain ⟨p13, c13, h13, hO13⟩ := hG.2.2.1 rfl
  have h3 := (hG.2.2.2 rfl).2
  simp only [a0r, List.foldl_cons, List.foldl_nil, Act.put, sA, sZ, sS]
  rw [h13] at hO13 h3
  rw [h3]
  have hO' := Hi hO13; have hS' := Hi hS
  generalize f 7 = f7
  generalize f 12 = f12
  generalize f 13 = f13
  clear hG h13 h3 hO13 hS f
  refine NoPanic.normal ?_
  obtain ⟨X1, hX1⟩ : ∃ X, X = be 2 U ++ [2, UInt8.ofNat T] := ⟨_, rfl⟩
  have hX1l : X1.length = 4 := by rw [hX1, List.length_append, a0b]; rfl
  rw [← hX1, show (be 2 U).length + 2 = X1.length by rw [hX1l, a0b]] at hO'
  rw [show (be 2 U).length + 2 = X1.length by rw [hX1l, a0b]]
  have hX1' := Hi hX1; have hX1l' := Hi hX1l
  clear hX1 hX1l
  have c2 := hS'.out.cell 2 (.int .u32 id) (by rw [hcs'.out]; rfl)
  have c3 := hS'.out.cell 3 (.int .u32 adv) (by rw [hcs'.out]; rfl)
  have c4 := hS'.out.cell 4 (.int .i64 seq) (by rw [hcs'.out]; rfl)
  go_wp2_with fail
  have hN : Hid (a0u (W.alloc (.cells #[.int .u32 id, .int .u32 adv, .int .u32 Z] 22)) (.slice (some ⟨W.heap.size, 0, none⟩) 3 3) [id, adv, Z]) := Hi (a0u.new W [id, adv, Z] rfl)
  refine (c0k wB _ X1 _ [id, adv, Z] (Hi (by intro n hn; simp at hn; rcases hn with rfl | rfl | rfl <;> assumption)) (by rw [hX1l'.out]; simp) _ (Hi (hO'.out.keep ((a02.refl (fun _ => False) _).alloc _) (fun _ _ f => f))) hN (Hi (fun _ k e => by
   simp only [Value.ownBlock, Option.some.injEq] at e
   subst e
   refine ⟨fun e => ?_, by simp⟩
   have := k0b hO'.out _ e; omega))).mono ?_
  rintro e W2 ⟨p2, d2, rfl, hO2, hg2⟩
  have hS2 := Hi ((hS'.out.next ((a02.refl (fun _ => False) _).alloc (.cells #[.int .u32 id, .int .u32 adv, .int .u32 Z] 22))).grow hsz.out hg2 hO'.out.2.1)
  obtain ⟨X2, hX2⟩ : ∃ X, X = X1 ++ bes [id, adv, Z] := ⟨_, rfl⟩
  have hX2l : X2.length = 16 := by rw [hX2, List.length_append, hX1l'.out, d0u]; rfl
  rw [← hX2, show X1.length + (bes [id, adv, Z]).length = X2.length by rw [hX2, List.length_append]] at hO2
  rw [show X1.length + (bes [id, adv, Z]).length = X2.length by rw [hX2, List.length_append]]
  have hX2' := Hi hX2; have hX2l' := Hi hX2l; have hO2' := Hi hO2
  clear hX2 hX2l hO2 hg2 hS' hO' hN c2 c3 c4
  go_upto_region 3 with fail
  refine wp_region_noPanic ?_
  refine wp_region_held_drew (S := (fun W => b0v w.heap.size cs wB W)) (by kernel_rfl) (hS2.out.next ((a02.refl _ _).drew)) (fun hHeld => ?_)
  refine tk 0 rfl ?_
  refine tk 1 rfl ?_
  refine tkL 2 rfl (a04 (by rfl) 61 (.tmp 27) rfl w.heap.size 5 rfl _ (fun _ s => s.cell 5 (.int .u16 sum) (by rw [hcs'.out]; rfl)) (fun w s => o02 w _ _ _ s)) ?_
  refine tk 4 rfl ?_
  refine tkL 5 rfl (a04 (by rfl) 3 (.tmp 30) rfl w.heap.size 6 rfl _ (fun _ s => s.cell 6 (.int .i64 len) (by rw [hcs'.out]; rfl)) (fun w s => a0t w _ _ _ s)) ?_
  refine tk 6 rfl ?_
  have hO3 := Hi (hO2'.out.keep ((a02.refl (fun _ => False) _).drew) (fun _ _ f => f))
  refine sL 3 rfl fun K hK => ?_
  go_simp
  (refine (c0c wB _ X2 sum hsum (by rw [hX2l'.out]; omega) _ hO3).mono ?_; rintro e W4 ⟨p4, d4, rfl, hO4, hg4⟩)
  go_wp2_with fail
  refine hK.out _ _ (hHeld.grow hsz.out hg4 hO3.out.2.1) (fun hHeld => ?_)
  clear hK K
  try simp only [Act.put, sA, sZ, sS]
  obtain ⟨X3, hX3⟩ : ∃ X, X = X2 ++ be 2 sum := ⟨_, rfl⟩
  have hX3l : X3.length = 18 := by rw [hX3, List.length_append, hX2l'.out, a0b]
  rw [← hX3, show X2.length + (be 2 sum).length = X3.length by rw [hX3, List.length_append]] at hO4
  rw [show X2.length + (be 2 sum).length = X3.length by rw [hX3, List.length_append]]
  have hX3' := Hi hX3; have hX3l' := Hi hX3l; have hO4' := Hi hO4
  clear hX3 hX3l hO4 hg4 hO3
  refine sL 7 rfl fun K hK => ?_
  go_simp
  (refine (c0c wB _ X3 Y lY (by rw [hX3l'.out]; omega) _ hO4').mono ?_; rintro e W5 ⟨p5, d5, rfl, hO5, hg5⟩)
  go_wp2_with fail
  refine hK.out _ _ (hHeld.grow hsz.out hg5 hO4'.out.2.1) (fun hHeld => ?_)
  clear hK K
  try simp only [Act.put, sA, sZ, sS]
  refine tk 8 rfl ?_
  refine wpAnyH_done (by kernel_rfl) (NoPanic.normal ?_) _
  have hfin : X3 ++ be 2 Y = e09 ⟨age, type, id, adv, seq, sum, len⟩ := by
   rw [hX3'.out, hX2'.out, hX1'.out]
   unfold e09
   simp only [← hUl.out, ← hTl.out, ← hZl.out, ← hYl.out, be4_lo, be2_lo, bes, List.flatMap_cons, List.flatMap_nil, List.append_nil, List.append_assoc]
  have hl20 : X3.length + (be 2 Y).length = (e09 ⟨age, type, id, adv, seq, sum, len⟩).length := by rw [← hfin, List.length_append]
  rw [hfin] at hO5
  have hO6 := Hi hO5; have hS6 := Hi hHeld; have hl20' := Hi hl20
  clear hO5 hHeld hfin hl20 hg5
  go_wp2_with fail
  go_ret
  exact ⟨p5, d5, by rw [← hl20'.out]; rfl, by rw [← hl20'.out]; exact hO6.out.older (by have := hsz.out; omega), hwB.out.trans hS6.out.k⟩
structure b09 where
 id : Nat
 data : Nat
 type : Int
 cost : Int
def b09.ok (l : b09) : Prop := l.id < 4294967296 ∧ l.data < 4294967296 ∧ (-9223372036854775808 ≤ l.type ∧ l.type ≤ 9223372036854775807) ∧ (-9223372036854775808 ≤ l.cost ∧ l.cost ≤ 9223372036854775807)
def b0l (l : b09) : List Value := [.int .u32 l.id, .int .u32 l.data, .int .i64 l.type, .int .i64 l.cost]
theorem l03 : (Try.prog.info? 108).map (·.size) = some 4 := by kernel_rfl
def b02 (w : World) (v : Value) (ls : List b09) : Prop := ∃ p c, v = .slice p ls.length c ∧ (p = none → c = 0) ∧ ls.length ≤ c ∧ (0 < ls.length → ∃ g o, p = some ⟨g, o, none⟩ ∧ ∀ i l, ls[i]? = some l → w.rangeAt g (o + i * 4) (b0l l))
theorem b02.keepF {F : Nat → Prop} {w w' : World} {v : Value} {ls : List b09} (h : b02 w v ls) (k : a02 F w w') (hF : 0 < ls.length → ∀ i, v.ownBlock = some i → ¬ F i) : b02 w' v ls := by
 obtain ⟨p, c, rfl, hp, hc, h⟩ := h
 refine ⟨p, c, rfl, hp, hc, fun h0 => ?_⟩
 obtain ⟨g, o, rfl, hr⟩ := h h0
 exact ⟨g, o, rfl, fun i l hl => k.rangeAt (hr i l hl) (hF h0 g rfl)⟩
theorem b02.keep {w w' : World} {v : Value} {ls : List b09} (h : b02 w v ls) (k : a02 (fun _ => False) w w') : b02 w' v ls := h.keepF k (fun _ _ _ f => f)
theorem b02.nil (w : World) : b02 w (.slice none 0 0) [] := ⟨none, 0, rfl, fun _ => rfl, Nat.le_refl _, fun h => by simp at h⟩
def a0e (n lo hi : Int) : Bool := decide (lo ≤ n ∧ n ≤ hi)
theorem a0j (n lo hi : Int) (r : Bool) (w : World) (hr : Hid (a0e n lo hi = r)) :
 Calls Try.prog 76 #[.int .i64 n, .int .i64 lo, .int .i64 hi] w fun e w' => e = .returned (.bool r) ∧ w = w' := by
 have h := hr.out
 unfold a0e at h
 by_cases h1 : lo ≤ n
 ·by_cases h2 : n ≤ hi
  ·rw [decide_eq_true ⟨h1, h2⟩] at h
   subst h
   go_enter Try.func76, Try.ntmps76
   go_wp2
   go_ret
   exact ⟨rfl, rfl⟩
  ·rw [decide_eq_false (fun h => h2 h.2)] at h
   subst h
   go_enter Try.func76, Try.ntmps76
   go_wp2
   go_ret
   exact ⟨rfl, rfl⟩
 ·rw [decide_eq_false (fun h => h1 h.1)] at h
  subst h
  go_enter Try.func76, Try.ntmps76
  go_wp2
  go_ret
  exact ⟨rfl, rfl⟩
def c0g (l : b09) : Bool := !a0e l.type 1 4 || !a0e l.cost 0 65535
theorem n07 (l : b09) (r : Bool) (w : World) (hr : Hid (c0g l = r)) :
 Calls Try.prog 78 #[.agg #[.int .u32 l.id, .int .u32 l.data, .int .i64 l.type, .int .i64 l.cost]] w (fun e w' => e = .returned (.bool r) ∧ a02 (fun _ => False) w w') := by
 have h := hr.out
 unfold c0g at h
 obtain ⟨a, ha⟩ : ∃ a, a0e l.type 1 4 = a := ⟨_, rfl⟩
 obtain ⟨b, hb⟩ : ∃ b, a0e l.cost 0 65535 = b := ⟨_, rfl⟩
 rw [ha, hb] at h
 have ha' := Hi ha; have hb' := Hi hb
 clear ha hb hr
 cases a
 ·have h' : true = r := h
  subst h'
  clear h
  go_enter Try.func78, Try.ntmps78
  go_wp2_with (go_at_call 76; refine (a0j _ _ _ false _ ha').mono ?_; rintro e w' ⟨rfl, rfl⟩)
  go_ret
  exact ⟨rfl, (a02.refl _ _).alloc _⟩
 ·have h' : (!b) = r := h
  subst h'
  clear h
  go_enter Try.func78, Try.ntmps78
  go_wp2_with fail
  refine (a0j _ _ _ true _ ha').mono ?_
  rintro e w' ⟨rfl, rfl⟩
  go_wp2_with fail
  refine (a0j _ _ _ b _ hb').mono ?_
  rintro e w' ⟨rfl, rfl⟩
  go_wp2_with fail
  go_ret
  exact ⟨rfl, (a02.refl _ _).alloc _⟩
def h05 (ls : List b09) (k : Nat) : Bool := (ls.drop k).any c0g
theorem m0j (ls : List b09) (k : Nat) (l : b09) (h : ls[k]? = some l) : h05 ls k = (c0g l || h05 ls (k + 1)) := by
 obtain ⟨hk, rfl⟩ := List.getElem?_eq_some_iff.1 h
 unfold h05
 rw [List.drop_eq_getElem_cons hk, List.any_cons]
theorem n0l (ls : List b09) : h05 ls ls.length = false := by unfold h05; simp
set_option maxRecDepth 100000 in
theorem k0r (sl : Value) (ls : List b09) (hl : ls.length ≤ 9223372036854775807) (z : Bool) (w : World) (h : Hid (b02 w sl ls)) (hz : Hid (ls.any c0g = z)) :
 Calls Try.prog 82 #[sl, .func (.func 78) #[] #[]] w (fun e w' => (∃ r : Int, e = .returned (.int .i64 r) ∧ decide (0 ≤ r) = z) ∧ a02 (fun _ => False) w w') := by
 obtain ⟨p, c, rfl, -, -, hb⟩ := h.out
 have hb' := Hi hb; clear hb h
 go_enter Try.func82, Try.ntmps82
 go_wp2_with fail
 go_loopw [8] (fun iv wr => ∃ k : Nat, k ≤ ls.length ∧ iv = .int .i64 k ∧ Hid (h05 ls k = z) ∧ Hid (a02 (fun _ => False) w wr)) (fun iv _ => ls.length - (intOf iv).toNat)
 case atStart => exact ⟨0, by omega, rfl, Hi hz.out, Hi (a02.refl _ _)⟩
 case round =>
  obtain ⟨k, hk, rfl, hany, hkr⟩ := hrel
  by_cases hlk : k < ls.length
  ·obtain ⟨g, o, rfl, hrows⟩ := hb'.out (by omega)
   obtain ⟨l, hll⟩ : ∃ l, ls[k]? = some l := ⟨_, List.getElem?_eq_getElem hlk⟩
   have hrow : Hid (wr.rangeAt g (o + k * 4) [.int .u32 l.id, .int .u32 l.data, .int .i64 l.type, .int .i64 l.cost]) := Hi (hkr.out.rangeAt (hrows k l hll) id)
   have hst := m0j ls k l hll
   rw [hany.out] at hst
   obtain ⟨x, hx⟩ : ∃ x, c0g l = x := ⟨_, rfl⟩
   rw [hx] at hst
   have hx' := Hi hx; have hst' := Hi hst
   clear hx hst hrows hll hany
   go_wp2_with ((with_reducible refine a09 15 ?_); refine wpList_load_mid rfl 108 (.tmp 14) rfl g (o + k * 4) rfl _ _ hrow.out Try.underlying108 rfl l03 ?_)
   refine (n07 l x _ hx').mono ?_
   rintro e w2 ⟨rfl, k2⟩
   have k2' := Hi (hkr.out.trans k2); clear k2
   cases x with
   | true =>
    have hz1 : Hid (z = true) := Hi hst'.out
    clear hst'
    go_wp2_with fail
    go_ret
    exact ⟨⟨_, rfl, by rw [hz1.out]; simp⟩, k2'.out⟩
   | false =>
    have hz1 : Hid (h05 ls (k + 1) = z) := Hi hst'.out.symm
    clear hst'
    go_wp2_with fail
    exact ⟨⟨k + 1, by omega, by go_num, hz1, k2'⟩, by simp [intOf]; omega⟩
  ·obtain rfl : k = ls.length := by omega
   have hz1 : Hid (z = false) := Hi (by rw [← hany.out, n0l])
   clear hany
   go_wp2_with fail
   go_ret
   exact ⟨⟨_, rfl, by rw [hz1.out]; rfl⟩, hkr.out⟩
theorem d0h (sl : Value) (ls : List b09) (hl : ls.length ≤ 9223372036854775807) (z : Bool) (w : World) (h : Hid (b02 w sl ls)) (hz : Hid (ls.any c0g = z)) :
 Calls Try.prog 77 #[sl, .func (.func 78) #[] #[]] w (fun e w' => e = .returned (.bool z) ∧ a02 (fun _ => False) w w') := by
 go_enter Try.func77, Try.ntmps77
 go_wp2_with fail
 refine (k0r sl ls hl z _ h hz).mono ?_
 rintro e w2 ⟨⟨r, rfl, hr⟩, k2⟩
 have hr' := Hi hr; have k2' := Hi k2
 clear hr k2
 go_wp2_with fail
 go_ret
 exact ⟨by rw [← hr'.out]; rfl, k2'.out⟩
structure LsaD where
 age : Int
 type : Int
 id : Nat
 adv : Nat
 seq : Int
 links : List b09
 mask : Nat
 routers : List Nat
 cost : Int
structure LsaD.ok (l : LsaD) : Prop where
 age : -9223372036854775808 ≤ l.age ∧ l.age ≤ 9223372036854775807
 type : -9223372036854775808 ≤ l.type ∧ l.type ≤ 9223372036854775807
 id : l.id < 4294967296
 adv : l.adv < 4294967296
 seq : -9223372036854775808 ≤ l.seq ∧ l.seq ≤ 9223372036854775807
 links : ∀ k ∈ l.links, k.ok
 mask : l.mask < 4294967296
 routers : h06 l.routers
 cost : -9223372036854775808 ≤ l.cost ∧ l.cost ≤ 9223372036854775807
def k0q (l : LsaD) : Bool :=
 if l.type = 1 then decide (l.links.length ≤ 40) && (!l.links.any c0g && (decide (l.mask = 0) && (decide (l.routers.length = 0) && decide (l.cost = 0))))
 else if l.type = 2 then decide (l.links.length = 0) && (a0e l.routers.length 1 40 && decide (l.cost = 0))
 else if l.type = 3 then decide (l.links.length = 0) && (decide (l.routers.length = 0) && a0e l.cost 0 16777215)
 else false
def canB (l : LsaD) : Bool := a0e l.age 0 3600 && (a0e l.seq (-2147483647) 2147483647 && k0q l)
theorem two_ways (a b : Bool) : a = false ∨ (a = true ∧ b = false) ∨ (a = true ∧ b = true) := by cases a <;> cases b <;> simp
theorem k01 (a b c : Bool) : a = false ∨ (a = true ∧ b = false) ∨ (a = true ∧ b = true ∧ c = false) ∨ (a = true ∧ b = true ∧ c = true) := by cases a <;> cases b <;> cases c <;> simp
theorem q0j (a b c d e : Bool) : a = false ∨ (a = true ∧ b = false) ∨ (a = true ∧ b = true ∧ c = false) ∨ (a = true ∧ b = true ∧ c = true ∧ d = false) ∨ (a = true ∧ b = true ∧ c = true ∧ d = true ∧ e = false) ∨ (a = true ∧ b = true ∧ c = true ∧ d = true ∧ e = true) := by cases a <;> cases b <;> cases c <;> cases d <;> cases e <;> simp
theorem g01 {a b : Nat} (h : decide (a = b) = true) : ((a : Int) == (b : Int)) = true := by rw [beq_iff_eq]; have := of_decide_eq_true h; omega
theorem l01 {a b : Nat} (h : decide (a = b) = false) : ((a : Int) == (b : Int)) = false := by rw [beq_eq_false_iff_ne]; have := of_decide_eq_false h; omega
set_option maxRecDepth 100000 in
set_option maxHeartbeats 4000000 in
theorem j0d (age type seq cost : Int) (id adv mask : Nat) (links : List b09) (routers : List Nat) (p5 p7 : Option Addr) (c5 c7 : Nat) (z : Bool) (w : World)
 (hl : Hid (b02 w (.slice p5 links.length c5) links)) (hll : links.length ≤ 9223372036854775807) (hrl : routers.length ≤ 9223372036854775807) (hz : Hid (canB ⟨age, type, id, adv, seq, links, mask, routers, cost⟩ = z)) :
 Calls Try.prog 71 #[.agg (La age type id adv seq (.slice p5 links.length c5) mask (.slice p7 routers.length c7) cost)] w (fun e w' => e = .returned (.bool z) ∧ a02 (fun _ => False) w w') := by
 obtain ⟨cs, hcs⟩ : ∃ cs : List Value, cs = (La' age type id adv seq (.slice p5 links.length c5) mask (.slice p7 routers.length c7) cost) := ⟨_, rfl⟩
 have hB : Hid (b0v w.heap.size cs w (w.alloc (.cells (La age type id adv seq (.slice p5 links.length c5) mask (.slice p7 routers.length c7) cost) 76))) := Hi (by rw [hcs]; exact f0a w _ _)
 have hcs' := Hi hcs; clear hcs
 have hl2 := Hi (hl.out.keep ((a02.refl _ _).alloc (.cells (La age type id adv seq (.slice p5 links.length c5) mask (.slice p7 routers.length c7) cost) 76)))
 have hq := hz.out
 unfold canB at hq
 simp only at hq
 obtain ⟨a, ha⟩ : ∃ a, a0e age 0 3600 = a := ⟨_, rfl⟩
 obtain ⟨b, hb⟩ : ∃ b, a0e seq (-2147483647) 2147483647 = b := ⟨_, rfl⟩
 rw [ha, hb] at hq
 have ha' := Hi ha; have hb' := Hi hb
 clear ha hb hz hl
 rcases two_ways a b with rfl | ⟨rfl, rfl⟩ | ⟨rfl, rfl⟩
 ·obtain rfl : false = z := hq
  go_enter Try.func71, Try.ntmps71
  go_wp2_with fail
  refine (a0j age 0 3600 _ _ ha').mono ?_
  rintro e w' ⟨rfl, rfl⟩
  go_wp2_with fail
  go_ret
  exact ⟨rfl, (a02.refl _ _).alloc _⟩
 ·obtain rfl : false = z := hq
  go_enter Try.func71, Try.ntmps71
  go_wp2_with fail
  refine (a0j age 0 3600 _ _ ha').mono ?_
  rintro e w' ⟨rfl, rfl⟩
  go_wp2_with fail
  refine (a0j seq (-2147483647) 2147483647 _ _ hb').mono ?_
  rintro e w' ⟨rfl, rfl⟩
  go_wp2_with fail
  go_ret
  exact ⟨rfl, (a02.refl _ _).alloc _⟩
 ·have hq2 : k0q ⟨age, type, id, adv, seq, links, mask, routers, cost⟩ = z := hq
  clear hq
  unfold k0q at hq2
  simp only at hq2
  by_cases t1 : type = 1
  ·subst t1
   rw [if_pos rfl] at hq2
   obtain ⟨x1, h1⟩ : ∃ x, decide (links.length ≤ 40) = x := ⟨_, rfl⟩
   obtain ⟨x2, h2⟩ : ∃ x, links.any c0g = x := ⟨_, rfl⟩
   obtain ⟨x3, h3⟩ : ∃ x, decide (mask = 0) = x := ⟨_, rfl⟩
   obtain ⟨x4, h4⟩ : ∃ x, decide (routers.length = 0) = x := ⟨_, rfl⟩
   obtain ⟨x5, h5⟩ : ∃ x, decide (cost = 0) = x := ⟨_, rfl⟩
   rw [h1, h2, h3, h4, h5] at hq2
   have h2' := Hi h2; clear h2
   obtain ⟨y2, hy2⟩ : ∃ y, (!x2) = y := ⟨_, rfl⟩
   rw [hy2] at hq2
   rcases q0j x1 y2 x3 x4 x5 with rfl | ⟨rfl, rfl⟩ | ⟨rfl, rfl, rfl⟩ | ⟨rfl, rfl, rfl, rfl⟩ | ⟨rfl, rfl, rfl, rfl, rfl⟩ | ⟨rfl, rfl, rfl, rfl, rfl⟩
   ·obtain rfl : false = z := hq2
    have e1 : ¬ links.length ≤ 40 := of_decide_eq_false h1
    clear h1 h3 h4 h5 hy2
    go_enter Try.func71, Try.ntmps71
    go_wp2_with fail
    refine (a0j age 0 3600 _ _ ha').mono ?_
    rintro e w' ⟨rfl, rfl⟩
    go_wp2_with fail
    refine (a0j seq (-2147483647) 2147483647 _ _ hb').mono ?_
    rintro e w' ⟨rfl, rfl⟩
    go_wp2_with fail
    go_ret
    exact ⟨rfl, (a02.refl _ _).alloc _⟩
   ·obtain rfl : false = z := hq2
    have e1 : links.length ≤ 40 := of_decide_eq_true h1
    obtain rfl : x2 = true := by cases x2 <;> simp_all
    clear h1 h3 h4 h5 hy2
    go_enter Try.func71, Try.ntmps71
    go_wp2_with fail
    refine (a0j age 0 3600 _ _ ha').mono ?_
    rintro e w' ⟨rfl, rfl⟩
    go_wp2_with fail
    refine (a0j seq (-2147483647) 2147483647 _ _ hb').mono ?_
    rintro e w' ⟨rfl, rfl⟩
    go_wp2_with fail
    refine (d0h _ links hll _ _ hl2 h2').mono ?_
    rintro e w2 ⟨rfl, k2⟩
    have b4 := (hB.out.next k2).cell 6 (.int .u32 mask) (by rw [hcs'.out]; rfl)
    have b5 := (hB.out.next k2).cell 7 (.slice p7 routers.length c7) (by rw [hcs'.out]; rfl)
    have b6 := (hB.out.next k2).cell 8 (.int .i64 cost) (by rw [hcs'.out]; rfl)
    have hk2 := Hi (hB.out.next k2).k
    clear k2
    go_wp2_with fail
    go_ret
    exact ⟨rfl, hk2.out⟩
   ·obtain rfl : false = z := hq2
    have e1 : links.length ≤ 40 := of_decide_eq_true h1
    obtain rfl : x2 = false := by cases x2 <;> simp_all
    have e3 : ((mask : Int) == 0) = false := l01 h3
    clear h1 h3 h4 h5 hy2
    go_enter Try.func71, Try.ntmps71
    go_wp2_with fail
    refine (a0j age 0 3600 _ _ ha').mono ?_
    rintro e w' ⟨rfl, rfl⟩
    go_wp2_with fail
    refine (a0j seq (-2147483647) 2147483647 _ _ hb').mono ?_
    rintro e w' ⟨rfl, rfl⟩
    go_wp2_with fail
    refine (d0h _ links hll _ _ hl2 h2').mono ?_
    rintro e w2 ⟨rfl, k2⟩
    have b4 := (hB.out.next k2).cell 6 (.int .u32 mask) (by rw [hcs'.out]; rfl)
    have b5 := (hB.out.next k2).cell 7 (.slice p7 routers.length c7) (by rw [hcs'.out]; rfl)
    have b6 := (hB.out.next k2).cell 8 (.int .i64 cost) (by rw [hcs'.out]; rfl)
    have hk2 := Hi (hB.out.next k2).k
    clear k2
    go_wp2_with fail
    go_ret
    exact ⟨rfl, hk2.out⟩
   ·obtain rfl : false = z := hq2
    have e1 : links.length ≤ 40 := of_decide_eq_true h1
    obtain rfl : x2 = false := by cases x2 <;> simp_all
    have e3 : ((mask : Int) == 0) = true := g01 h3
    have e4 : ¬ routers.length = 0 := of_decide_eq_false h4
    have e4' : ((routers.length : Int) == 0) = false := by rw [beq_eq_false_iff_ne]; omega
    have e4h := Hi e4; clear e4
    clear h1 h3 h4 h5 hy2
    go_enter Try.func71, Try.ntmps71
    go_wp2_with fail
    refine (a0j age 0 3600 _ _ ha').mono ?_
    rintro e w' ⟨rfl, rfl⟩
    go_wp2_with fail
    refine (a0j seq (-2147483647) 2147483647 _ _ hb').mono ?_
    rintro e w' ⟨rfl, rfl⟩
    go_wp2_with fail
    refine (d0h _ links hll _ _ hl2 h2').mono ?_
    rintro e w2 ⟨rfl, k2⟩
    have b4 := (hB.out.next k2).cell 6 (.int .u32 mask) (by rw [hcs'.out]; rfl)
    have b5 := (hB.out.next k2).cell 7 (.slice p7 routers.length c7) (by rw [hcs'.out]; rfl)
    have b6 := (hB.out.next k2).cell 8 (.int .i64 cost) (by rw [hcs'.out]; rfl)
    have hk2 := Hi (hB.out.next k2).k
    clear k2
    go_wp2_with fail
    go_ret
    exact ⟨rfl, hk2.out⟩
   ·obtain rfl : false = z := hq2
    have e1 : links.length ≤ 40 := of_decide_eq_true h1
    obtain rfl : x2 = false := by cases x2 <;> simp_all
    have e3 : ((mask : Int) == 0) = true := g01 h3
    have e4 : routers.length = 0 := of_decide_eq_true h4
    have e5 : (cost == 0) = false := by rw [beq_eq_false_iff_ne]; exact of_decide_eq_false h5
    have e4' : ((routers.length : Int) == 0) = true := by rw [beq_iff_eq]; omega
    have e4h := Hi e4; clear e4
    clear h1 h3 h4 h5 hy2
    go_enter Try.func71, Try.ntmps71
    go_wp2_with fail
    refine (a0j age 0 3600 _ _ ha').mono ?_
    rintro e w' ⟨rfl, rfl⟩
    go_wp2_with fail
    refine (a0j seq (-2147483647) 2147483647 _ _ hb').mono ?_
    rintro e w' ⟨rfl, rfl⟩
    go_wp2_with fail
    refine (d0h _ links hll _ _ hl2 h2').mono ?_
    rintro e w2 ⟨rfl, k2⟩
    have b4 := (hB.out.next k2).cell 6 (.int .u32 mask) (by rw [hcs'.out]; rfl)
    have b5 := (hB.out.next k2).cell 7 (.slice p7 routers.length c7) (by rw [hcs'.out]; rfl)
    have b6 := (hB.out.next k2).cell 8 (.int .i64 cost) (by rw [hcs'.out]; rfl)
    have hk2 := Hi (hB.out.next k2).k
    clear k2
    go_wp2_with fail
    go_ret
    exact ⟨rfl, hk2.out⟩
   ·obtain rfl : true = z := hq2
    have e1 : links.length ≤ 40 := of_decide_eq_true h1
    obtain rfl : x2 = false := by cases x2 <;> simp_all
    have e3 : ((mask : Int) == 0) = true := g01 h3
    have e4 : routers.length = 0 := of_decide_eq_true h4
    have e5 : (cost == 0) = true := by rw [beq_iff_eq]; exact of_decide_eq_true h5
    have e4' : ((routers.length : Int) == 0) = true := by rw [beq_iff_eq]; omega
    have e4h := Hi e4; clear e4
    clear h1 h3 h4 h5 hy2
    go_enter Try.func71, Try.ntmps71
    go_wp2_with fail
    refine (a0j age 0 3600 _ _ ha').mono ?_
    rintro e w' ⟨rfl, rfl⟩
    go_wp2_with fail
    refine (a0j seq (-2147483647) 2147483647 _ _ hb').mono ?_
    rintro e w' ⟨rfl, rfl⟩
    go_wp2_with fail
    refine (d0h _ links hll _ _ hl2 h2').mono ?_
    rintro e w2 ⟨rfl, k2⟩
    have b4 := (hB.out.next k2).cell 6 (.int .u32 mask) (by rw [hcs'.out]; rfl)
    have b5 := (hB.out.next k2).cell 7 (.slice p7 routers.length c7) (by rw [hcs'.out]; rfl)
    have b6 := (hB.out.next k2).cell 8 (.int .i64 cost) (by rw [hcs'.out]; rfl)
    have hk2 := Hi (hB.out.next k2).k
    clear k2
    go_wp2_with fail
    go_ret
    exact ⟨rfl, hk2.out⟩
  ·rw [if_neg t1] at hq2
   have d1 : (type == 1) = false := by rw [beq_eq_false_iff_ne]; exact t1
   by_cases t2 : type = 2
   ·subst t2
    rw [if_pos rfl] at hq2
    obtain ⟨x1, h1⟩ : ∃ x, decide (links.length = 0) = x := ⟨_, rfl⟩
    obtain ⟨x2, h2⟩ : ∃ x, a0e routers.length 1 40 = x := ⟨_, rfl⟩
    obtain ⟨x3, h3⟩ : ∃ x, decide (cost = 0) = x := ⟨_, rfl⟩
    rw [h1, h2, h3] at hq2
    have h2' := Hi h2; clear h2 t1 d1
    rcases k01 x1 x2 x3 with rfl | ⟨rfl, rfl⟩ | ⟨rfl, rfl, rfl⟩ | ⟨rfl, rfl, rfl⟩
    ·obtain rfl : false = z := hq2
     have e1 : ((links.length : Int) == 0) = false := by rw [beq_eq_false_iff_ne]; have := of_decide_eq_false h1; omega
     clear h1 h3
     go_enter Try.func71, Try.ntmps71
     go_wp2_with fail
     refine (a0j age 0 3600 _ _ ha').mono ?_
     rintro e w' ⟨rfl, rfl⟩
     go_wp2_with fail
     refine (a0j seq (-2147483647) 2147483647 _ _ hb').mono ?_
     rintro e w' ⟨rfl, rfl⟩
     go_wp2_with fail
     go_ret
     exact ⟨rfl, (a02.refl _ _).alloc _⟩
    ·obtain rfl : false = z := hq2
     have e1 : ((links.length : Int) == 0) = true := by rw [beq_iff_eq]; have := of_decide_eq_true h1; omega
     clear h1 h3
     go_enter Try.func71, Try.ntmps71
     go_wp2_with fail
     refine (a0j age 0 3600 _ _ ha').mono ?_
     rintro e w' ⟨rfl, rfl⟩
     go_wp2_with fail
     refine (a0j seq (-2147483647) 2147483647 _ _ hb').mono ?_
     rintro e w' ⟨rfl, rfl⟩
     go_wp2_with fail
     refine (a0j (routers.length : Int) 1 40 _ _ h2').mono ?_
     rintro e w' ⟨rfl, rfl⟩
     go_wp2_with fail
     go_ret
     exact ⟨rfl, (a02.refl _ _).alloc _⟩
    ·obtain rfl : false = z := hq2
     have e1 : ((links.length : Int) == 0) = true := by rw [beq_iff_eq]; have := of_decide_eq_true h1; omega
     have e5 : (cost == 0) = false := by rw [beq_eq_false_iff_ne]; exact of_decide_eq_false h3
     clear h1 h3
     go_enter Try.func71, Try.ntmps71
     go_wp2_with fail
     refine (a0j age 0 3600 _ _ ha').mono ?_
     rintro e w' ⟨rfl, rfl⟩
     go_wp2_with fail
     refine (a0j seq (-2147483647) 2147483647 _ _ hb').mono ?_
     rintro e w' ⟨rfl, rfl⟩
     go_wp2_with fail
     refine (a0j (routers.length : Int) 1 40 _ _ h2').mono ?_
     rintro e w' ⟨rfl, rfl⟩
     go_wp2_with fail
     go_ret
     exact ⟨rfl, (a02.refl _ _).alloc _⟩
    ·obtain rfl : true = z := hq2
     have e1 : ((links.length : Int) == 0) = true := by rw [beq_iff_eq]; have := of_decide_eq_true h1; omega
     have e5 : (cost == 0) = true := by rw [beq_iff_eq]; exact of_decide_eq_true h3
     clear h1 h3
     go_enter Try.func71, Try.ntmps71
     go_wp2_with fail
     refine (a0j age 0 3600 _ _ ha').mono ?_
     rintro e w' ⟨rfl, rfl⟩
     go_wp2_with fail
     refine (a0j seq (-2147483647) 2147483647 _ _ hb').mono ?_
     rintro e w' ⟨rfl, rfl⟩
     go_wp2_with fail
     refine (a0j (routers.length : Int) 1 40 _ _ h2').mono ?_
     rintro e w' ⟨rfl, rfl⟩
     go_wp2_with fail
     go_ret
     exact ⟨rfl, (a02.refl _ _).alloc _⟩
   ·rw [if_neg t2] at hq2
    have d2 : (type == 2) = false := by rw [beq_eq_false_iff_ne]; exact t2
    by_cases t3 : type = 3
    ·subst t3
     rw [if_pos rfl] at hq2
     obtain ⟨x1, h1⟩ : ∃ x, decide (links.length = 0) = x := ⟨_, rfl⟩
     obtain ⟨x2, h2⟩ : ∃ x, decide (routers.length = 0) = x := ⟨_, rfl⟩
     obtain ⟨x3, h3⟩ : ∃ x, a0e cost 0 16777215 = x := ⟨_, rfl⟩
     rw [h1, h2, h3] at hq2
     have h3' := Hi h3; clear h3 t1 d1 t2 d2
     rcases k01 x1 x2 x3 with rfl | ⟨rfl, rfl⟩ | ⟨rfl, rfl, rfl⟩ | ⟨rfl, rfl, rfl⟩
     ·obtain rfl : false = z := hq2
      have e1 : ((links.length : Int) == 0) = false := by rw [beq_eq_false_iff_ne]; have := of_decide_eq_false h1; omega
      clear h1 h2
      go_enter Try.func71, Try.ntmps71
      go_wp2_with fail
      refine (a0j age 0 3600 _ _ ha').mono ?_
      rintro e w' ⟨rfl, rfl⟩
      go_wp2_with fail
      refine (a0j seq (-2147483647) 2147483647 _ _ hb').mono ?_
      rintro e w' ⟨rfl, rfl⟩
      go_wp2_with fail
      go_ret
      exact ⟨rfl, (a02.refl _ _).alloc _⟩
     ·obtain rfl : false = z := hq2
      have e1 : ((links.length : Int) == 0) = true := by rw [beq_iff_eq]; have := of_decide_eq_true h1; omega
      have e2 : ((routers.length : Int) == 0) = false := by rw [beq_eq_false_iff_ne]; have := of_decide_eq_false h2; omega
      clear h1 h2
      go_enter Try.func71, Try.ntmps71
      go_wp2_with fail
      refine (a0j age 0 3600 _ _ ha').mono ?_
      rintro e w' ⟨rfl, rfl⟩
      go_wp2_with fail
      refine (a0j seq (-2147483647) 2147483647 _ _ hb').mono ?_
      rintro e w' ⟨rfl, rfl⟩
      go_wp2_with fail
      go_ret
      exact ⟨rfl, (a02.refl _ _).alloc _⟩
     ·obtain rfl : false = z := hq2
      have e1 : ((links.length : Int) == 0) = true := by rw [beq_iff_eq]; have := of_decide_eq_true h1; omega
      have e2 : ((routers.length : Int) == 0) = true := by rw [beq_iff_eq]; have := of_decide_eq_true h2; omega
      clear h1 h2
      go_enter Try.func71, Try.ntmps71
      go_wp2_with fail
      refine (a0j age 0 3600 _ _ ha').mono ?_
      rintro e w' ⟨rfl, rfl⟩
      go_wp2_with fail
      refine (a0j seq (-2147483647) 2147483647 _ _ hb').mono ?_
      rintro e w' ⟨rfl, rfl⟩
      go_wp2_with fail
      refine (a0j cost 0 16777215 _ _ h3').mono ?_
      rintro e w' ⟨rfl, rfl⟩
      go_wp2_with fail
      go_ret
      exact ⟨rfl, (a02.refl _ _).alloc _⟩
     ·obtain rfl : true = z := hq2
      have e1 : ((links.length : Int) == 0) = true := by rw [beq_iff_eq]; have := of_decide_eq_true h1; omega
      have e2 : ((routers.length : Int) == 0) = true := by rw [beq_iff_eq]; have := of_decide_eq_true h2; omega
      clear h1 h2
      go_enter Try.func71, Try.ntmps71
      go_wp2_with fail
      refine (a0j age 0 3600 _ _ ha').mono ?_
      rintro e w' ⟨rfl, rfl⟩
      go_wp2_with fail
      refine (a0j seq (-2147483647) 2147483647 _ _ hb').mono ?_
      rintro e w' ⟨rfl, rfl⟩
      go_wp2_with fail
      refine (a0j cost 0 16777215 _ _ h3').mono ?_
      rintro e w' ⟨rfl, rfl⟩
      go_wp2_with fail
      go_ret
      exact ⟨rfl, (a02.refl _ _).alloc _⟩
    ·rw [if_neg t3] at hq2
     have d3 : (type == 3) = false := by rw [beq_eq_false_iff_ne]; exact t3
     subst hq2
     clear t1 t2 t3
     go_enter Try.func71, Try.ntmps71
     go_wp2_with fail
     refine (a0j age 0 3600 _ _ ha').mono ?_
     rintro e w' ⟨rfl, rfl⟩
     go_wp2_with fail
     refine (a0j seq (-2147483647) 2147483647 _ _ hb').mono ?_
     rintro e w' ⟨rfl, rfl⟩
     go_wp2_with fail
     go_ret
     exact ⟨rfl, (a02.refl _ _).alloc _⟩
def l04 (l : b09) : List UInt8 := be 4 l.id ++ be 4 l.data ++ [UInt8.ofNat (lo8 l.type), 0] ++ be 2 (lo16 l.cost)
theorem q0b (l : b09) : (l04 l).length = 12 := by unfold l04; simp [a0b]
def c0b (ls : List b09) : List UInt8 := ls.flatMap l04
theorem f06 (ls : List b09) : (c0b ls).length = 12 * ls.length := by
 induction ls with
 | nil => rfl
 | cons n ns ih => unfold c0b at *; rw [List.flatMap_cons, List.length_append, ih, q0b, List.length_cons]; omega
theorem j0g (ls : List b09) (l : b09) : c0b (ls ++ [l]) = c0b ls ++ l04 l := by unfold c0b; simp
theorem o03 (a b c d : Int) : (#[.int .u32 a, .int .u32 b, .int .i64 c, .int .i64 d] : Array Value).all (·.oneCell') = true := by simp; exact ⟨rfl, rfl, rfl, rfl⟩
theorem d06.ne {W W' : World} {v : Value} {p : Option Addr} {n c B : Nat} (g : d06 W v p n c W') (h : ∀ k, v.ownBlock = some k → k ≠ B) (hB : B < W.heap.size) : ∀ k, (Value.slice p n c).ownBlock = some k → k ≠ B := fun k e => by
 rcases g.s k e with e | e
 ·exact h k e
 ·omega
theorem d06.range {W W' : World} {v : Value} {p : Option Addr} {n c B o : Nat} {cs : List Value} (g : d06 W v p n c W') (h : ∀ k, v.ownBlock = some k → k ≠ B) (hr : W.rangeAt B o cs) : W'.rangeAt B o cs :=
 g.k.rangeAt hr (fun e => h B e rfl)
theorem OwnB.keeps {w0 W W' : World} {v : Value} {xs : List UInt8} (h : OwnB w0 W v xs) (k : a02 (fun _ => False) w0 W) {p : Option Addr} {n c : Nat} (g : d06 W v p n c W') : a02 (fun _ => False) w0 W' :=
 k.trans' g.k (fun i e => .inr (h.2.1 i e))
theorem hXv {w0 W : World} {q : Option Addr} {n d : Nat} {X : List UInt8} (_ : X.length = n) (h : Hid (OwnB w0 W (.slice q n d) X)) : Hid (OwnB w0 W (.slice q n d) X) := h
theorem n0x (X l : List UInt8) (n m : Nat) (hX : X.length = n) (hl : l.length = m) : ∃ Y, Y = X ++ l ∧ Y.length = n + m := ⟨X ++ l, rfl, by rw [List.length_append, hX, hl]⟩
set_option maxRecDepth 100000 in
set_option maxHeartbeats 4000000 in
theorem j0y (sl : Value) (ls : List b09) (hl : ls.length ≤ 1000) (hok : Hid (∀ l ∈ ls, l.ok)) (w : World) (h : Hid (b02 w sl ls)) :
 Calls Try.prog 79 #[sl] w (h0x (be 4 ls.length ++ c0b ls) w) := by
 obtain ⟨i0, hi0, hz0, hz1, hz2⟩ := info_parts b0g
 obtain ⟨p, c, rfl, -, -, hb⟩ := h.out
 have hb' := Hi hb; clear hb h
 go_enter Try.func79, Try.ntmps79
 go_wp2_with fail
 refine (e0f w _ [] ls.length (by omega) (by simp) _ (Hi (OwnB.nil w w (Nat.le_refl _)))).mono ?_
 rintro e w1 ⟨p1, c1, rfl, hO, hg⟩
 rw [List.nil_append, show ([] : List UInt8).length + (be 4 ls.length).length = 4 by simp [a0b]] at hO
 rw [show ([] : List UInt8).length + (be 4 ls.length).length = 4 by simp [a0b]]
 have hO1 := Hi hO; have hk1 := Hi hg.nil
 clear hO hg
 go_wp2_with fail
 go_loopw [3, 12] (fun bw iv wr => ∃ k : Nat, k ≤ ls.length ∧ iv = .int .i64 k ∧ Hid (∃ q d, bw = .slice q (4 + 12 * k) d ∧ OwnB w wr bw (be 4 ls.length ++ c0b (ls.take k)) ∧ a02 (fun _ => False) w wr)) (fun _ iv _ => ls.length - (intOf iv).toNat)
 case atStart => exact ⟨0, by omega, rfl, Hi ⟨p1, c1, rfl, by simpa [c0b] using hO1.out, hk1.out⟩⟩
 case round =>
  obtain ⟨k, hk, rfl, hrow⟩ := hrel
  obtain ⟨q, d, rfl, hO, hkw⟩ := hrow.out
  have hO' := Hi hO; have hkw' := Hi hkw
  clear hO hkw hrow
  obtain ⟨X, hX⟩ : ∃ X, X = be 4 ls.length ++ c0b (ls.take k) := ⟨_, rfl⟩
  have hXl : X.length = 4 + 12 * k := by rw [hX, List.length_append, f06, a0b, List.length_take]; omega
  rw [← hX] at hO'
  by_cases hlk : k < ls.length
  ·obtain ⟨g, o, rfl, hrows⟩ := hb'.out (by omega)
   obtain ⟨l, hll⟩ : ∃ l, ls[k]? = some l := ⟨_, List.getElem?_eq_getElem hlk⟩
   have hrow : Hid (wr.rangeAt g (o + k * 4) [.int .u32 l.id, .int .u32 l.data, .int .i64 l.type, .int .i64 l.cost]) := Hi (hkw'.out.rangeAt (hrows k l hll) id)
   have hlok := hok.out l (List.mem_of_getElem? hll)
   have hsn := j0g (ls.take k) l
   have htk : ls.take (k + 1) = ls.take k ++ [l] := by
    rw [List.take_succ_eq_append_getElem hlk]
    rw [List.getElem?_eq_getElem hlk] at hll; injection hll with hll; rw [hll]
   rw [← htk] at hsn
   have hnext : Hid (be 4 ls.length ++ c0b (ls.take (k + 1)) = X ++ l04 l) := Hi (by rw [hsn, hX, List.append_assoc])
   have hXl' := Hi hXl
   obtain ⟨l1, l2, l3, l4⟩ := hlok
   clear hsn htk hX hll hrows hXl
   obtain ⟨lid, ldata, ltype, lcost⟩ := l
   simp only at l1 l2 l3 l4 hrow
   obtain ⟨T, hT, lT, hTl⟩ := f0p ltype
   obtain ⟨C, hC, lC, hCl⟩ := k0p lcost
   have hBx : Hid ((wr.alloc (.cells #[.int .u32 lid, .int .u32 ldata, .int .i64 ltype, .int .i64 lcost] 108)).rangeAt wr.heap.size 0 [.int .u32 lid, .int .u32 ldata, .int .i64 ltype, .int .i64 lcost]) := Hi (a0o wr _ 108)
   have hOb := Hi (hO'.out.keep ((a02.refl (fun _ => False) _).alloc (.cells #[.int .u32 lid, .int .u32 ldata, .int .i64 ltype, .int .i64 lcost] 108)) (fun _ _ f => f))
   have hkb := Hi (hkw'.out.alloc (.cells #[.int .u32 lid, .int .u32 ldata, .int .i64 ltype, .int .i64 lcost] 108))
   have hneb : Hid (∀ j, (Value.slice q (4 + 12 * k) d).ownBlock = some j → j ≠ wr.heap.size) := Hi (fun j e => by
    have := k0b hO'.out j e; omega)
   have hszb : Hid (wr.heap.size < (wr.alloc (.cells #[.int .u32 lid, .int .u32 ldata, .int .i64 ltype, .int .i64 lcost] 108)).heap.size) := Hi (by simp)
   go_upto_region 5 with (first | ((with_reducible refine a09 15 ?_); refine wpList_load_mid rfl 108 (.tmp 14) rfl g (o + k * 4) rfl _ _ hrow.out Try.underlying108 rfl l03 ?_) | ((with_reducible refine a08 5 ?_); refine a07 rfl 108 (.tmp 5) (.tmp 15) rfl _ #[.int .u32 lid, .int .u32 ldata, .int .i64 ltype, .int .i64 lcost] rfl rfl l03 rfl (o03 _ _ _ _) ?_))
   generalize wr.alloc (.cells #[.int .u32 lid, .int .u32 ldata, .int .i64 ltype, .int .i64 lcost] 108) = wb at hBx hOb hkb hszb ⊢
   have b0 := a01 hBx.out 0 (.int .u32 lid) rfl
   have b1 := a01 hBx.out 1 (.int .u32 ldata) rfl
   go_wp2_with fail
   have hN : Hid (a0u (wb.alloc (.cells #[.int .u32 lid, .int .u32 ldata] 22)) (.slice (some ⟨wb.heap.size, 0, none⟩) 2 2) [lid, ldata]) := Hi (a0u.new wb [lid, ldata] rfl)
   have hOc := Hi (hOb.out.keep ((a02.refl (fun _ => False) _).alloc (.cells #[.int .u32 lid, .int .u32 ldata] 22)) (fun _ _ f => f))
   have hkc := Hi (hkb.out.alloc (.cells #[.int .u32 lid, .int .u32 ldata] 22))
   have hBc := Hi (((a02.refl (fun _ => False) wb).alloc (.cells #[.int .u32 lid, .int .u32 ldata] 22)).rangeAt hBx.out id)
   have hszc : Hid (wr.heap.size < (wb.alloc (.cells #[.int .u32 lid, .int .u32 ldata] 22)).heap.size) := Hi (by have := hszb.out; simp; omega)
   refine (c0k w _ X _ [lid, ldata] (Hi (by intro n hn; simp at hn; rcases hn with rfl | rfl <;> assumption)) (by rw [hXl'.out]; simp; omega) _ (hXv hXl'.out hOc) hN (Hi (fun _ j e => by
    simp only [Value.ownBlock, Option.some.injEq] at e
    subst e
    refine ⟨fun e => ?_, by simp⟩
    have := k0b hOb.out _ e; omega))).mono ?_
   rintro e w2 ⟨q2, d2, rfl, hO2, hg2⟩
   obtain ⟨X2, hX2, hX2l⟩ := n0x X (bes [lid, ldata]) (4 + 12 * k) 8 hXl'.out (by rw [d0u]; rfl)
   have hn2 : X.length + (bes [lid, ldata]).length = 4 + 12 * k + 8 := by rw [hXl'.out, d0u]; rfl
   rw [← hX2, hn2] at hO2
   rw [hn2] at hg2 ⊢
   have hk2 := Hi (hOc.out.keeps hkc.out hg2)
   have hne2 := Hi (hg2.ne hneb.out hszc.out)
   have hB2 := Hi (hg2.range hneb.out hBc.out)
   have hO2' := Hi hO2; have hX2' := Hi hX2; have hX2l' := Hi hX2l
   have hsz2 : Hid (wr.heap.size < w2.heap.size) := Hi (Nat.lt_of_lt_of_le hszc.out hg2.k.size)
   clear hO2 hX2 hX2l hg2 hn2 hN hOc hkc hBc hszc hneb b0 b1
   go_upto_region 6 with fail
   refine wp_region_noPanic ?_
   refine wp_region_held_drew (S := (fun W => W.rangeAt wr.heap.size 0 [.int .u32 lid, .int .u32 ldata, .int .i64 ltype, .int .i64 lcost])) (by kernel_rfl) ((((a02.refl (fun _ => False) _).drew).rangeAt hB2.out id)) (fun hHeld => ?_)
   refine tk 0 rfl ?_
   refine tk 1 rfl ?_
   refine tkL 2 rfl (a04 (by rfl) 3 (.tmp 24) rfl wr.heap.size 2 rfl _ (fun _ s => a01 s 2 (.int .i64 ltype) rfl) (fun w s => a0t w _ _ _ s)) ?_
   refine tk 3 rfl ?_
   refine tk 6 rfl ?_
   refine tkL 7 rfl (a04 (by rfl) 3 (.tmp 29) rfl wr.heap.size 3 rfl _ (fun _ s => a01 s 3 (.int .i64 lcost) rfl) (fun w s => a0t w _ _ _ s)) ?_
   refine tk 8 rfl ?_
   have hO3 := Hi ((hO2'.out.keep ((a02.refl (fun _ => False) _).drew) (fun _ _ f => f)).keep ((a02.refl (fun _ => False) _).alloc (.cells #[.int .u8 T, .int .u8 0] 5)) (fun _ _ f => f))
   have hk3 := Hi ((hk2.out.drew).alloc (.cells #[.int .u8 T, .int .u8 0] 5))
   have hsrc : Hid (a0a (w2.drew.alloc (.cells #[.int .u8 T, .int .u8 0] 5)) (.slice (some ⟨w2.drew.heap.size, 0, none⟩) 2 2) [UInt8.ofNat T, 0]) := Hi (by
    have := (OwnB.new w2.drew w2.drew (Nat.le_refl _) [UInt8.ofNat T, 0] (n := 2) rfl (by unfold maxLen; omega)).bytes
    rw [List.map_cons, List.map_cons, List.map_nil, g0m T lT] at this
    exact this)
   have hsz3 : Hid (wr.heap.size < (w2.drew.alloc (.cells #[.int .u8 T, .int .u8 0] 5)).heap.size) := Hi (by have := hsz2.out; simp; omega)
   refine sL 4 rfl fun K hK => ?_
   go_simp
   refine hK.out _ _ (((a02.refl (fun _ => False) _).alloc _).rangeAt hHeld id) (fun hHeld => ?_)
   clear hK K
   try simp only [Act.put, sA, sZ, sS]
   refine sL 5 rfl fun K hK => ?_
   rw [if_pos (by rfl)]
   (refine a0m (.tmp 23) (.tmp 27) 31 rfl i0 Try.underlying31 hi0 hz0 hz1 hz2 w _ X2 rfl hO3.out _ rfl [UInt8.ofNat T, 0] hsrc.out (by rw [hX2l'.out]; simp; omega) ?_; intro q4 d4 w4 hO4 hg4)
   refine hK.out _ _ ((hg4.range hne2.out hHeld)) (fun hHeld => ?_)
   clear hK K
   try simp only [Act.put, sA, sZ, sS]
   obtain ⟨X4, hX4, hX4l⟩ := n0x X2 [UInt8.ofNat T, 0] (4 + 12 * k + 8) 2 hX2l'.out rfl
   have hn4 : X2.length + ([UInt8.ofNat T, 0] : List UInt8).length = 4 + 12 * k + 8 + 2 := by rw [hX2l'.out]; rfl
   rw [← hX4, hn4] at hO4
   rw [hn4] at hg4 ⊢
   have hk4 := Hi (hO3.out.keeps hk3.out hg4)
   have hne4 := Hi (hg4.ne hne2.out hsz3.out)
   have hO4' := Hi hO4; have hX4' := Hi hX4; have hX4l' := Hi hX4l
   clear hO4 hX4 hX4l hg4 hn4 hO3 hk3 hsrc hsz3
   refine sL 9 rfl fun K hK => ?_
   go_simp
   (refine (c0c w _ X4 C lC (by rw [hX4l'.out]; omega) _ hO4').mono ?_; rintro e w5 ⟨q5, d5, rfl, hO5, hg5⟩)
   go_wp2_with fail
   refine hK.out _ _ ((hg5.range hne4.out hHeld)) (fun hHeld => ?_)
   clear hK K
   try simp only [Act.put, sA, sZ, sS]
   refine tk 10 rfl ?_
   refine wpAnyH_done (by kernel_rfl) (NoPanic.normal ?_) _
   have hfin : X4 ++ be 2 C = X ++ l04 ⟨lid, ldata, ltype, lcost⟩ := by
    rw [hX4'.out, hX2'.out]
    unfold l04
    simp only [← hTl.out, ← hCl.out, bes, List.flatMap_cons, List.flatMap_nil, List.append_nil, List.append_assoc]
   have hn5 : X4.length + (be 2 C).length = 4 + 12 * (k + 1) := by rw [hX4l'.out, a0b]; omega
   rw [hfin, hn5] at hO5
   rw [hn5] at hg5 ⊢
   have hk5 := Hi (hO4'.out.keeps hk4.out hg5)
   have hO5' := Hi hO5
   clear hO5 hg5 hfin hn5 hHeld hk4 hne4 hO4'
   go_wp2_with fail
   exact ⟨⟨k + 1, by omega, by go_num, Hi ⟨q5, d5, rfl, by rw [hnext.out]; exact hO5'.out, hk5.out⟩⟩, by simp [intOf]; omega⟩
  ·obtain rfl : k = ls.length := by omega
   rw [List.take_length] at hX
   have hX' := Hi hX; have hXl' := Hi hXl
   clear hX hXl
   go_wp2_with fail
   go_ret
   have hn : (be 4 ls.length ++ c0b ls).length = 4 + 12 * ls.length := by rw [List.length_append, a0b, f06]
   exact ⟨q, d, by rw [hn]; rfl, by rw [hn, ← hX'.out]; exact hO'.out, hkw'.out⟩
end Go.Proofs.Ytmggbljkehclpaa
