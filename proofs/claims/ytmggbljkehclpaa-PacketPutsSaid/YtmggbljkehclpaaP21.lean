/- PL PN PM -/
import Derived.Test.YtmggbljkehclpaaP12
set_option linter.unusedVariables false
set_option linter.unusedSimpArgs false
namespace Go.Proofs.Ytmggbljkehclpaa
open Go.RowKit
theorem l0b : (Try.prog.info? 67).map (fun i => (i.zero, i.size, i.bytes)) = some (some (.agg #[.int .i64 0, .int .u32 0, .int .u32 0]), 3, 16) := by kernel_rfl
theorem k0f : (Try.prog.info? 69).map (fun i => (i.zero, i.size, i.bytes)) = some (some (.agg (Ha 0 0 0 0 0 0 0)), 7, 48) := by kernel_rfl
set_option maxRecDepth 100000 in
set_option maxHeartbeats 4000000 in
theorem k0p (p : Option Addr) (c : Nat) (l : List UInt8) (hl : l.length ≤ 1000000) (w : World) (h : Hid (a0b w (.slice p l.length c) l)) :
 Calls Try.prog 57 #[.slice p l.length c] w fun e w' => ∃ q d, e = .returned (.slice q (l.length / 12) d) ∧ OwnR 67 3 b0m w w' (.slice q (l.length / 12) d) (e0h l (l.length / 12)) ∧ a03 (fun _ => False) w w' := by
 obtain ⟨i0, hi0, hz0, hz1, hz2⟩ := info_parts l0b
 obtain ⟨p', c', e', -, hc, hb⟩ := h.out
 injection e' with e1 e2 e3; subst e1; subst e3
 have hb' := Hi hb; clear hb h
 go_enter Try.func57, Try.ntmps57
 go_wp2
 go_loopw [0, 3] (fun bw nw wr => ∃ (j : Nat) (pp : Option Addr), 12 * j ≤ l.length ∧ bw = .slice pp (l.length - 12 * j) (c - 12 * j) ∧ Hid (12 * j < l.length → ∃ g o, pp = some ⟨g, o + 12 * j, none⟩ ∧ w.rangeAt g o (l.map bv)) ∧ Hid (OwnR 67 3 b0m w wr nw (e0h l j) ∧ a03 (fun _ => False) w wr)) (fun bw _ _ => match bw with | .slice _ n _ => n | _ => 0)
 case atStart => exact ⟨0, p, by omega, rfl, Hi (fun h => by obtain ⟨g, o, rfl, hr⟩ := hb'.out (by omega); exact ⟨g, o, rfl, hr⟩), Hi ⟨OwnR.nil _ _ (Nat.le_refl _), a03.refl _ _⟩⟩
 case round =>
  obtain ⟨j, pp, hj, rfl, hpp, hO⟩ := hrel
  obtain ⟨q, d, hq⟩ := hO.out.1.slice
  rw [f0q] at hq
  subst hq
  by_cases h12 : 12 * j + 12 ≤ l.length
  ·obtain ⟨g, o, rfl, hr⟩ := hpp.out (by omega)
   have hrw : Hid (wr.rangeAt g o (l.map bv)) := Hi (hO.out.2.rangeAt hr id)
   have hrd := Hi (((a03.refl (fun _ => False) wr).drew).rangeAt hrw.out id)
   obtain ⟨na, hna⟩ : ∃ n, a0d (sub l (12 * j) 4) = n := ⟨_, rfl⟩
   obtain ⟨nb, hnb⟩ : ∃ n, a0d (sub l (12 * j + 4) 4) = n := ⟨_, rfl⟩
   obtain ⟨nd, hnd⟩ : ∃ n, a0d (sub l (12 * j + 8) 4) = n := ⟨_, rfl⟩
   have la := d0q (x := l) (i := 12 * j) (n := 4) (by omega)
   rw [hna] at la
   simp only [show (256 : Nat) ^ 4 = 4294967296 from rfl] at la
   have sa : (sub l (12 * j) 4).length ≤ 4 := by rw [a0o (by omega)]; omega
   have sb : (sub l (12 * j + 4) 4).length ≤ 4 := by rw [a0o (by omega)]; omega
   have sd : (sub l (12 * j + 8) 4).length ≤ 4 := by rw [a0o (by omega)]; omega
   have ka := Hi (a0c hrd.out hc (12 * j) 4 (by omega))
   have kb := Hi (a0c hrd.out hc (12 * j + 4) 4 (by omega))
   have kd := Hi (a0c hrd.out hc (12 * j + 8) 4 (by omega))
   rw [← Nat.add_assoc, ← Nat.sub_sub] at kb kd
   have hrs := k0z l j
   have hla : l0z l (12 * j) = ⟨(na : Int), nb, nd⟩ := by
    unfold l0z
    rw [hna, hnb, hnd]
   rw [hla] at hrs
   have hrs' := Hi hrs; have hr0 := Hi hr
   have hgne : Hid (∀ k, w.heap.size ≤ k → k ≠ g) := Hi (fun k hk => by have := World.block_lt_of_cell? _ _ (hr 0 (bv (l[0]'(by omega))) (by rw [List.getElem?_map, List.getElem?_eq_getElem (by omega)]; rfl)); simp only at this; omega)
   have hna' := Hi hna; have hnb' := Hi hnb; have hnd' := Hi hnd
   have i4 : (4 : Int) ≤ (c - 12 * j : Nat) := by omega
   have i8 : (8 : Int) ≤ (c - 12 * j : Nat) := by omega
   have i12 : (12 : Int) ≤ (c - 12 * j : Nat) := by omega
   have j4 : ¬ c - 12 * j = 4 := by omega
   have j8 : ¬ c - 12 * j = 8 := by omega
   have va : IntKind.i64.wrap (na : Int) = (na : Int) := IntWalk.i64_in _ (by omega)
   have hOd := Hi (hO.out.1.keep ((a03.refl (fun _ => False) wr).drew) (fun _ _ f => f))
   have hKd := Hi (hO.out.2.drew)
   have hrl := Hi (f0q l j)
   clear hr hrs hla hna hnb hnd hO hpp
   go_upto_region 4 with fail
   refine wp_region_noPanic ?_
   refine wp_region_held_drew (S := (fun W => W.rangeAt g o (l.map bv))) (by kernel_rfl) (hrd.out) (fun hHeld => ?_)
   refine tk 0 rfl ?_
   refine tk 1 rfl ?_
   refine tk 2 rfl ?_
   refine tk 5 rfl ?_
   refine tk 6 rfl ?_
   refine tk 8 rfl ?_
   refine tk 9 rfl ?_
   refine sL 3 rfl fun K hK => ?_
   go_simp
   (refine (b0f _ _ na sa _ ka hna').mono ?_; rintro e w' ⟨rfl, rfl⟩)
   go_wp2_with fail
   refine hK.out _ _ (hHeld) (fun hHeld => ?_)
   clear hK K
   try simp only [Act.put, sA, sZ, sS]
   refine tk 4 rfl ?_
   refine sL 7 rfl fun K hK => ?_
   go_simp
   (refine (b0f _ _ nb sb _ kb hnb').mono ?_; rintro e w' ⟨rfl, rfl⟩)
   go_wp2_with fail
   refine hK.out _ _ (hHeld) (fun hHeld => ?_)
   clear hK K
   try simp only [Act.put, sA, sZ, sS]
   refine sL 10 rfl fun K hK => ?_
   go_simp
   (refine (b0f _ _ nd sd _ kd hnd').mono ?_; rintro e w' ⟨rfl, rfl⟩)
   go_wp2_with fail
   refine hK.out _ _ (hHeld) (fun hHeld => ?_)
   clear hK K
   try simp only [Act.put, sA, sZ, sS]
   refine tk 11 rfl ?_
   clear i4 i8 i12 j4 j8 va ka kb kd
   have hOl := Hi (hOd.out.keep ((a03.refl (fun _ => False) wr.drew).alloc (.cells #[.int .i64 na, .int .u32 nb, .int .u32 nd] 67)) (fun _ _ f => f))
   have hKl := Hi (hKd.out.alloc (.cells #[.int .i64 na, .int .u32 nb, .int .u32 nd] 67))
   refine sL 12 rfl fun K hK => ?_
   go_simp
   refine hK.out _ _ (((a03.refl (fun _ => False) _).alloc _).rangeAt hHeld id) (fun hHeld => ?_)
   clear hK K
   try simp only [Act.put, sA, sZ, sS]
   refine sL 13 rfl fun K hK => ?_
   rw [if_pos (by rfl)]
   (refine c0v (.tmp 9) (.tmp 21) 37 67 rfl i0 (.agg #[.int .i64 0, .int .u32 0, .int .u32 0]) 16 Try.underlying37 hi0 hz0 hz1 hz2 rfl (by decide) (by decide) c0f w _ j (e0h l j) hrl.out rfl hOl.out _ rfl ⟨(na : Int), nb, nd⟩ (d0e rfl _ _) (g04 _) (by omega) ?_; intro q2 d2 w1 ho hg)
   refine hK.out _ _ ((hg.range (fun k e => hgne.out k (hOl.out.2.1 k e)) hHeld)) (fun hHeld => ?_)
   clear hK K
   try simp only [Act.put, sA, sZ, sS]
   refine tk 14 rfl ?_
   refine wpAnyH_done (by kernel_rfl) (NoPanic.normal ?_) _
   have hR : Hid (OwnR 67 3 b0m w w1 (.slice q2 (j + 1) d2) (e0h l j ++ [⟨(na : Int), nb, nd⟩]) ∧ a03 (fun _ => False) w w1) := Hi ⟨ho, hKl.out.trans' hg.k (fun i e => .inr (hOl.out.2.1 i e))⟩
   clear hHeld ho hg hOl hKl hOd hKd
   go_wp2_with fail
   have hR := hR.out
   refine ⟨⟨j + 1, if c - 12 * j = 12 then some ⟨g, o + 12 * j, none⟩ else some ⟨g, o + 12 * j + 12, none⟩, by omega, ?_, Hi (fun h => ⟨g, o, ?_, hr0.out⟩), Hi ⟨by rw [hrs'.out]; exact hR.1, hR.2⟩⟩, ?_⟩
   ·rw [show l.length - 12 * (j + 1) = l.length - 12 * j - 12 by omega, show c - 12 * (j + 1) = c - 12 * j - 12 by omega]
   ·rw [if_neg (by omega)]; rfl
   ·show l.length - 12 * j - 12 < l.length - 12 * j; omega
  ·have hj2 : l.length / 12 = j := by omega
   have hO' := Hi hO.out
   clear hO hpp
   go_wp2_with fail
   go_ret
   rw [hj2]
   exact ⟨q, d, rfl, hO'.out.1, hO'.out.2⟩
theorem o0z (g o n c : Nat) (x : List UInt8) (hn : Hid (x.length = n)) (h20 : 20 ≤ n) (hl2 : n ≤ 9223372036854775807) (hc : n ≤ c) (age type seq len : Int) (lid adv sum : Nat) (w : World) (hr : Hid (w.rangeAt g o (x.map bv))) (hh : Hid (a0f x = ⟨age, type, lid, adv, seq, sum, len⟩)) :
 Calls Try.prog 68 #[.slice (some ⟨g, o, none⟩) n c] w fun e w' => e = .returned (.tuple #[.agg (Ha age type lid adv seq sum len), .int .i64 0]) ∧ a03 (fun _ => False) w w' := by
 have e := hn.out
 subst e
 exact f0b g o c x h20 hl2 hc age type seq len lid adv sum w hr hh
theorem p0p {w : World} {g o : Nat} {x : List UInt8} (h : w.rangeAt g o (x.map bv)) (i : Nat) : w.rangeAt g (o + i) ((x.drop i).map bv) := by
 have := d06 h i (x.length - i)
 rw [List.take_of_length_le (by simp)] at this
 exact this
set_option maxRecDepth 100000 in
set_option maxHeartbeats 4000000 in
theorem g0j (p : Option Addr) (c : Nat) (l : List UInt8) (hl : l.length ≤ 1000000) (w : World) (h : Hid (a0b w (.slice p l.length c) l)) :
 Calls Try.prog 56 #[.slice p l.length c] w fun e w' => ∃ q d, e = .returned (.slice q (l.length / 20) d) ∧ OwnR 69 7 b0d w w' (.slice q (l.length / 20) d) (d0m l (l.length / 20)) ∧ a03 (fun _ => False) w w' := by
 obtain ⟨i0, hi0, hz0, hz1, hz2⟩ := info_parts k0f
 obtain ⟨p', c', e', -, hc, hb⟩ := h.out
 injection e' with e1 e2 e3; subst e1; subst e3
 have hb' := Hi hb; clear hb h
 go_enter Try.func56, Try.ntmps56
 go_wp2
 go_loopw [0, 3] (fun bw nw wr => ∃ (j : Nat) (pp : Option Addr), 20 * j ≤ l.length ∧ bw = .slice pp (l.length - 20 * j) (c - 20 * j) ∧ Hid (20 * j < l.length → ∃ g o, pp = some ⟨g, o + 20 * j, none⟩ ∧ w.rangeAt g o (l.map bv)) ∧ Hid (OwnR 69 7 b0d w wr nw (d0m l j) ∧ a03 (fun _ => False) w wr)) (fun bw _ _ => match bw with | .slice _ n _ => n | _ => 0)
 case atStart => exact ⟨0, p, by omega, rfl, Hi (fun h => by obtain ⟨g, o, rfl, hr⟩ := hb'.out (by omega); exact ⟨g, o, rfl, hr⟩), Hi ⟨OwnR.nil _ _ (Nat.le_refl _), a03.refl _ _⟩⟩
 case round =>
  obtain ⟨j, pp, hj, rfl, hpp, hO⟩ := hrel
  obtain ⟨q, d, hq⟩ := hO.out.1.slice
  rw [d0b] at hq
  subst hq
  by_cases h20 : 20 * j + 20 ≤ l.length
  ·obtain ⟨g, o, rfl, hr⟩ := hpp.out (by omega)
   have hrw : Hid (wr.rangeAt g (o + 20 * j) ((l.drop (20 * j)).map bv)) := Hi (p0p (hO.out.2.rangeAt hr id) (20 * j))
   cases hh : a0f (l.drop (20 * j)) with
   | mk age type lid adv seq sum len =>
   have hrs := l01 l j
   rw [hh] at hrs
   have hrs' := Hi hrs; have hr0 := Hi hr; have hh' := Hi hh
   have hOd := hO
   have hrl := Hi (d0b l j)
   have hnl : Hid ((l.drop (20 * j)).length = l.length - 20 * j) := Hi (by simp)
   clear hr hrs hh hO hpp
   go_wp2_with fail
   refine (o0z g (o + 20 * j) (l.length - 20 * j) (c - 20 * j) (l.drop (20 * j)) hnl (by omega) (by omega) (by omega) age type seq len lid adv sum _ hrw hh').mono ?_
   rintro e w2 ⟨rfl, k2⟩
   have hO2 := Hi (hOd.out.1.keep k2 (fun _ _ f => f))
   have hK2 := Hi (hOd.out.2.trans k2)
   have hB2 : Hid ((w2.alloc (.cells (Ha age type lid adv seq sum len) 69)).rangeAt w2.heap.size 0 (Ha' age type lid adv seq sum len)) := Hi (a0i w2 _ 69)
   have hO3 := Hi (hO2.out.keep ((a03.refl (fun _ => False) _).alloc (.cells (Ha age type lid adv seq sum len) 69)) (fun _ _ f => f))
   have hK3 := Hi (hK2.out.alloc (.cells (Ha age type lid adv seq sum len) 69))
   clear k2 hO2 hK2 hrw hOd
   go_upto_region 5 with ((with_reducible refine a09 4 ?_); refine a07 rfl 69 (.tmp 4) (.tmp 14) rfl _ (Ha age type lid adv seq sum len) rfl rfl c04 rfl (b0o _ _ _ _ _ _ _) ?_)
   generalize w2.alloc (.cells (Ha age type lid adv seq sum len) 69) = w3 at hB2 hO3 hK3 ⊢
   have hO4 := Hi (hO3.out.keep ((a03.refl (fun _ => False) _).alloc (.cells (Ha age type lid adv seq sum len) 69)) (fun _ _ f => f))
   have hK4 := Hi (hK3.out.alloc (.cells (Ha age type lid adv seq sum len) 69))
   go_wp2_with (first | ((with_reducible refine a0a 17 ?_); refine wpList_load_mid rfl 69 (.tmp 4) rfl w2.heap.size 0 rfl _ _ hB2.out Try.underlying69 rfl c04 ?_) | ((with_reducible refine a0a 19 ?_); go_must (refine g0a rfl (.tmp 16) (.tmp 18) 36 69 rfl i0 (.agg (Ha 0 0 0 0 0 0 0)) 48 Try.underlying36 hi0 hz0 hz1 hz2 rfl (by decide) (by decide) b0r w _ j (d0m l j) hrl.out rfl hO4.out _ rfl ⟨age, type, lid, adv, seq, sum, len⟩ (d0e rfl _ _) (f0c _) (by omega) ?_; intro q5 d5 w5 hO5 hg5)))
   refine ⟨⟨j + 1, if c - 20 * j = 20 then some ⟨g, o + 20 * j, none⟩ else some ⟨g, o + 20 * j + 20, none⟩, by omega, ?_, Hi (fun h => ⟨g, o, ?_, hr0.out⟩), Hi ⟨by rw [hrs'.out]; exact hO5.out, hO4.out.keeps hK4.out hg5.out⟩⟩, ?_⟩
   ·rw [show l.length - 20 * (j + 1) = l.length - 20 * j - 20 by omega, show c - 20 * (j + 1) = c - 20 * j - 20 by omega]
   ·rw [if_neg (by omega)]; rfl
   ·show l.length - 20 * j - 20 < l.length - 20 * j; omega
  ·have hj2 : l.length / 20 = j := by omega
   have hO' := Hi hO.out
   clear hO hpp
   go_wp2_with fail
   go_ret
   rw [hj2]
   exact ⟨q, d, rfl, hO'.out.1, hO'.out.2⟩
def f0v (lo : Nat) (m : LsaM) : Prop := (∀ i n c, (Value.slice m.p5 n c).ownBlock = some i → lo ≤ i) ∧ (∀ i n c, (Value.slice m.p7 n c).ownBlock = some i → lo ≤ i)
def e05 (lo : Nat) (w : World) (v : Value) (ds : List LsaD) : Prop :=
 ∃ ms : List LsaM, ms.map (·.d) = ds ∧ a0s 9 d0t w v ms ∧ (∀ m ∈ ms, f0j w m) ∧ (∀ m ∈ ms, f0v lo m) ∧ (∀ i, v.ownBlock = some i → lo ≤ i)
theorem e05.nil (lo : Nat) (w : World) : e05 lo w (.slice none 0 0) [] := ⟨[], rfl, a0s.nil w, by simp, by simp, by simp [Value.ownBlock]⟩
theorem e05.at {lo : Nat} {w : World} {v : Value} {ds : List LsaD} (h : e05 lo w v ds) : i0t w v ds := by
 obtain ⟨ms, h1, h2, h3, -, -⟩ := h; exact ⟨ms, h1, h2, h3⟩
theorem e05.keepF {F : Nat → Prop} {lo : Nat} {w w' : World} {v : Value} {ds : List LsaD} (h : e05 lo w v ds) (k : a03 F w w') (hF : ∀ i, lo ≤ i → ¬ F i) : e05 lo w' v ds := by
 obtain ⟨ms, h1, h2, h3, h4, h5⟩ := h
 exact ⟨ms, h1, h2.keepF k (fun _ i e => hF i (h5 i e)), fun m hm => ⟨(h3 m hm).1.keepF k (fun _ i e => hF i ((h4 m hm).1 i _ _ e)), (h3 m hm).2.keepF k (fun _ i e => hF i ((h4 m hm).2 i _ _ e))⟩, h4, h5⟩
theorem e05.older {lo lo' : Nat} {w : World} {v : Value} {ds : List LsaD} (h : e05 lo w v ds) (hl : lo' ≤ lo) : e05 lo' w v ds := by
 obtain ⟨ms, h1, h2, h3, h4, h5⟩ := h
 exact ⟨ms, h1, h2, h3, fun m hm => ⟨fun i n c e => Nat.le_trans hl ((h4 m hm).1 i n c e), fun i n c e => Nat.le_trans hl ((h4 m hm).2 i n c e)⟩, fun i e => Nat.le_trans hl (h5 i e)⟩
def SepM (v : Value) (m : LsaM) : Prop := ∀ k, v.ownBlock = some k → (0 < m.d.links.length → ∀ n c, (Value.slice m.p5 n c).ownBlock ≠ some k) ∧ (0 < m.d.routers.length → ∀ n c, (Value.slice m.p7 n c).ownBlock ≠ some k)
structure InvL (w0 w : World) (v : Value) (ms : List LsaM) : Prop where
 own : OwnR 76 9 d0t w0 w v ms
 in_ : ∀ m ∈ ms, f0j w m
 fr : ∀ m ∈ ms, f0v w0.heap.size m
 sep : ∀ m ∈ ms, SepM v m
theorem InvL.nil (w0 w : World) (h : w0.heap.size ≤ w.heap.size) : InvL w0 w (.slice none 0 0) [] := ⟨OwnR.nil _ _ h, by simp, by simp, by simp⟩
theorem InvL.keep {w0 w w' : World} {v : Value} {ms : List LsaM} (h : InvL w0 w v ms) (k : a03 (fun _ => False) w w') : InvL w0 w' v ms :=
 ⟨h.own.keep k (fun _ _ f => f), fun m hm => (h.in_ m hm).keep k, h.fr, h.sep⟩
theorem InvL.push {w0 wb w1 : World} {v : Value} {ms : List LsaM} (h : InvL w0 wb v ms) (m : LsaM) {p : Option Addr} {n c : Nat} (hown : OwnR 76 9 d0t w0 w1 (.slice p n c) (ms ++ [m])) (g : d09 wb v p n c w1) (hin : f0j wb m) (hfr : f0v w0.heap.size m) (hsep : SepM v m) : InvL w0 w1 (.slice p n c) (ms ++ [m]) := by
 have hi : ∀ m' ∈ ms ++ [m], f0j wb m' := fun m' hm => by
  rcases List.mem_append.1 hm with h1 | h1
  ·exact h.in_ m' h1
  ·simp at h1; subst h1; exact hin
 have hs : ∀ m' ∈ ms ++ [m], SepM v m' := fun m' hm => by
  rcases List.mem_append.1 hm with h1 | h1
  ·exact h.sep m' h1
  ·simp at h1; subst h1; exact hsep
 refine ⟨hown, fun m' hm => ⟨(hi m' hm).1.keepF g.k (fun h0 i e hv => (hs m' hm i hv).1 h0 _ _ e), (hi m' hm).2.keepF g.k (fun h0 i e hv => (hs m' hm i hv).2 h0 _ _ e)⟩, fun m' hm => ?_, fun m' hm k e => ⟨fun h0 n' c' e' => ?_, fun h0 n' c' e' => ?_⟩⟩
 ·rcases List.mem_append.1 hm with h1 | h1
  ·exact h.fr m' h1
  ·simp at h1; subst h1; exact hfr
 ·rcases g.s k e with e2 | e2
  ·exact (hs m' hm k e2).1 h0 _ _ e'
  ·have := (hi m' hm).1.lt h0 k _ _ e'; omega
 ·rcases g.s k e with e2 | e2
  ·exact (hs m' hm k e2).2 h0 _ _ e'
  ·have := (hi m' hm).2.lt h0 k _ _ e'; omega
theorem OwnR.own_lt {α : Type} {t sz : Nat} {cv : α → List Value} {w0 w : World} {v : Value} {xs : List α} (h : OwnR t sz cv w0 w v xs) (k : Nat) (e : v.ownBlock = some k) : k < w.heap.size := by
 rcases h.1.2 with ⟨rfl, _⟩ | ⟨g, cap, cur, rfl, _, hg, _⟩
 ·simp [Value.ownBlock] at e
 ·simp only [Value.ownBlock, Option.some.injEq] at e; subst e; exact lt_of_block hg
theorem SepM.new {w0 w1 : World} {v : Value} {m : LsaM} (hlt : ∀ k, v.ownBlock = some k → k < w1.heap.size) (hf : f0v w1.heap.size m) (_ : w0 = w0) : SepM v m := fun k e =>
 ⟨fun _ n c e' => by have := hlt k e; have := hf.1 k n c e'; omega, fun _ n c e' => by have := hlt k e; have := hf.2 k n c e'; omega⟩
def comb (ds : List LsaD) (r : List LsaD × Int) : List LsaD × Int := if r.2 = 0 then (ds ++ r.1, 0) else ([], r.2)
theorem n0f (ds : List LsaD) (e : Int) (h : e ≠ 0) : comb ds ([], e) = ([], e) := by unfold comb; rw [if_neg h]
theorem p0a : ∀ (n : Nat) (x : List UInt8), comb [] (d0w n x) = d0w n x
 | 0, x => rfl
 | n + 1, x => by
  rw [d0w]
  split
  ·rfl
  ·split
   ·rename_i h; exact n0f _ _ h
   ·split
    ·rename_i h; exact n0f _ _ h
    ·rfl
theorem f0e (ds : List LsaD) (e : Int) (h : e ≠ 0) : comb ds ([], e) = ([], e) := by unfold comb; rw [if_neg h]
theorem e08 (m : Nat) (R : List UInt8) (h : R.length < 20 ∨ (a0f R).len < 20 ∨ (R.length : Int) < (a0f R).len) : d0w (m + 1) R = ([], 3) := by rw [d0w, if_pos h]
theorem m0s (m : Nat) (R : List UInt8) (h : ¬ (R.length < 20 ∨ (a0f R).len < 20 ∨ (R.length : Int) < (a0f R).len)) (l : LsaD) (e : Int) (hg : getL (R.take (a0f R).len.toNat) = (l, e)) (he : e ≠ 0) : d0w (m + 1) R = ([], e) := by
 rw [d0w, if_neg h, hg, if_pos he]
theorem l02 (m : Nat) (R : List UInt8) (h : ¬ (R.length < 20 ∨ (a0f R).len < 20 ∨ (R.length : Int) < (a0f R).len)) (l : LsaD) (hg : getL (R.take (a0f R).len.toNat) = (l, 0)) (ds : List LsaD) :
 comb ds (d0w (m + 1) R) = comb (ds ++ [l]) (d0w m (R.drop (a0f R).len.toNat)) := by
 rw [d0w, if_neg h, hg, if_neg (by simp)]
 generalize d0w m (R.drop (a0f R).len.toNat) = r
 obtain ⟨es, e⟩ := r
 unfold comb
 by_cases he : e = 0
 ·subst he; simp
 ·simp [he]
theorem l09 : (Try.prog.info? 76).map (fun i => (i.zero, i.size, i.bytes)) = some (some (.agg Zl), 9, 96) := by kernel_rfl
def e0t (E : List LsaD × Int) (w : World) (e : Ending) (w' : World) : Prop :=
 (∃ q d, e = .returned (.tuple #[.slice q E.1.length d, .int .i64 E.2]) ∧ e05 w.heap.size w' (.slice q E.1.length d) E.1) ∧ a03 (fun _ => False) w w'
theorem e0t.err {E : List LsaD × Int} {er : Int} (hE : E = ([], er)) {w w' : World} (k : a03 (fun _ => False) w w') : e0t E w (.returned (.tuple #[.slice none 0 0, .int .i64 er])) w' := by
 subst hE; exact ⟨⟨none, 0, rfl, e05.nil _ _⟩, k⟩
set_option maxRecDepth 100000 in
set_option maxHeartbeats 8000000 in
theorem k0o (p : Option Addr) (c : Nat) (x : List UInt8) (hx : x.length ≤ 1000000) (E : List LsaD × Int) (w : World) (h : Hid (a0b w (.slice p x.length c) x)) (hE : Hid (d02 x = E)) :
 Calls Try.prog 58 #[.slice p x.length c] w (e0t E w) := by
 obtain ⟨i0, hi0, hz0, hz1, hz2⟩ := info_parts l09
 by_cases h4 : x.length < 4
 ·have hE1 : Hid (E = ([], 3)) := Hi (by rw [← hE.out]; unfold d02; rw [if_pos (.inl h4)])
  clear hE h
  go_enter Try.func58, Try.ntmps58
  go_wp2_with fail
  go_ret2
  exact e0t.err hE1.out (a03.refl _ _)
 ·obtain ⟨p', c', e', -, hc, hb⟩ := h.out
  injection e' with e1 e2 e3; subst e1; subst e3
  obtain ⟨g, o, rfl, hr⟩ := hb (by omega)
  obtain ⟨n, hn⟩ : ∃ n, a0d (sub x 0 4) = n := ⟨_, rfl⟩
  have hn' := Hi hn
  have ln : n < 4294967296 := by rw [← hn]; exact b0g _ _ _ (by omega)
  have s4 : (sub x 0 4).length ≤ 4 := by rw [a0o (by omega)]; omega
  have k4 := Hi (a0c hr hc 0 4 (by omega))
  rw [Nat.add_zero, Nat.sub_zero] at k4
  have i4 : (4 : Int) ≤ c := by omega
  have i4n : (4 : Int) ≤ x.length := by omega
  have hEq := hE.out
  unfold d02 at hEq
  rw [hn] at hEq
  have kt := Hi (b01 hr hc 4 (by omega))
  obtain ⟨pp0, hpp0⟩ : ∃ pp, (if c = 4 then some (⟨g, o, none⟩ : Addr) else some ⟨g, o + 4, none⟩) = pp := ⟨_, rfl⟩
  rw [hpp0] at kt
  have hpp0' := Hi hpp0
  clear hb h hr hE hn hpp0
  by_cases h20 : 20 < n
  ·have hE1 : Hid (E = ([], 3)) := Hi (by rw [← hEq, if_pos (.inr h20)])
   clear hEq kt hpp0'
   go_enter Try.func58, Try.ntmps58
   go_wp2_with fail
   refine (b0f _ _ n s4 _ k4 hn').mono ?_
   rintro e w' ⟨rfl, rfl⟩
   go_wp2_with fail
   go_ret2
   exact e0t.err hE1.out (a03.refl _ _)
  ·rw [if_neg (by rintro (h | h); exact h4 h; exact h20 h)] at hEq
   have hEq' := Hi hEq
   have hRl : (x.drop 4).length = x.length - 4 := by simp
   have hRl' := Hi hRl
   clear hEq hRl
   go_enter Try.func58, Try.ntmps58
   go_wp2_with fail
   refine (b0f _ _ n s4 _ k4 hn').mono ?_
   rintro e w' ⟨rfl, rfl⟩
   go_upto_region 5 with fail
   rw [hpp0'.out]
   go_wp2_with fail
   refine (b0f _ _ n s4 _ k4 hn').mono ?_
   rintro e w' ⟨rfl, rfl⟩
   go_wp2_with fail
   go_loopw [4, 5, 23] (fun lv rv iv wr => ∃ (k : Nat) (R : List UInt8) (pp : Option Addr) (N cc : Nat), k ≤ n ∧ iv = .int .u32 k ∧ rv = .slice pp N cc ∧ N ≤ 1000000 ∧ Hid (R.length = N) ∧ Hid (a0b w (.slice pp N cc) R) ∧ Hid (∃ ms q d, lv = .slice q k d ∧ ms.length = k ∧ InvL w wr (.slice q k d) ms ∧ a03 (fun _ => False) w wr ∧ comb (ms.map (·.d)) (d0w (n - k) R) = E)) (fun _ _ iv _ => n - (intOf iv).toNat)
   case atStart =>
    refine ⟨0, x.drop 4, pp0, x.length - 4, c - 4, by omega, rfl, rfl, by omega, hRl', kt, Hi ⟨[], none, 0, rfl, rfl, InvL.nil _ _ (Nat.le_refl _), a03.refl _ _, ?_⟩⟩
    rw [← hEq'.out, Nat.sub_zero]
    exact p0a n _
   case round =>
    obtain ⟨k, R, pp, N, cc, hk, rfl, rfl, hN, hRN, hRb, hrest⟩ := hrel
    obtain ⟨ms, q, d, rfl, hml, hinv, hkw, hcomb⟩ := hrest.out
    have hml' := Hi hml; have hinv' := Hi hinv; have hkw' := Hi hkw; have hcomb' := Hi hcomb
    clear hml hinv hkw hcomb hrest
    have hNl : R.length = N := hRN.out
    by_cases hkn : k < n
    ·obtain ⟨m0, hm0⟩ : ∃ m, n - k = m + 1 := ⟨n - k - 1, by omega⟩
     have hm1 : n - (k + 1) = m0 := by omega
     have hm0' := Hi hm0; have hm1' := Hi hm1
     clear hm0 hm1
     by_cases h20 : N < 20
     ·have hE1 : Hid (E = ([], 3)) := Hi (by rw [← hcomb'.out, hm0'.out, e08 m0 R (.inl (by omega))]; exact f0e _ _ (by decide))
      clear hNl
      go_wp2_with fail
      refine (n04 pp N cc h20 _).mono ?_
      rintro e w2 ⟨rfl, k2⟩
      have hk2 := Hi ((hkw'.out.trans k2).alloc (.cells (Ha 0 0 0 0 0 0 0) 69))
      clear k2
      go_wp2_with ((with_reducible refine a09 6 ?_); refine a07 rfl 69 (.tmp 6) (.tmp 28) rfl _ (Ha 0 0 0 0 0 0 0) rfl rfl c04 rfl (b0o _ _ _ _ _ _ _) ?_)
      go_ret2
      exact e0t.err hE1.out hk2.out
     ·obtain ⟨g2, o2, rfl, hr2, hcc⟩ : ∃ g2 o2, pp = some ⟨g2, o2, none⟩ ∧ w.rangeAt g2 o2 (R.map bv) ∧ N ≤ cc := by
       obtain ⟨p', c', e', -, hc', hb'⟩ := hRb.out
       injection e' with e1 e2 e3
       obtain ⟨g2, o2, e4, hr2⟩ := hb' (by omega)
       exact ⟨g2, o2, by rw [e1, e4], hr2, by omega⟩
      have hr2w := Hi (hkw'.out.rangeAt hr2 id)
      cases hh : a0f R with
      | mk age type lid adv seq sum len =>
      have hh' := Hi hh
      have hlenR : (a0f R).len = len := by rw [hh]
      clear hh hNl
      go_wp2_with fail
      refine (o0z g2 o2 N cc R hRN (by omega) (by omega) hcc age type seq len lid adv sum _ hr2w hh').mono ?_
      rintro e w2 ⟨rfl, k2⟩
      have hk2 := Hi (hkw'.out.trans k2)
      have hlt9 : Hid (∀ i, (Value.slice q k d).ownBlock = some i → i < w2.heap.size) := Hi (fun i e => Nat.lt_of_lt_of_le (hinv'.out.own.own_lt i e) k2.size)
      have hk3 := Hi (hk2.out.alloc (.cells (Ha age type lid adv seq sum len) 69))
      have hinv3 := Hi ((hinv'.out.keep k2).keep ((a03.refl (fun _ => False) _).alloc (.cells (Ha age type lid adv seq sum len) 69)))
      have hB3 : Hid (a06 (w2.alloc (.cells (Ha age type lid adv seq sum len) 69)) w2.heap.size 69 (Ha' age type lid adv seq sum len)) := Hi (a06.new w2 _ _)
      clear k2 hk2 hr2w hinv'
      go_upto_region 8 with ((with_reducible refine a09 6 ?_); refine a07 rfl 69 (.tmp 6) (.tmp 28) rfl _ (Ha age type lid adv seq sum len) rfl rfl c04 rfl (b0o _ _ _ _ _ _ _) ?_)
      generalize w2.alloc (.cells (Ha age type lid adv seq sum len) 69) = w3 at hk3 hinv3 hB3 ⊢
      have b6 := hB3.out.cell 6 (.int .i64 len) rfl
      by_cases hl1 : len < 20
      ·have hE1 : Hid (E = ([], 3)) := Hi (by rw [← hcomb'.out, hm0'.out, e08 m0 R (.inr (.inl (by rw [hlenR]; exact hl1)))]; exact f0e _ _ (by decide))
       clear hlenR
       go_wp2_with fail
       go_ret2
       exact e0t.err hE1.out hk3.out
      by_cases hl2 : (N : Int) < len
      ·have hE1 : Hid (E = ([], 3)) := Hi (by rw [← hcomb'.out, hm0'.out, e08 m0 R (.inr (.inr (by rw [hlenR, hRN.out]; exact hl2)))]; exact f0e _ _ (by decide))
       clear hlenR
       go_wp2_with fail
       go_ret2
       exact e0t.err hE1.out hk3.out
      obtain ⟨L, rfl⟩ : ∃ L : Nat, len = L := ⟨len.toNat, by omega⟩
      have hL1 : 20 ≤ L := by omega
      have hL2 : L ≤ N := by omega
      clear hl1 hl2
      have hLt : (a0f R).len.toNat = L := by rw [hlenR]; simp
      have hngood : ¬ (R.length < 20 ∨ (a0f R).len < 20 ∨ (R.length : Int) < (a0f R).len) := by rw [hlenR, hRN.out]; omega
      cases hgl : getL (R.take L) with
      | mk mm e0 =>
      have hgl' := Hi hgl
      have hbt := Hi (h0b (hk3.out.rangeAt hr2 id) (by rw [hRN.out]; exact hcc) L (by rw [hRN.out]; exact hL2))
      have hi1 : (L : Int) ≤ cc := by omega
      have hiL : (0 : Int) ≤ L := by omega
      have htl : (R.take L).length ≤ 1000000 := by rw [List.length_take, hRN.out]; omega
      have hngood' := Hi hngood; have hLt' := Hi hLt
      clear hngood hLt hlenR hgl
      go_wp2_with fail
      refine (lsGet_rf _ (R.take L) mm e0 htl _ hbt hgl').mono ?_
      rintro e w4 ⟨⟨v, rfl, p5, c5, p7, c7, rfl, q1, q2, f5, f7⟩, k4⟩
      have hk4 := Hi (hk3.out.trans k4)
      have hlt24 : Hid (w2.heap.size ≤ w4.heap.size) := Hi (Nat.le_trans (Nat.le_of_lt (lt_of_block hB3.out)) k4.size)
      by_cases he : e0 = 0
      ·subst he
       have hcb : Hid (comb ((ms ++ [(⟨mm, p5, c5, p7, c7⟩ : LsaM)]).map (fun m : LsaM => m.d)) (d0w (n - (k + 1)) (R.drop L)) = E) := Hi (by
        rw [← hcomb'.out, hm0'.out, hm1'.out, l02 m0 R hngood'.out mm (by rw [hLt'.out]; exact hgl'.out), hLt'.out, List.map_append]; rfl)
       have hinv4 := Hi (hinv3.out.keep k4)
       have hB4 := Hi (hB3.out.keep k4 id)
       have hfrm : Hid (f0v w.heap.size ⟨mm, p5, c5, p7, c7⟩) := Hi ⟨fun i n c e => Nat.le_trans hk3.out.size (f5 i n c e), fun i n c e => Nat.le_trans hk3.out.size (f7 i n c e)⟩
       have hsep : Hid (SepM (.slice q k d) ⟨mm, p5, c5, p7, c7⟩) := Hi (SepM.new (w0 := w) (fun k e => hinv3.out.own.own_lt k e) ⟨f5, f7⟩ rfl)
       have hk5 := Hi (hk4.out.alloc (.cells (La mm.age mm.type mm.id mm.adv mm.seq (.slice p5 mm.links.length c5) mm.mask (.slice p7 mm.routers.length c7) mm.cost) 76))
       have hinv5 := Hi (hinv4.out.keep ((a03.refl (fun _ => False) _).alloc (.cells (La mm.age mm.type mm.id mm.adv mm.seq (.slice p5 mm.links.length c5) mm.mask (.slice p7 mm.routers.length c7) mm.cost) 76)))
       have hB5 := Hi (hB4.out.keep ((a03.refl (fun _ => False) _).alloc (.cells (La mm.age mm.type mm.id mm.adv mm.seq (.slice p5 mm.links.length c5) mm.mask (.slice p7 mm.routers.length c7) mm.cost) 76)) id)
       have hC5 : Hid (a06 (w4.alloc (.cells (La mm.age mm.type mm.id mm.adv mm.seq (.slice p5 mm.links.length c5) mm.mask (.slice p7 mm.routers.length c7) mm.cost) 76)) w4.heap.size 76 (d0t ⟨mm, p5, c5, p7, c7⟩)) := Hi (a06.new w4 _ _)
       have hq5 : Hid (f0j (w4.alloc (.cells (La mm.age mm.type mm.id mm.adv mm.seq (.slice p5 mm.links.length c5) mm.mask (.slice p7 mm.routers.length c7) mm.cost) 76)) ⟨mm, p5, c5, p7, c7⟩) := Hi ⟨q1.keep ((a03.refl (fun _ => False) _).alloc _), q2.keep ((a03.refl (fun _ => False) _).alloc _)⟩
       clear k4 q1 q2 f5 f7 hk4 hinv4 hB4 hinv3 hB3 hk3 hbt b6
       go_upto_region 13 with ((with_reducible refine a09 8 ?_); refine a07 rfl 76 (.tmp 8) (.tmp 50) rfl _ (La mm.age mm.type mm.id mm.adv mm.seq (.slice p5 mm.links.length c5) mm.mask (.slice p7 mm.routers.length c7) mm.cost) rfl rfl b05 rfl (a0y _ _ _ _ _ _ _ _ _ (a04 _ _ _) (a04 _ _ _)) ?_)
       generalize w4.alloc (.cells (La mm.age mm.type mm.id mm.adv mm.seq (.slice p5 mm.links.length c5) mm.mask (.slice p7 mm.routers.length c7) mm.cost) 76) = w5 at hk5 hinv5 hB5 hC5 hq5 ⊢
       have hB6 := Hi (hB5.out.keep ((a03.refl (fun _ => False) _).drew) id)
       have hC6 := Hi (hC5.out.keep ((a03.refl (fun _ => False) _).drew) id)
       have hinv6 := Hi (hinv5.out.keep ((a03.refl (fun _ => False) _).drew))
       have hq6 := Hi (hq5.out.keep ((a03.refl (fun _ => False) _).drew))
       have hk6 := Hi (hk5.out.drew)
       have hinv7 := Hi (hinv6.out.keep ((a03.refl (fun _ => False) _).alloc (.cells (La mm.age mm.type mm.id mm.adv mm.seq (.slice p5 mm.links.length c5) mm.mask (.slice p7 mm.routers.length c7) mm.cost) 76)))
       have hq7 := Hi (hq6.out.keep ((a03.refl (fun _ => False) _).alloc (.cells (La mm.age mm.type mm.id mm.adv mm.seq (.slice p5 mm.links.length c5) mm.mask (.slice p7 mm.routers.length c7) mm.cost) 76)))
       have hk7 := Hi (hk6.out.alloc (.cells (La mm.age mm.type mm.id mm.adv mm.seq (.slice p5 mm.links.length c5) mm.mask (.slice p7 mm.routers.length c7) mm.cost) 76))
       have hlt2 : Hid (w2.heap.size < w5.heap.size) := Hi (lt_of_block hB5.out)
       have hlt4 : Hid (w4.heap.size < w5.heap.size) := Hi (lt_of_block hC5.out)
       have hown2 : Hid (∀ i, (Value.slice q k d).ownBlock = some i → i ≠ w2.heap.size) := Hi (fun i e => by have := hlt9.out i e; omega)
       have hown4 : Hid (∀ i, (Value.slice q k d).ownBlock = some i → i ≠ w4.heap.size) := Hi (fun i e => by have := hlt9.out i e; have := hlt24.out; omega)
       obtain ⟨np, hnp⟩ : ∃ np, (if cc = L then some (⟨g2, o2, none⟩ : Addr) else some ⟨g2, o2 + L, none⟩) = np := ⟨_, rfl⟩
       have hbtail := Hi (b01 hr2 (by rw [hRN.out]; exact hcc) L (by rw [hRN.out]; exact hL2))
       rw [hnp, hRN.out] at hbtail
       have hdl : Hid ((R.drop L).length = N - L) := Hi (by rw [List.length_drop, hRN.out])
       have hnp' := Hi hnp
       clear hnp
       refine wp_region_noPanic ?_
       refine wp_region_held_drew (S := (fun W => a06 W w2.heap.size 69 (Ha' age type lid adv seq sum L) ∧ a06 W w4.heap.size 76 (d0t ⟨mm, p5, c5, p7, c7⟩))) (by kernel_rfl) (⟨hB6.out, hC6.out⟩) (fun hHeld => ?_)
       refine tk 0 rfl ?_
       refine tkL 1 rfl (yieldsIf_load_mid (by rfl) 76 (.tmp 8) rfl w4.heap.size 0 rfl (La' mm.age mm.type mm.id mm.adv mm.seq (.slice p5 mm.links.length c5) mm.mask (.slice p7 mm.routers.length c7) mm.cost) _ (fun _ s => s.2.range) Try.underlying76 rfl b05) ?_
       refine tk 4 rfl ?_
       refine tk 5 rfl ?_
       refine tkL 6 rfl (a02 (by rfl) 3 (.tmp 60) rfl w2.heap.size 6 rfl _ (fun _ s => s.1.cell 6 (.int .i64 L) rfl) (fun w s => a0j w _ _ _ s)) ?_
       refine tk 7 rfl ?_
       rw [hnp'.out]
       refine sL 2 rfl fun K hK => ?_
       go_simp
       refine hK.out _ _ (⟨hHeld.1.alloc _, hHeld.2.alloc _⟩) (fun hHeld => ?_)
       clear hK K
       try simp only [Act.put, sA, sZ, sS]
       refine sL 3 rfl fun K hK => ?_
       rw [if_pos (by rfl)]
       (refine c0v (.tmp 55) (.tmp 57) 38 76 rfl i0 (.agg Zl) 96 Try.underlying38 hi0 hz0 hz1 hz2 rfl (by decide) (by decide) c0r w _ k ms hml'.out rfl hinv7.out.own _ rfl ⟨mm, p5, c5, p7, c7⟩ (d0e rfl _ _) (h07 _) (by omega) ?_; intro q8 d8 w8 hO8 hg8)
       refine hK.out _ _ (⟨hHeld.1.keep hg8.k (fun e => hown2.out _ e rfl), hHeld.2.keep hg8.k (fun e => hown4.out _ e rfl)⟩) (fun hHeld => ?_)
       clear hK K
       try simp only [Act.put, sA, sZ, sS]
       refine tk 8 rfl ?_
       refine tk 9 rfl ?_
       refine wpAnyH_done (by kernel_rfl) (NoPanic.normal ?_) _
       have hfin : Hid (InvL w w8 (.slice q8 (k + 1) d8) (ms ++ [⟨mm, p5, c5, p7, c7⟩]) ∧ a03 (fun _ => False) w w8) := Hi ⟨hinv7.out.push _ hO8 hg8 hq7.out hfrm.out hsep.out, hinv7.out.own.keeps hk7.out hg8⟩
       clear hHeld hO8 hg8 hinv7 hq7 hk7 hinv6 hq6 hk6 hinv5 hq5 hk5 hB5 hC5 hB6 hC6
       go_wp2_with fail
       exact ⟨⟨k + 1, R.drop L, np, N - L, cc - L, by omega, by go_num, rfl, by omega, hdl, hbtail, Hi ⟨ms ++ [⟨mm, p5, c5, p7, c7⟩], q8, d8, rfl, by rw [List.length_append, hml'.out]; rfl, hfin.out.1, hfin.out.2, hcb.out⟩⟩, by simp [intOf]; omega⟩
      ·have hb0 : (e0 != 0) = true := by simp [he]
       have hE1 : Hid (E = ([], e0)) := Hi (by rw [← hcomb'.out, hm0'.out, m0s m0 R hngood'.out mm e0 (by rw [hLt'.out]; exact hgl'.out) he]; exact f0e _ _ he)
       have hk5 := Hi (hk4.out.alloc (.cells (La mm.age mm.type mm.id mm.adv mm.seq (.slice p5 mm.links.length c5) mm.mask (.slice p7 mm.routers.length c7) mm.cost) 76))
       clear q1 q2 f5 f7 k4 he hgl' hcomb'
       go_wp2_with ((with_reducible refine a09 8 ?_); refine a07 rfl 76 (.tmp 8) (.tmp 50) rfl _ (La mm.age mm.type mm.id mm.adv mm.seq (.slice p5 mm.links.length c5) mm.mask (.slice p7 mm.routers.length c7) mm.cost) rfl rfl b05 rfl (a0y _ _ _ _ _ _ _ _ _ (a04 _ _ _) (a04 _ _ _)) ?_)
       go_ret2
       exact e0t.err hE1.out hk5.out
    ·obtain rfl : k = n := by omega
     have hE1 : Hid (E = (ms.map (·.d), 0)) := Hi (by
      rw [← hcomb'.out, Nat.sub_self]; unfold comb; simp [d0w])
     clear hcomb' hNl
     go_wp2_with fail
     go_ret2
     refine ⟨⟨q, d, ?_, ?_⟩, hkw'.out⟩
     ·rw [hE1.out, List.length_map, hml'.out]; rfl
     ·rw [hE1.out]
      refine ⟨ms, rfl, ?_, hinv'.out.in_, hinv'.out.fr, ?_⟩
      ·rw [List.length_map]
       have := hinv'.out.own.at c0r
       rw [hml'.out]; exact this
      ·intro i e
       rw [List.length_map, hml'.out] at e
       exact hinv'.out.own.2.1 i e
theorem q0c : (Try.prog.info? 35).map (·.size) = some 7 := by kernel_rfl
theorem g0x (a b c d x f : Int) (s : Value) (hs : s.oneCell' = true) : (#[.int .u32 a, .int .i64 b, .int .i64 c, .int .i64 d, .int .u32 x, .int .u32 f, s] : Array Value).all (·.oneCell') = true := by simp; exact ⟨rfl, rfl, rfl, rfl, rfl, rfl, hs⟩
theorem n0r (sl : Value) (n : Nat) (l : List UInt8) (hn : l.length = n) (hl : n ≤ 1000000) (w : World) (h : Hid (a0b w sl l)) :
 Calls Try.prog 67 #[sl] w fun e w' => ∃ q d, e = .returned (.slice q (n / 4) d) ∧ OwnN w w' (.slice q (n / 4) d) (c0i l (n / 4)) ∧ a03 (fun _ => False) w w' := by
 subst hn
 obtain ⟨p, c, rfl, h1, h2, h3⟩ := h.out
 exact i04 p c l hl w h
set_option maxRecDepth 100000 in
set_option maxHeartbeats 8000000 in
theorem i0b (g o n c : Nat) (l : List UInt8) (hl : 20 ≤ n) (hl2 : n ≤ 1000000) (hc : n ≤ c) (hln : Hid (l.length = n)) (mask dr bdr : Nat) (interval dead priority : Nat) (w : World) (hr : Hid (w.rangeAt g o (l.map bv)))
 (hmask : Hid (a0d (sub l 0 4) = mask)) (hint : Hid (a0d (sub l 4 2) = interval)) (hpri : Hid ((l.getD 7 0).toNat = priority)) (hdead : Hid (a0d (sub l 8 4) = dead)) (hdr : Hid (a0d (sub l 12 4) = dr)) (hbdr : Hid (a0d (sub l 16 4) = bdr)) :
 Calls Try.prog 55 #[.slice (some ⟨g, o, none⟩) n c] w fun e w' => ∃ q d, e = .returned (.agg (Ga mask interval dead priority dr bdr (.slice q ((n - 20) / 4) d))) ∧ OwnN w w' (.slice q ((n - 20) / 4) d) (c0i (l.drop 20) ((n - 20) / 4)) ∧ a03 (fun _ => False) w w' := by
 have hle := hln.out
 have i4 : (4 : Int) ≤ c := by omega
 have i6 : (6 : Int) ≤ c := by omega
 have i12 : (12 : Int) ≤ c := by omega
 have i16 : (16 : Int) ≤ c := by omega
 have i20 : (20 : Int) ≤ c := by omega
 have i20n : (20 : Int) ≤ n := by omega
 have i7 : (7 : Int) < n := by omega
 have j4 : ¬ c = 4 := by omega
 have j8 : ¬ c = 8 := by omega
 have j12 : ¬ c = 12 := by omega
 have j16 : ¬ c = 16 := by omega
 have hk0 : Hid (a03 (fun _ => False) w (w.alloc (.cells (Ga 0 0 0 0 0 0 Sn) 35))) := Hi ((a03.refl _ _).alloc _)
 have hb0 : Hid (a06 (w.alloc (.cells (Ga 0 0 0 0 0 0 Sn) 35)) w.heap.size 35 (Ga' 0 0 0 0 0 0 Sn)) := Hi (a06.new w _ _)
 obtain ⟨x7, hx7⟩ : ∃ x, l[7]'(by omega) = x := ⟨_, rfl⟩
 have l7 := x7.toNat_lt
 have hp7 : x7.toNat = priority := by rw [← hpri.out, List.getD_eq_getElem?_getD, List.getElem?_eq_getElem (by omega), hx7]; rfl
 have hc7 : Hid (∀ W : World, W.rangeAt g o (l.map bv) → W.cell? ⟨g, o + 7, none⟩ = some (.int .u8 priority)) := Hi (fun W s => by have := a0k s 7 (by omega); rw [hx7, hp7] at this; exact this)
 have m4 : mask < 4294967296 := by rw [← hmask.out]; exact b0g _ _ _ (by omega)
 have m6 : interval < 65536 := by have := d0q (x := l) (i := 4) (n := 2) (by omega); rw [hint.out] at this; simpa using this
 have m8 : dead < 4294967296 := by rw [← hdead.out]; exact b0g _ _ _ (by omega)
 have v6 : IntKind.i64.wrap (interval : Int) = (interval : Int) := IntWalk.i64_in _ (by omega)
 have v7 : IntKind.i64.wrap (priority : Int) = (priority : Int) := IntWalk.i64_in _ (by omega)
 have v8 : IntKind.i64.wrap (dead : Int) = (dead : Int) := IntWalk.i64_in _ (by omega)
 have s0 : (sub l 0 4).length ≤ 4 := by rw [a0o (by omega)]; omega
 have s4 : (sub l 4 2).length ≤ 4 := by rw [a0o (by omega)]; omega
 have s8 : (sub l 8 4).length ≤ 4 := by rw [a0o (by omega)]; omega
 have s12 : (sub l 12 4).length ≤ 4 := by rw [a0o (by omega)]; omega
 have s16 : (sub l 16 4).length ≤ 4 := by rw [a0o (by omega)]; omega
 have hdl : (l.drop 20).length = n - 20 := by rw [List.length_drop, hle]
 go_enter Try.func55, Try.ntmps55
 go_upto_region 1 with fail
 generalize w.alloc (.cells (Ga 0 0 0 0 0 0 Sn) 35) = w0 at hk0 hb0 ⊢
 have hkd := Hi (hk0.out.drew)
 have hbd := Hi (hb0.out.keep ((a03.refl (fun _ => False) _).drew) id)
 have hrd := Hi (hkd.out.rangeAt hr.out id)
 have k0 := Hi (a0c hrd.out (by rw [hle]; exact hc) 0 4 (by omega))
 have k4 := Hi (a0c hrd.out (by rw [hle]; exact hc) 4 2 (by omega))
 have k8 := Hi (a0c hrd.out (by rw [hle]; exact hc) 8 4 (by omega))
 have k12 := Hi (a0c hrd.out (by rw [hle]; exact hc) 12 4 (by omega))
 have k16 := Hi (a0c hrd.out (by rw [hle]; exact hc) 16 4 (by omega))
 have k20 := Hi (b01 hrd.out (by rw [hle]; exact hc) 20 (by omega))
 rw [hle] at k20
 obtain ⟨pp, hpp⟩ : ∃ pp, (if c = 20 then some (⟨g, o, none⟩ : Addr) else some ⟨g, o + 20, none⟩) = pp := ⟨_, rfl⟩
 rw [hpp] at k20
 have hpp' := Hi hpp; clear hpp
 rw [Nat.add_zero, Nat.sub_zero] at k0
 clear hx7 hp7 hpri hle
 refine wp_region_noPanic ?_
 refine wp_region_held_drew (S := (fun W => a03 (fun _ => False) w W ∧ W.rangeAt g o (l.map bv))) (by kernel_rfl) (⟨hkd.out, hrd.out⟩) (fun hHeld => ?_)
 refine tk 0 rfl ?_
 refine tk 1 rfl ?_
 refine tk 3 rfl ?_
 refine tk 4 rfl ?_
 refine tk 7 rfl ?_
 refine tk 8 rfl ?_
 refine tkL 9 rfl (a02 (by rfl) 5 (.tmp 11) rfl g (o + 7) rfl _ (fun _ s => hc7.out _ s.2) (fun w s => g0r w _ _ _ s)) ?_
 refine tk 10 rfl ?_
 refine tk 11 rfl ?_
 refine tk 12 rfl ?_
 refine tk 15 rfl ?_
 refine tk 16 rfl ?_
 refine tk 18 rfl ?_
 refine tk 19 rfl ?_
 refine tk 21 rfl ?_
 refine tk 22 rfl ?_
 rw [hpp'.out]
 refine sL 2 rfl fun K hK => ?_
 go_simp
 (refine (b0f _ _ mask s0 _ k0 hmask).mono ?_; rintro e w' ⟨rfl, rfl⟩)
 go_wp2_with fail
 refine hK.out _ _ (hHeld) (fun hHeld => ?_)
 clear hK K
 try simp only [Act.put, sA, sZ, sS]
 refine sL 5 rfl fun K hK => ?_
 go_simp
 (refine (b0f _ _ interval s4 _ k4 hint).mono ?_; rintro e w' ⟨rfl, rfl⟩)
 go_wp2_with fail
 refine hK.out _ _ (hHeld) (fun hHeld => ?_)
 clear hK K
 try simp only [Act.put, sA, sZ, sS]
 refine tk 6 rfl ?_
 refine sL 13 rfl fun K hK => ?_
 go_simp
 (refine (b0f _ _ dead s8 _ k8 hdead).mono ?_; rintro e w' ⟨rfl, rfl⟩)
 go_wp2_with fail
 refine hK.out _ _ (hHeld) (fun hHeld => ?_)
 clear hK K
 try simp only [Act.put, sA, sZ, sS]
 refine tk 14 rfl ?_
 refine sL 17 rfl fun K hK => ?_
 go_simp
 (refine (b0f _ _ dr s12 _ k12 hdr).mono ?_; rintro e w' ⟨rfl, rfl⟩)
 go_wp2_with fail
 refine hK.out _ _ (hHeld) (fun hHeld => ?_)
 clear hK K
 try simp only [Act.put, sA, sZ, sS]
 refine sL 20 rfl fun K hK => ?_
 go_simp
 (refine (b0f _ _ bdr s16 _ k16 hbdr).mono ?_; rintro e w' ⟨rfl, rfl⟩)
 go_wp2_with fail
 refine hK.out _ _ (hHeld) (fun hHeld => ?_)
 clear hK K
 try simp only [Act.put, sA, sZ, sS]
 refine sL 23 rfl fun K hK => ?_
 go_simp
 (refine (n0r _ (n - 20) (l.drop 20) hdl (by omega) _ k20).mono ?_; rintro e w5 ⟨q, d, rfl, hO, kO⟩)
 go_wp2_with fail
 refine hK.out _ _ (⟨hHeld.1.trans kO, kO.rangeAt hHeld.2 id⟩) (fun hHeld => ?_)
 clear hK K
 try simp only [Act.put, sA, sZ, sS]
 have hO' := Hi hO; have kO' := Hi kO
 have hb5 := Hi (hbd.out.keep kO id)
 have hgB : Hid (g ≠ w.heap.size) := Hi (fun e => by
  have := World.block_lt_of_cell? _ _ (hr.out 0 (bv (l[0]'(by rw [hln.out]; omega))) (by rw [List.getElem?_map, List.getElem?_eq_getElem (by rw [hln.out]; omega)]; rfl)); simp only at this; omega)
 clear hO kO i4 i6 i12 i16 i20 i20n i7 j4 j8 j12 j16 v6 v7 v8 k0 k4 k8 k12 k16 k20
 refine tk 24 rfl ?_
 refine sL 25 rfl fun K hK => ?_
 rw [if_pos (by rfl)]
 (refine wp_store_mid 35 (.tmp 2) (.tmp 27) rfl w.heap.size 0 (Ga mask interval dead priority dr bdr (.slice q ((n - 20) / 4) d)) rfl rfl (hb5.out.there 0 7 (Nat.le_refl 7)) q0c (g0x _ _ _ _ _ _ _ (a04 _ _ _)) ?_; have hs9 : a03 (fun i => i = w.heap.size) w5 (w5.setCells w.heap.size 0 (Ga' mask interval dead priority dr bdr (.slice q ((n - 20) / 4) d))) := a03.setCells (F := fun i => i = w.heap.size) (.inl rfl) _ _ _ (a03.refl _ _); have hr9 : (w5.setCells w.heap.size 0 (Ga' mask interval dead priority dr bdr (.slice q ((n - 20) / 4) d))).rangeAt w.heap.size 0 (Ga' mask interval dead priority dr bdr (.slice q ((n - 20) / 4) d)) := World.rangeAt_setCells_same _ _ _ _ (hb5.out.there 0 7 (Nat.le_refl 7)); simp only [] at hs9 hr9 ⊢; generalize w5.setCells w.heap.size 0 (Ga' mask interval dead priority dr bdr (.slice q ((n - 20) / 4) d)) = w9 at hs9 hr9 ⊢)
 refine hK.out _ _ (⟨hHeld.1.trans' hs9 (fun i e => .inr (by omega)), hs9.rangeAt hHeld.2 hgB.out⟩) (fun hHeld => ?_)
 clear hK K
 try simp only [Act.put, sA, sZ, sS]
 refine wpAnyH_done (by kernel_rfl) (NoPanic.normal ?_) _
 have hw9 := Hi hHeld.1; have hr9' := Hi hr9; have hs9' := Hi hs9
 clear hHeld hr9 hs9
 go_wp2_with fail
 have e0 := a01 hr9'.out 0 _ rfl
 have e1 := a01 hr9'.out 1 _ rfl
 have e2 := a01 hr9'.out 2 _ rfl
 have e3 := a01 hr9'.out 3 _ rfl
 have e4 := a01 hr9'.out 4 _ rfl
 have e5 := a01 hr9'.out 5 _ rfl
 have e6 := a01 hr9'.out 6 _ rfl
 refine bodyPost_ret (v := .agg (Ga mask interval dead priority dr bdr (.slice q ((n - 20) / 4) d))) (by simp [results, Try.results55, go_sem, e0, e1, e2, e3, e4, e5, e6]) rfl ⟨q, d, rfl, ?_, hw9.out⟩
 have hlt := lt_of_block hbd.out
 refine ⟨(hO'.out.keep hs9'.out (fun i e f => by have h1 := hO'.out.2.1 i e; have h2 : w0.drew.heap.size ≤ i := h1; omega)).1, fun k e => ?_, hw9.out.size⟩
 have h1 := hO'.out.2.1 k e
 omega
end Go.Proofs.Ytmggbljkehclpaa
