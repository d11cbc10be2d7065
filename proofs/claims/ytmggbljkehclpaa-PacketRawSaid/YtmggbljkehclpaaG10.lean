/- LJ LK LL LM -/
import Derived.Test.YtmggbljkehclpaaG09
import Derived.StillTailTactics
set_option linter.unusedVariables false
set_option linter.unusedSimpArgs false
namespace Go.Proofs.Ytmggbljkehclpaa
open Go.RowKit
def sub (x : List UInt8) (i n : Nat) : List UInt8 := (x.drop i).take n
theorem a0k {x : List UInt8} {i n : Nat} (h : i + n ≤ x.length) : (sub x i n).length = n := by unfold sub; simp; omega
def i0m (n : Nat) : Int := if n < 2147483648 then (n : Int) else (n : Int) - 4294967296
def a0h (x : List UInt8) : c0i := ⟨(a0d (sub x 0 2) : Nat), ((x.getD 3 0).toNat : Int), a0d (sub x 4 4), a0d (sub x 8 4), i0m (a0d (sub x 12 4)), a0d (sub x 16 2), (a0d (sub x 18 2) : Nat)⟩
theorem a0c {w : World} {g o c : Nat} {l : List UInt8} (h : w.rangeAt g o (l.map bv)) (hc : l.length ≤ c) (i n : Nat) (hi : i + n ≤ l.length) :
 a0a w (.slice (some ⟨g, o + i, none⟩) n (c - i)) (sub l i n) := by
 have := c0e h i n
 exact a0a.of (a0k hi) (by omega) this
theorem b0w : (Try.prog.info? 69).map (·.size) = some 7 := by kernel_rfl
theorem d09 {x : List UInt8} {i n : Nat} (h : i + n ≤ x.length) : a0d (sub x i n) < 256 ^ n := by
 have := f0i (sub x i n)
 rwa [a0k h] at this
theorem k04 (n : Nat) (h : n < 4294967296) : IntKind.i32.wrap (n : Int) = i0m n := by
 unfold IntKind.wrap i0m
 have h1 : IntKind.i32.signed = true := rfl
 have h2 : (2 : Int) ^ IntKind.i32.bits = 4294967296 := rfl
 have h3 : (2 : Int) ^ (IntKind.i32.bits - 1) = 2147483648 := rfl
 simp only [h1, h2, h3, Bool.true_and, ge_iff_le, decide_eq_true_eq]
 split <;> split <;> omega
theorem n0s (n : Nat) (h : n < 4294967296) : -2147483648 ≤ i0m n := by unfold i0m; split <;> omega
theorem n0t (n : Nat) (h : n < 4294967296) : i0m n ≤ 2147483647 := by unfold i0m; split <;> omega
theorem d08 (sl : Value) (l : List UInt8) (n : Nat) (hl : l.length ≤ 4) (w : World) (h : Hid (a0a w sl l)) (hn : Hid (a0d l = n)) :
 Calls Try.prog 29 #[sl] w fun e w' => e = .returned (.int .u32 n) ∧ w' = w :=
 (b0b sl l n hl w h hn).mono fun e w' ⟨he, hw⟩ => ⟨he, hw.symm⟩
theorem b0i (a b c d x f g : Int) : ((Ha a b c d x f g) : Array Value).all (·.oneCell') = true := by simp; exact ⟨rfl, rfl, rfl, rfl, rfl, rfl, rfl⟩
set_option maxRecDepth 100000 in
set_option maxHeartbeats 4000000 in
theorem o0y (g o c : Nat) (l : List UInt8) (hl : 20 ≤ l.length) (hl2 : l.length ≤ 9223372036854775807) (hc : l.length ≤ c) (w : World) (hr : Hid (w.rangeAt g o (l.map bv))) :
 Calls Try.prog 68 #[.slice (some ⟨g, o, none⟩) l.length c] w fun e w' => e = .returned (.tuple #[headV (a0h l), .int .i64 0]) ∧ a02 (fun _ => False) w w' := by
 obtain ⟨H, hQ⟩ : ∃ H, a0h l = H := ⟨_, rfl⟩
 rw [hQ]
 have i2 : (2 : Int) ≤ c := by omega
 have i8 : (8 : Int) ≤ c := by omega
 have i12 : (12 : Int) ≤ c := by omega
 have i16 : (16 : Int) ≤ c := by omega
 have i18 : (18 : Int) ≤ c := by omega
 have i20 : (20 : Int) ≤ c := by omega
 have j4 : ¬ c = 4 := by omega
 have j8 : ¬ c = 8 := by omega
 have j12 : ¬ c = 12 := by omega
 have j16 : ¬ c = 16 := by omega
 have j18 : ¬ c = 18 := by omega
 have i3 : (3 : Int) < l.length := by omega
 have hk0 : Hid (a02 (fun _ => False) w (w.alloc (.cells (Ha 0 0 0 0 0 0 0) 69))) := Hi ((a02.refl _ _).alloc _)
 have hb0 : Hid (World.blockAt (w.alloc (.cells (Ha 0 0 0 0 0 0 0) 69)) w.heap.size 69 7) := Hi ⟨_, heap_alloc_last w _, rfl⟩
 go_enter Try.func68, Try.ntmps68
 go_upto_region 3 with fail
 generalize w.alloc (.cells (Ha 0 0 0 0 0 0 0) 69) = w0 at hk0 hb0 ⊢
 have hr0 := Hi (hk0.out.rangeAt hr.out id)
 have c3 := a0i hr0.out 3 (by omega)
 obtain ⟨n0, hn0⟩ : ∃ n, a0d (sub l 0 2) = n := ⟨_, rfl⟩
 obtain ⟨n4, hn4⟩ : ∃ n, a0d (sub l 4 4) = n := ⟨_, rfl⟩
 obtain ⟨n8, hn8⟩ : ∃ n, a0d (sub l 8 4) = n := ⟨_, rfl⟩
 obtain ⟨n12, hn12⟩ : ∃ n, a0d (sub l 12 4) = n := ⟨_, rfl⟩
 obtain ⟨n16, hn16⟩ : ∃ n, a0d (sub l 16 2) = n := ⟨_, rfl⟩
 obtain ⟨n18, hn18⟩ : ∃ n, a0d (sub l 18 2) = n := ⟨_, rfl⟩
 have b0 := d09 (x := l) (i := 0) (n := 2) (by omega)
 have b4 := d09 (x := l) (i := 4) (n := 4) (by omega)
 have b8 := d09 (x := l) (i := 8) (n := 4) (by omega)
 have b12 := d09 (x := l) (i := 12) (n := 4) (by omega)
 have b16 := d09 (x := l) (i := 16) (n := 2) (by omega)
 have b18 := d09 (x := l) (i := 18) (n := 2) (by omega)
 rw [hn0] at b0; rw [hn4] at b4; rw [hn8] at b8; rw [hn12] at b12; rw [hn16] at b16; rw [hn18] at b18
 simp only [show (256 : Nat) ^ 2 = 65536 from rfl, show (256 : Nat) ^ 4 = 4294967296 from rfl] at b0 b4 b8 b12 b16 b18
 have b3 := (l[3]'(by omega)).toNat_lt
 have hs32 : IntKind.i32.wrap (n12 : Int) = i0m n12 := k04 n12 b12
 have hs1 := n0s n12 b12
 have hs2 := n0t n12 b12
 obtain ⟨q12, hq12⟩ : ∃ q, i0m n12 = q := ⟨_, rfl⟩
 rw [hq12] at hs32 hs1 hs2
 have hfin : a0h l = ⟨n0, ((l[3]'(by omega)).toNat : Int), n4, n8, q12, n16, n18⟩ := by
  unfold a0h
  rw [hn0, hn4, hn8, hn12, hn16, hn18, hq12, List.getD_eq_getElem?_getD, List.getElem?_eq_getElem (by omega)]; rfl
 rw [hfin] at hQ
 have v0 : IntKind.i64.wrap (n0 : Int) = (n0 : Int) := IntWalk.i64_in _ (by omega)
 have v3 : IntKind.i64.wrap ((l[3]'(by omega)).toNat : Int) = ((l[3]'(by omega)).toNat : Int) := IntWalk.i64_in _ (by omega)
 have v12 : IntKind.i64.wrap q12 = q12 := IntWalk.i64_in _ (by omega)
 have v16 : IntKind.u16.wrap (n16 : Int) = (n16 : Int) := by rw [g0e]; omega
 have v18 : IntKind.i64.wrap (n18 : Int) = (n18 : Int) := IntWalk.i64_in _ (by omega)
 have hrd := Hi (((a02.refl (fun _ => False) w0).drew).rangeAt hr0.out id)
 have k0 := Hi (a0c hrd.out hc 0 2 (by omega))
 have k4 := Hi (a0c hrd.out hc 4 4 (by omega))
 have k8 := Hi (a0c hrd.out hc 8 4 (by omega))
 have k12 := Hi (a0c hrd.out hc 12 4 (by omega))
 have k16 := Hi (a0c hrd.out hc 16 2 (by omega))
 have k18 := Hi (a0c hrd.out hc 18 2 (by omega))
 rw [Nat.add_zero, Nat.sub_zero] at k0
 have s0 : (sub l 0 2).length ≤ 4 := by rw [a0k (by omega)]; omega
 have s4 : (sub l 4 4).length ≤ 4 := by rw [a0k (by omega)]; omega
 have s8 : (sub l 8 4).length ≤ 4 := by rw [a0k (by omega)]; omega
 have s12 : (sub l 12 4).length ≤ 4 := by rw [a0k (by omega)]; omega
 have s16 : (sub l 16 2).length ≤ 4 := by rw [a0k (by omega)]; omega
 have s18 : (sub l 18 2).length ≤ 4 := by rw [a0k (by omega)]; omega
 have hn0' := Hi hn0; have hn4' := Hi hn4; have hn8' := Hi hn8; have hn12' := Hi hn12; have hn16' := Hi hn16; have hn18' := Hi hn18
 clear hn0 hn4 hn8 hn12 hn16 hn18 hfin hq12
 refine wp_region_still_tail 29 (by kernel_rfl) (by kernel_rfl) ?_
 simp only [List.take_succ_cons, List.take_zero, List.drop_succ_cons, List.drop_zero]
 repeat still_step
 still_call (d08 _ _ n0 s0 _ k0 hn0')
 repeat still_step
 still_call (d08 _ _ n4 s4 _ k4 hn4')
 repeat still_step
 still_call (d08 _ _ n8 s8 _ k8 hn8')
 repeat still_step
 still_call (d08 _ _ n12 s12 _ k12 hn12')
 repeat still_step
 still_call (d08 _ _ n16 s16 _ k16 hn16')
 repeat still_step
 still_call (d08 _ _ n18 s18 _ k18 hn18')
 repeat still_step
 refine wpStill_nil ?_
 change wpList _ _ _ _ _ w0.drew
 clear v0 v3 v12 v16 v18 j4 j8 j12 j16 j18 hs32 i2 i8 i12 i16 i18 i20 i3 k0 k4 k8 k12 k16 k18 c3
 have hth := Hi (hb0.out.keep ((a02.refl (fun _ => False) _).drew) id)
 refine (wpList_store_mid rfl 69 (.tmp 2) (.tmp 36) rfl w.heap.size 0 (Ha n0 (((l[3]'(by omega)).toNat : Nat)) n4 n8 q12 n16 n18) rfl rfl (hth.out.there 0 7 (by omega)) b0w (b0i _ _ _ _ _ _ _) ?_)
 have hk9 : Hid (a02 (fun _ => False) w (w0.drew.setCells w.heap.size 0 (Ha' n0 (((l[3]'(by omega)).toNat : Nat)) n4 n8 q12 n16 n18))) := Hi (a02.setCells (.inr (Nat.le_refl _)) _ _ _ hk0.out.drew)
 have hr9 : Hid ((w0.drew.setCells w.heap.size 0 (Ha' n0 (((l[3]'(by omega)).toNat : Nat)) n4 n8 q12 n16 n18)).rangeAt w.heap.size 0 (Ha' n0 (((l[3]'(by omega)).toNat : Nat)) n4 n8 q12 n16 n18)) := Hi (World.rangeAt_setCells_same _ _ _ _ (hth.out.there 0 7 (by omega)))
 change wpList _ _ _ _ _ (w0.drew.setCells w.heap.size 0 (Ha' n0 (((l[3]'(by omega)).toNat : Nat)) n4 n8 q12 n16 n18))
 generalize w0.drew.setCells w.heap.size 0 (Ha' n0 (((l[3]'(by omega)).toNat : Nat)) n4 n8 q12 n16 n18) = w9 at hk9 hr9 ⊢
 go_wp2_with fail
 have e0 := a01 hr9.out 0 _ rfl
 have e1 := a01 hr9.out 1 _ rfl
 have e2 := a01 hr9.out 2 _ rfl
 have e3 := a01 hr9.out 3 _ rfl
 have e4 := a01 hr9.out 4 _ rfl
 have e5 := a01 hr9.out 5 _ rfl
 have e6 := a01 hr9.out 6 _ rfl
 refine bodyPost_ret (v := .tuple #[.agg (Ha n0 (((l[3]'(by omega)).toNat : Nat)) n4 n8 q12 n16 n18), .int .i64 0]) (by simp [results, Try.results68, go_sem, e0, e1, e2, e3, e4, e5, e6]) rfl ⟨?_, hk9.out⟩
 rw [← hQ]; rfl
set_option maxRecDepth 100000 in
theorem m02 (p : Option Addr) (n c : Nat) (hn : n < 20) (w : World) :
 Calls Try.prog 68 #[.slice p n c] w fun e w' => e = .returned (.tuple #[.agg (Ha 0 0 0 0 0 0 0), .int .i64 4]) ∧ a02 (fun _ => False) w w' := by
 go_enter Try.func68, Try.ntmps68
 go_wp2_with fail
 refine bodyPost_ret (v := .tuple #[.agg (Ha 0 0 0 0 0 0 0), .int .i64 4]) (by simp [results, Try.results68, go_sem]) rfl ⟨rfl, (a02.refl _ _).alloc _⟩
theorem q04 (m : Nat) (c : UInt8) : bits .or .u32 (((m * 256 % 4294967296 : Nat) : Int)) (c.toNat : Int) = (((m * 256 + c.toNat) % 4294967296 : Nat) : Int) := by
 have hc := c.toNat_lt
 have h := u32_or_nat (m * 256 % 4294967296) c.toNat (Nat.mod_lt _ (by omega)) (by omega)
 rw [show m * 256 % 4294967296 = (m % 16777216) * 256 by omega, q05] at h
 rw [show m * 256 % 4294967296 = (m % 16777216) * 256 by omega, h]
 omega
set_option maxHeartbeats 1000000 in
theorem o0e (sl : Value) (l : List UInt8) (hl : l.length ≤ 9223372036854775807) (w : World) (h : Hid (a0a w sl l)) :
 Calls Try.prog 29 #[sl] w fun e w' => e = .returned (.int .u32 (a0d l % 4294967296 : Nat)) ∧ w = w' := by
 obtain ⟨p, c, rfl, -, -, hb⟩ := h.out
 have hb' := Hi hb; clear hb h
 go_enter Try.func29, Try.ntmps29
 go_wp2
 go_loop [3, 8] (fun nv iv => ∃ k : Nat, k ≤ l.length ∧ nv = .int .u32 (a0d (l.take k) % 4294967296 : Nat) ∧ iv = .int .i64 k) (fun _ iv => l.length - (intOf iv).toNat)
 case atStart => exact ⟨0, by omega, by simp [a0d], rfl⟩
 case round =>
  obtain ⟨k, hk, rfl, rfl⟩ := hrel
  by_cases hlk : k < l.length
  ·obtain ⟨g, o, rfl, hr⟩ := hb'.out (by omega)
   have hc := a0i hr k hlk
   have hs : a0d (l.take (k + 1)) % 4294967296 = (a0d (l.take k) % 4294967296 * 256 + (l[k]).toNat) % 4294967296 := by
    rw [List.take_succ_eq_append_getElem (by omega), i0a]; omega
   have hs' := Hi hs; clear hs
   have hx := (l[k]).toNat_lt
   obtain ⟨m, hmm⟩ : ∃ m, m = a0d (l.take k) % 4294967296 := ⟨_, rfl⟩
   have hm : m < 4294967296 := by rw [hmm]; exact Nat.mod_lt _ (by omega)
   rw [← hmm] at hs' ⊢
   have ho := q04 m l[k]
   rw [show ((m * 256 % 4294967296 : Nat) : Int) = (m : Int) * 256 % 4294967296 by omega] at ho
   clear hmm hr
   go_wp2
   exact ⟨⟨k + 1, by omega, by rw [hs'.out]; go_num, by go_num⟩, by simp [intOf]; omega⟩
  ·obtain rfl : k = l.length := by omega
   rw [List.take_length]
   go_wp2
   go_ret
   exact ⟨rfl, rfl⟩
def OwnN (w0 w : World) (v : Value) (ns : List Nat) : Prop :=
 w.ownsRow 0 22 1 v ns.length (ns.map nv) ∧ (∀ k, v.ownBlock = some k → w0.heap.size ≤ k) ∧ w0.heap.size ≤ w.heap.size
theorem OwnN.nil (w0 w : World) (h : w0.heap.size ≤ w.heap.size) : OwnN w0 w (.slice none 0 0) [] := ⟨⟨rfl, .inl ⟨rfl, rfl⟩⟩, by simp [Value.ownBlock], h⟩
theorem OwnN.slice {w0 w : World} {v : Value} {xs : List Nat} (h : OwnN w0 w v xs) : ∃ p c, v = .slice p xs.length c := b0e h.1
theorem OwnN.keep {F : Nat → Prop} {w0 w w' : World} {v : Value} {xs : List Nat} (h : OwnN w0 w v xs) (k : a02 F w w') (hF : ∀ i, v.ownBlock = some i → ¬ F i) : OwnN w0 w' v xs :=
 ⟨k.ownsRow h.1 hF, h.2.1, Nat.le_trans h.2.2 k.size⟩
theorem OwnN.at {w0 w : World} {v : Value} {x : List Nat} (h : OwnN w0 w v x) : a0u w v x := by
 obtain ⟨p, c, rfl⟩ := h.slice
 rcases h.1.2 with ⟨e, h2⟩ | ⟨g, cap, cur, he, _, _, hle, _⟩
 ·injection e with e1 e2 e3; subst e1; subst e3
  exact ⟨none, 0, rfl, fun _ => rfl, by omega, fun h0 => by omega⟩
 ·injection he with e1 e2 e3
  subst e1; subst e3
  refine ⟨_, _, rfl, fun h => (by cases h), hle, fun h0 => ⟨g, 0, rfl, fun j u hu => ?_⟩⟩
  have := h.1.cells (g := g) rfl j u hu
  rw [Addr.add_mid] at this
  exact this
theorem OwnN.push {w0 w wb w1 : World} {v : Value} {xs : List Nat} (h : OwnN w0 wb v xs) (x : Nat) {p : Option Addr} {c : Nat}
 (ho : wb.grownBy w1 v.ownBlock) (h2 : w1.ownsRow 0 22 1 (.slice p (xs.length + 1) c) (xs.length + 1) (xs.map nv ++ [nv x]))
 (hs : ∀ k, (Value.slice p (xs.length + 1) c).ownBlock = some k → v.ownBlock = some k ∨ wb.heap.size ≤ k) (hk : a02 (fun _ => False) w0 wb) (_ : w = w) :
 OwnN w0 w1 (.slice p (xs.length + 1) c) (xs ++ [x]) ∧ a02 (fun _ => False) w0 w1 := by
 refine ⟨⟨by simpa using h2, fun k e => ?_, Nat.le_trans h.2.2 ho.size⟩, hk.grown ho (fun k e => .inr (h.2.1 k e))⟩
 rcases hs k e with e | e
 ·exact h.2.1 k e
 ·exact Nat.le_trans h.2.2 e
def c09 (l : List UInt8) (j : Nat) : List Nat := (List.range j).map fun i => a0d (sub l (4 * i) 4)
theorem c06 (l : List UInt8) (j : Nat) : (c09 l j).length = j := by unfold c09; simp
theorem i02 (l : List UInt8) (j : Nat) : c09 l (j + 1) = c09 l j ++ [a0d (sub l (4 * j) 4)] := by unfold c09; simp [List.range_succ]
set_option maxRecDepth 100000 in
set_option maxHeartbeats 1000000 in
theorem h08 (p : Option Addr) (c : Nat) (l : List UInt8) (hl : l.length ≤ 1000000) (w : World) (h : Hid (a0a w (.slice p l.length c) l)) :
 Calls Try.prog 67 #[.slice p l.length c] w fun e w' => ∃ q d, e = .returned (.slice q (l.length / 4) d) ∧ OwnN w w' (.slice q (l.length / 4) d) (c09 l (l.length / 4)) ∧ a02 (fun _ => False) w w' := by
 obtain ⟨i0, hi0, hz0, hz1, hz2⟩ := info_parts f02
 obtain ⟨p', c', e', -, hc, hb⟩ := h.out
 injection e' with e1 e2 e3; subst e1; subst e3
 have hb' := Hi hb; clear hb h
 go_enter Try.func67, Try.ntmps67
 go_wp2
 go_loopw [0, 3] (fun bw nw wr => ∃ (j : Nat) (pp : Option Addr), 4 * j ≤ l.length ∧ bw = .slice pp (l.length - 4 * j) (c - 4 * j) ∧ Hid (4 * j < l.length → ∃ g o, pp = some ⟨g, o + 4 * j, none⟩ ∧ w.rangeAt g o (l.map bv)) ∧ Hid (OwnN w wr nw (c09 l j) ∧ a02 (fun _ => False) w wr)) (fun bw _ _ => match bw with | .slice _ n _ => n | _ => 0)
 case atStart => exact ⟨0, p, by omega, rfl, Hi (fun h => by obtain ⟨g, o, rfl, hr⟩ := hb'.out (by omega); exact ⟨g, o, rfl, hr⟩), Hi ⟨OwnN.nil _ _ (Nat.le_refl _), a02.refl _ _⟩⟩
 case round =>
  obtain ⟨j, pp, hj, rfl, hpp, hO⟩ := hrel
  obtain ⟨q, d, hq⟩ := hO.out.1.slice
  rw [c06] at hq
  subst hq
  by_cases h4 : 4 * j + 4 ≤ l.length
  ·obtain ⟨g, o, rfl, hr⟩ := hpp.out (by omega)
   have hrw : Hid (wr.rangeAt g o (l.map bv)) := Hi (hO.out.2.rangeAt hr id)
   obtain ⟨n, hn⟩ : ∃ n, a0d (sub l (4 * j) 4) = n := ⟨_, rfl⟩
   have hs4 : (sub l (4 * j) 4).length ≤ 4 := by rw [a0k (by omega)]; omega
   have hbs := Hi (a0c hrw.out hc (4 * j) 4 (by omega))
   have hr0 := Hi hr
   have hrs := i02 l j
   rw [hn] at hrs
   have hrs' := Hi hrs; have hn' := Hi hn
   have hOl := Hi (hO.out.1.keep ((a02.refl (fun _ => False) _).alloc (.cells #[.int .u32 n] 22)) (fun _ _ f => f))
   have hKl := Hi (hO.out.2.alloc (.cells #[.int .u32 n] 22))
   have hrl := Hi (c06 l j)
   clear hr hrs hn hO hpp
   go_wp2_with fail
   refine (b0b _ (sub l (4 * j) 4) n hs4 _ hbs hn').mono ?_
   rintro e w' ⟨rfl, rfl⟩
   go_wp2_with ((with_reducible refine a09 14 ?_); refine e0z rfl (.tmp 9) (.tmp 13) 23 rfl 22 i0 (.int .u32 0) 1 4 Try.underlying23 hi0 hz0 hz1 hz2 rfl (by decide) _ j ((c09 l j).map nv) rfl (by have := hOl.out.1; rw [hrl.out] at this; exact this) ⟨wr.heap.size, 0, none⟩ 1 1 [.int .u32 n] rfl rfl (q0l rfl _ _) (by simp [Value.oneCell']) (by unfold maxLen; omega) (by omega) ?_; intro q2 d2 w1 ho1 hg1 hs1; have ho := Hi ho1; clear ho1; have hg := Hi hg1; clear hg1)
   have hR := OwnN.push (w := w) hOl.out n (p := q2) (c := d2) hg.out (by rw [hrl.out]; exact ho.out) (by rw [hrl.out]; exact hs1.out) hKl.out rfl
   rw [hrl.out] at hR
   refine ⟨⟨j + 1, if c - 4 * j = 4 then some ⟨g, o + 4 * j, none⟩ else some ⟨g, o + 4 * j + 4, none⟩, by omega, ?_, Hi (fun h => ⟨g, o, ?_, hr0.out⟩), Hi ⟨by rw [hrs'.out]; exact hR.1, hR.2⟩⟩, ?_⟩
   ·rw [show l.length - 4 * (j + 1) = l.length - 4 * j - 4 by omega, show c - 4 * (j + 1) = c - 4 * j - 4 by omega]
   ·rw [if_neg (by omega)]; rfl
   ·show l.length - 4 * j - 4 < l.length - 4 * j; omega
  ·have hj2 : l.length / 4 = j := by omega
   have hO' := Hi hO.out
   clear hO hpp
   go_wp2_with fail
   go_ret
   rw [hj2]
   exact ⟨q, d, rfl, hO'.out.1, hO'.out.2⟩
theorem n0c : (Try.prog.info? 108).map (fun i => (i.zero, i.size, i.bytes)) = some (some (.agg #[.int .u32 0, .int .u32 0, .int .i64 0, .int .i64 0]), 4, 24) := by kernel_rfl
def c0n (ls : List b09) : List Value := ls.flatMap b0l
theorem g0t (ls : List b09) (l : b09) : c0n (ls ++ [l]) = c0n ls ++ b0l l := by unfold c0n; simp
theorem h0m (ls : List b09) : ∀ (i : Nat) (l : b09), ls[i]? = some l → ∀ j, j < 4 → (c0n ls)[i * 4 + j]? = (b0l l)[j]? := by
 induction ls with
 | nil => intro i l h; simp at h
 | cons n ns ih =>
  intro i l h j hj
  have e : c0n (n :: ns) = b0l n ++ c0n ns := by unfold c0n; rw [List.flatMap_cons]
  have h4 : (b0l n).length = 4 := rfl
  rw [e, List.getElem?_append, h4]
  cases i with
  | zero => simp at h; subst h; rw [if_pos (by omega)]; simp
  | succ i => rw [if_neg (by omega)]; rw [← ih i l (by simpa using h) j hj]; congr 1; omega
def OwnL (w0 w : World) (v : Value) (ls : List b09) : Prop :=
 w.ownsRow 0 108 4 v ls.length (c0n ls) ∧ (∀ k, v.ownBlock = some k → w0.heap.size ≤ k) ∧ w0.heap.size ≤ w.heap.size
theorem OwnL.nil (w0 w : World) (h : w0.heap.size ≤ w.heap.size) : OwnL w0 w (.slice none 0 0) [] := ⟨⟨rfl, .inl ⟨rfl, rfl⟩⟩, by simp [Value.ownBlock], h⟩
theorem OwnL.slice {w0 w : World} {v : Value} {xs : List b09} (h : OwnL w0 w v xs) : ∃ p c, v = .slice p xs.length c := b0e h.1
theorem OwnL.keep {F : Nat → Prop} {w0 w w' : World} {v : Value} {xs : List b09} (h : OwnL w0 w v xs) (k : a02 F w w') (hF : ∀ i, v.ownBlock = some i → ¬ F i) : OwnL w0 w' v xs :=
 ⟨k.ownsRow h.1 hF, h.2.1, Nat.le_trans h.2.2 k.size⟩
theorem OwnL.at {w0 w : World} {v : Value} {x : List b09} (h : OwnL w0 w v x) : b02 w v x := by
 obtain ⟨p, c, rfl⟩ := h.slice
 rcases h.1.2 with ⟨e, h2⟩ | ⟨g, cap, cur, he, _, _, hle, _⟩
 ·injection e with e1 e2 e3; subst e1; subst e3
  exact ⟨none, 0, rfl, fun _ => rfl, by omega, fun h0 => by omega⟩
 ·injection he with e1 e2 e3
  subst e1; subst e3
  refine ⟨_, _, rfl, fun h => (by cases h), hle, fun h0 => ⟨g, 0, rfl, fun i l hl j u hu => ?_⟩⟩
  have hj : j < 4 := by have := (List.getElem?_eq_some_iff.1 hu).1; simpa [b0l] using this
  have := h.1.cells (g := g) rfl (i * 4 + j) u (by rw [h0m x i l hl j hj]; exact hu)
  rw [Addr.add_mid] at this
  rw [Nat.zero_add]; rw [Nat.zero_add] at this; exact this
theorem i0i (l : b09) : ∀ u ∈ b0l l, u.oneCell' = true := by
 intro u hu; simp [b0l] at hu; rcases hu with rfl | rfl | rfl | rfl <;> rfl
theorem m0p {P : Program} {w : World} {o : Oper} {a : Act} {K : Act → World → Prop} {Q : Exit → Act → World → Prop} (s x : Operand) (t : TypeId)
 (ho : o.op = .call { callee := .builtin .append, args := #[s, x], argTypes := #[t, t] })
 (i : TypeInfo) (ht : P.underlying t = some (.slice 108)) (hi : P.info? 108 = some i) (hz : i.zero = some (.agg #[.int .u32 0, .int .u32 0, .int .i64 0, .int .i64 0])) (hsize : i.size = 4) (hby : i.bytes = 24)
 (w0 : World) (v : Value) (n : Nat) (xs : List b09) (hn : xs.length = n) (hs : a.eval s = v) (hown : OwnL w0 w v xs) (ad : Addr) (hx : a.eval x = .slice (some ad) 1 1) (l : b09) (hl : ∀ j u, (b0l l)[j]? = some u → w.cell? (ad.add j) = some u) (hsz : n ≤ 1000000000)
 (h : ∀ p c w', OwnL w0 w' (.slice p (n + 1) c) (xs ++ [l]) → d06 w v p (n + 1) c w' → K (a.put o.dst (.slice p (n + 1) c)) w') : Oper.wp P o a w K Q := by
 subst hn
 obtain ⟨v', w', hr, h2, h3, h4⟩ := c04 (P := P) w t o.type 108 i (.agg #[.int .u32 0, .int .u32 0, .int .i64 0, .int .i64 0]) 4 24 ht hi hz hsize hby rfl (by decide) v xs.length (c0n xs) hown.1 ad 1 1 (b0l l) rfl hl (i0i l) (by unfold maxLen; omega) (by omega)
 obtain ⟨p, c, rfl⟩ := b0e h2
 unfold Oper.wp execOp
 simp only [ho, resolve, invoke, builtin, Sem.run_bind, Sem.run_pure, Result.andThen_ok, List.map_toArray, List.map_cons, List.map_nil, hs, hx, hr]
 refine h p c w' ⟨by rw [g0t]; simpa using h2, fun k e => ?_, Nat.le_trans hown.2.2 h3.size⟩ ⟨(a02.refl _ _).grown h3 (fun k e => .inl e), h4⟩
 rcases h4 k e with e | e
 ·exact hown.2.1 k e
 ·exact Nat.le_trans hown.2.2 e
def m05 (l : List UInt8) (k : Nat) : b09 := ⟨a0d (sub l k 4), a0d (sub l (k + 4) 4), ((l.getD (k + 8) 0).toNat : Int), (a0d (sub l (k + 10) 2) : Nat)⟩
def d0e (l : List UInt8) (j : Nat) : List b09 := (List.range j).map fun i => m05 l (12 * i)
theorem c0l (l : List UInt8) (j : Nat) : (d0e l j).length = j := by unfold d0e; simp
theorem k05 (l : List UInt8) (j : Nat) : d0e l (j + 1) = d0e l j ++ [m05 l (12 * j)] := by unfold d0e; simp [List.range_succ]
set_option maxRecDepth 100000 in
set_option maxHeartbeats 4000000 in
theorem j0c (p : Option Addr) (c : Nat) (l : List UInt8) (hl : l.length ≤ 1000000) (w : World) (h : Hid (a0a w (.slice p l.length c) l)) :
 Calls Try.prog 81 #[.slice p l.length c] w fun e w' => ∃ q d, e = .returned (.slice q (l.length / 12) d) ∧ OwnL w w' (.slice q (l.length / 12) d) (d0e l (l.length / 12)) ∧ a02 (fun _ => False) w w' := by
 obtain ⟨i0, hi0, hz0, hz1, hz2⟩ := info_parts n0c
 obtain ⟨p', c', e', -, hc, hb⟩ := h.out
 injection e' with e1 e2 e3; subst e1; subst e3
 have hb' := Hi hb; clear hb h
 go_enter Try.func81, Try.ntmps81
 go_wp2
 go_loopw [0, 3] (fun bw nw wr => ∃ (j : Nat) (pp : Option Addr), 12 * j ≤ l.length ∧ bw = .slice pp (l.length - 12 * j) (c - 12 * j) ∧ Hid (12 * j < l.length → ∃ g o, pp = some ⟨g, o + 12 * j, none⟩ ∧ w.rangeAt g o (l.map bv)) ∧ Hid (OwnL w wr nw (d0e l j) ∧ a02 (fun _ => False) w wr)) (fun bw _ _ => match bw with | .slice _ n _ => n | _ => 0)
 case atStart => exact ⟨0, p, by omega, rfl, Hi (fun h => by obtain ⟨g, o, rfl, hr⟩ := hb'.out (by omega); exact ⟨g, o, rfl, hr⟩), Hi ⟨OwnL.nil _ _ (Nat.le_refl _), a02.refl _ _⟩⟩
 case round =>
  obtain ⟨j, pp, hj, rfl, hpp, hO⟩ := hrel
  obtain ⟨q, d, hq⟩ := hO.out.1.slice
  rw [c0l] at hq
  subst hq
  by_cases h12 : 12 * j + 12 ≤ l.length
  ·obtain ⟨g, o, rfl, hr⟩ := hpp.out (by omega)
   have hrw : Hid (wr.rangeAt g o (l.map bv)) := Hi (hO.out.2.rangeAt hr id)
   have hrd := Hi (((a02.refl (fun _ => False) wr).drew).rangeAt hrw.out id)
   obtain ⟨na, hna⟩ : ∃ n, a0d (sub l (12 * j) 4) = n := ⟨_, rfl⟩
   obtain ⟨nb, hnb⟩ : ∃ n, a0d (sub l (12 * j + 4) 4) = n := ⟨_, rfl⟩
   obtain ⟨nd, hnd⟩ : ∃ n, a0d (sub l (12 * j + 10) 2) = n := ⟨_, rfl⟩
   have ld := d09 (x := l) (i := 12 * j + 10) (n := 2) (by omega)
   rw [hnd] at ld
   simp only [show (256 : Nat) ^ 2 = 65536 from rfl] at ld
   obtain ⟨x8, hx8⟩ : ∃ x, l[12 * j + 8]'(by omega) = x := ⟨_, rfl⟩
   have l8 := x8.toNat_lt
   have sa : (sub l (12 * j) 4).length ≤ 4 := by rw [a0k (by omega)]; omega
   have sb : (sub l (12 * j + 4) 4).length ≤ 4 := by rw [a0k (by omega)]; omega
   have sd : (sub l (12 * j + 10) 2).length ≤ 4 := by rw [a0k (by omega)]; omega
   have ka := Hi (a0c hrd.out hc (12 * j) 4 (by omega))
   have kb := Hi (a0c hrd.out hc (12 * j + 4) 4 (by omega))
   have kd := Hi (a0c hrd.out hc (12 * j + 10) 2 (by omega))
   rw [← Nat.add_assoc, ← Nat.sub_sub] at kb kd
   have hrs := k05 l j
   have hla : m05 l (12 * j) = ⟨na, nb, (x8.toNat : Int), (nd : Int)⟩ := by
    unfold m05
    rw [hna, hnb, hnd, List.getD_eq_getElem?_getD, List.getElem?_eq_getElem (by omega), hx8]; rfl
   rw [hla] at hrs
   have hrs' := Hi hrs; have hr0 := Hi hr
   have hc8 : Hid (∀ W : World, W.rangeAt g o (l.map bv) → W.cell? ⟨g, o + 12 * j + 8, none⟩ = some (.int .u8 x8.toNat)) := Hi (fun W s => by have := a0i s (12 * j + 8) (by omega); rw [hx8, show o + (12 * j + 8) = o + 12 * j + 8 by omega] at this; exact this)
   have hgne : Hid (∀ k, w.heap.size ≤ k → k ≠ g) := Hi (fun k hk => by have := World.block_lt_of_cell? _ _ (hr 0 (bv (l[0]'(by omega))) (by rw [List.getElem?_map, List.getElem?_eq_getElem (by omega)]; rfl)); simp only at this; omega)
   have hna' := Hi hna; have hnb' := Hi hnb; have hnd' := Hi hnd
   have i4 : (4 : Int) ≤ (c - 12 * j : Nat) := by omega
   have i8 : (8 : Int) ≤ (c - 12 * j : Nat) := by omega
   have i12 : (12 : Int) ≤ (c - 12 * j : Nat) := by omega
   have i8' : (8 : Int) < (l.length - 12 * j : Nat) := by omega
   have j4 : ¬ c - 12 * j = 4 := by omega
   have j10 : ¬ c - 12 * j = 10 := by omega
   have v8 : IntKind.i64.wrap (x8.toNat : Int) = (x8.toNat : Int) := IntWalk.i64_in _ (by omega)
   have vd : IntKind.i64.wrap (nd : Int) = (nd : Int) := IntWalk.i64_in _ (by omega)
   have hOd := Hi (hO.out.1.keep ((a02.refl (fun _ => False) wr).drew) (fun _ _ f => f))
   have hKd := Hi (hO.out.2.drew)
   have hrl := Hi (c0l l j)
   clear hr hrs hla hna hnb hnd hO hpp hx8
   go_upto_region 4 with fail
   refine wp_region_noPanic ?_
   refine wp_region_held_drew (S := (fun W => W.rangeAt g o (l.map bv))) (by kernel_rfl) (hrd.out) (fun hHeld => ?_)
   refine tk 0 rfl ?_
   refine tk 1 rfl ?_
   refine tk 2 rfl ?_
   refine tk 4 rfl ?_
   refine tk 5 rfl ?_
   refine tk 7 rfl ?_
   refine tk 8 rfl ?_
   refine tkL 9 rfl (a04 (by rfl) 5 (.tmp 17) rfl g (o + 12 * j + 8) rfl _ (fun _ s => hc8.out _ s) (fun w s => g05 w _ _ _ s)) ?_
   refine tk 10 rfl ?_
   refine tk 11 rfl ?_
   refine tk 12 rfl ?_
   refine sL 3 rfl fun K hK => ?_
   go_simp
   (refine (b0b _ _ na sa _ ka hna').mono ?_; rintro e w' ⟨rfl, rfl⟩)
   go_wp2_with fail
   refine hK.out _ _ (hHeld) (fun hHeld => ?_)
   clear hK K
   try simp only [Act.put, sA, sZ, sS]
   refine sL 6 rfl fun K hK => ?_
   go_simp
   (refine (b0b _ _ nb sb _ kb hnb').mono ?_; rintro e w' ⟨rfl, rfl⟩)
   go_wp2_with fail
   refine hK.out _ _ (hHeld) (fun hHeld => ?_)
   clear hK K
   try simp only [Act.put, sA, sZ, sS]
   refine sL 13 rfl fun K hK => ?_
   go_simp
   (refine (b0b _ _ nd sd _ kd hnd').mono ?_; rintro e w' ⟨rfl, rfl⟩)
   go_wp2_with fail
   refine hK.out _ _ (hHeld) (fun hHeld => ?_)
   clear hK K
   try simp only [Act.put, sA, sZ, sS]
   refine tk 14 rfl ?_
   refine tk 15 rfl ?_
   clear i4 i8 i12 i8' j4 j10 v8 vd ka kb kd
   have hOl := Hi (hOd.out.keep ((a02.refl (fun _ => False) wr.drew).alloc (.cells #[.int .u32 na, .int .u32 nb, .int .i64 (x8.toNat : Nat), .int .i64 nd] 108)) (fun _ _ f => f))
   have hKl := Hi (hKd.out.alloc (.cells #[.int .u32 na, .int .u32 nb, .int .i64 (x8.toNat : Nat), .int .i64 nd] 108))
   refine sL 16 rfl fun K hK => ?_
   go_simp
   refine hK.out _ _ (((a02.refl (fun _ => False) _).alloc _).rangeAt hHeld id) (fun hHeld => ?_)
   clear hK K
   try simp only [Act.put, sA, sZ, sS]
   refine sL 17 rfl fun K hK => ?_
   rw [if_pos (by rfl)]
   (refine m0p (.tmp 9) (.tmp 25) 74 rfl i0 Try.underlying74 hi0 hz0 hz1 hz2 w _ j (d0e l j) hrl.out rfl hOl.out _ rfl ⟨na, nb, (x8.toNat : Int), (nd : Int)⟩ (c0y rfl _ _) (by omega) ?_; intro q2 d2 w1 ho hg)
   refine hK.out _ _ ((hg.range (fun k e => by have := hOl.out.2.1 k e; exact hgne.out k (hOl.out.2.1 k e)) hHeld)) (fun hHeld => ?_)
   clear hK K
   try simp only [Act.put, sA, sZ, sS]
   refine tk 18 rfl ?_
   refine wpAnyH_done (by kernel_rfl) (NoPanic.normal ?_) _
   have hR : Hid (OwnL w w1 (.slice q2 (j + 1) d2) (d0e l j ++ [⟨na, nb, (x8.toNat : Int), (nd : Int)⟩]) ∧ a02 (fun _ => False) w w1) := Hi ⟨ho, hKl.out.trans' hg.k (fun i e => .inr (hOl.out.2.1 i e))⟩
   clear hHeld ho hg hOl hKl hOd hKd
   go_wp2_with fail
   have hR := hR.out
   refine ⟨⟨j + 1, if c - 12 * j = 12 then some ⟨g, o + 12 * j, none⟩ else some ⟨g, o + 12 * j + 12, none⟩, by omega, ?_, Hi (fun h => ⟨g, o, ?_, hr0.out⟩), Hi ⟨by rw [hrs'.out]; exact hR.1, hR.2⟩⟩, ?_⟩
   ·rw [show l.length - 12 * (j + 1) = l.length - 12 * j - 12 by omega, show c - 12 * (j + 1) = c - 12 * j - 12 by omega]
   ·rw [if_neg (by omega)]; rfl
   ·show l.length - 12 * j - 12 < l.length - 12 * j; omega
  ·have hj2 : l.length / 12 = j := by omega
   have hO' := Hi hO.out
   clear hO hpp
   go_wp2_with fail
   go_ret
   rw [hj2]
   exact ⟨q, d, rfl, hO'.out.1, hO'.out.2⟩
def c0p (age type : Int) (lid adv : Nat) (seq : Int) (x : List UInt8) : LsaD :=
 if x.length < 4 then ⟨age, type, lid, adv, seq, [], 0, [], 0⟩
 else if type = 1 then ⟨age, type, lid, adv, seq, d0e (x.drop 4) ((x.length - 4) / 12), 0, [], 0⟩
 else if type = 2 then ⟨age, type, lid, adv, seq, [], a0d (sub x 0 4), c09 (x.drop 4) ((x.length - 4) / 4), 0⟩
 else if type = 3 then ⟨age, type, lid, adv, seq, [], a0d (sub x 0 4), [], (a0d (x.drop 4) % 4294967296 : Nat)⟩
 else ⟨age, type, lid, adv, seq, [], 0, [], 0⟩
def LsaF (w0 w : World) (v : Value) (m : LsaD) : Prop :=
 ∃ p5 c5 p7 c7, v = .agg (La m.age m.type m.id m.adv m.seq (.slice p5 m.links.length c5) m.mask (.slice p7 m.routers.length c7) m.cost) ∧ b02 w (.slice p5 m.links.length c5) m.links ∧ a0u w (.slice p7 m.routers.length c7) m.routers ∧ (∀ i n c, (Value.slice p5 n c).ownBlock = some i → w0.heap.size ≤ i) ∧ (∀ i n c, (Value.slice p7 n c).ownBlock = some i → w0.heap.size ≤ i)
theorem LsaF.mk {w0 w : World} {age type seq cost : Int} {lid adv mask : Nat} {links : List b09} {routers : List Nat} {n5 n7 : Nat} {p5 p7 : Option Addr} {c5 c7 : Nat} (h5 : links.length = n5) (h7 : routers.length = n7) (hl : b02 w (.slice p5 n5 c5) links) (hr : a0u w (.slice p7 n7 c7) routers)
 (hf5 : ∀ i n c, (Value.slice p5 n c).ownBlock = some i → w0.heap.size ≤ i) (hf7 : ∀ i n c, (Value.slice p7 n c).ownBlock = some i → w0.heap.size ≤ i) :
 LsaF w0 w (.agg (La age type lid adv seq (.slice p5 n5 c5) mask (.slice p7 n7 c7) cost)) ⟨age, type, lid, adv, seq, links, mask, routers, cost⟩ := by
 subst h5; subst h7; exact ⟨_, _, _, _, rfl, hl, hr, hf5, hf7⟩
theorem k0k {w : World} {v : Value} (h : ∀ i, v.ownBlock = some i → w.drew.heap.size ≤ i) : ∀ i, v.ownBlock = some i → w.heap.size ≤ i := h
theorem b0n (w0 : World) : ∀ i n c, (Value.slice none n c).ownBlock = some i → w0.heap.size ≤ i := fun i n c e => by simp [Value.ownBlock] at e
theorem i0x {w0 w1 : World} {p : Option Addr} {n c k : Nat} (h : ∀ i, (Value.slice p n c).ownBlock = some i → w1.heap.size ≤ i) (hk : w0.heap.size + k < w1.heap.size) : ∀ i n c, (Value.slice p n c).ownBlock = some i → w0.heap.size ≤ i := fun i n' c' e => by
 have := h i (by cases p with | none => simp [Value.ownBlock] at e | some a => exact e)
 omega
theorem a0z (a b c d x : Int) (s : Value) (m : Int) (r : Value) (k : Int) (hs : s.oneCell' = true) (hr : r.oneCell' = true) : (#[.int .i64 a, .int .i64 b, .int .u32 c, .int .u32 d, .int .i64 x, s, .int .u32 m, r, .int .i64 k] : Array Value).all (·.oneCell') = true := by simp; exact ⟨rfl, rfl, rfl, rfl, rfl, hs, rfl, hr, rfl⟩
set_option maxRecDepth 100000 in
set_option maxHeartbeats 4000000 in
theorem m01 (age type seq : Int) (lid adv : Nat) (p : Option Addr) (c : Nat) (x : List UInt8) (hx : x.length ≤ 1000000) (w : World) (h : Hid (a0a w (.slice p x.length c) x)) (hn : x.length < 4) :
 Calls Try.prog 75 #[.agg (La age type lid adv seq Sn 0 Sn 0), .slice p x.length c] w fun e w' => (∃ v, e = .returned v ∧ LsaF w w' v (c0p age type lid adv seq x)) ∧ a02 (fun _ => False) w w' := by
 obtain ⟨M, hM⟩ : ∃ M, c0p age type lid adv seq x = M := ⟨_, rfl⟩
 rw [hM]
 unfold c0p at hM
 rw [if_pos hn] at hM
 obtain ⟨p', c', e', -, hc, hb⟩ := h.out
 injection e' with e1 e2 e3; subst e1; subst e3
 obtain ⟨cs, hcs⟩ : ∃ cs : List Value, cs = (La' age type lid adv seq Sn 0 Sn 0) := ⟨_, rfl⟩
 obtain ⟨zs, hzs⟩ : ∃ zs : List Value, zs = Zm := ⟨_, rfl⟩
 have hwz : Hid (a02 (fun _ => False) w ((w.alloc (.cells (La age type lid adv seq Sn 0 Sn 0) 76)).alloc (.cells Zl 76))) := Hi (((a02.refl _ _).alloc _).alloc _)
 have hBB : Hid (a06 ((w.alloc (.cells (La age type lid adv seq Sn 0 Sn 0) 76)).alloc (.cells Zl 76)) w.heap.size 76 cs) := Hi (by rw [hcs]; exact (a06.new w _ _).alloc _)
 have hRR : Hid (a06 ((w.alloc (.cells (La age type lid adv seq Sn 0 Sn 0) 76)).alloc (.cells Zl 76)) (w.heap.size + 1) 76 zs) := Hi (by
  rw [hzs]
  have := a06.new (w.alloc (.cells (La age type lid adv seq Sn 0 Sn 0) 76)) 76 Zm
  rw [show (w.alloc (.cells (La age type lid adv seq Sn 0 Sn 0) 76)).heap.size = w.heap.size + 1 by simp] at this
  exact this)
 have hsz0 : Hid (w.heap.size + 1 < ((w.alloc (.cells (La age type lid adv seq Sn 0 Sn 0) 76)).alloc (.cells Zl 76)).heap.size) := Hi (by simp)
 have hcs' := Hi hcs; have hzs' := Hi hzs; have hb' := Hi hb; have hM' := Hi hM
 clear hcs hzs hb hM h
 go_enter Try.func75, Try.ntmps75
 go_upto_region 1 with fail
 generalize (w.alloc (.cells (La age type lid adv seq Sn 0 Sn 0) 76)).alloc (.cells Zl 76) = w0 at hwz hBB hRR hsz0 ⊢
 go_wp2_with (first | ((with_reducible refine a09 8 ?_); refine wpList_load_mid rfl 76 (.tmp 2) rfl w.heap.size 0 rfl (La' age type lid adv seq Sn 0 Sn 0) _ (a06.rng hBB.out hcs'.out) Try.underlying76 rfl b04 ?_) | ((with_reducible refine a08 4 ?_); refine a05 rfl 76 (.tmp 4) (.tmp 8) rfl (w.heap.size + 1) (La age type lid adv seq Sn 0 Sn 0) rfl rfl (a06.there hRR.out 0 9 (by rw [hzs'.out]; exact Nat.le_refl 9)) b04 (a0z _ _ _ _ _ _ _ _ _ (a03 _ _ _) (a03 _ _ _)) ?_; intro w9 hr9 hs9))
 have e0 := a01 hr9.out 0 _ rfl
 have e1 := a01 hr9.out 1 _ rfl
 have e2 := a01 hr9.out 2 _ rfl
 have e3 := a01 hr9.out 3 _ rfl
 have e4 := a01 hr9.out 4 _ rfl
 have e5 := a01 hr9.out 5 _ rfl
 have e6 := a01 hr9.out 6 _ rfl
 have e7 := a01 hr9.out 7 _ rfl
 have e8 := a01 hr9.out 8 _ rfl
 refine bodyPost_ret (v := .agg (La age type lid adv seq Sn 0 Sn 0)) (by simp [results, Try.results75, go_sem, e0, e1, e2, e3, e4, e5, e6, e7, e8]) rfl ⟨⟨_, rfl, ?_⟩, hwz.out.trans' hs9.out (fun i e => .inr (by omega))⟩
 rw [← hM'.out]
 refine LsaF.mk ?_ ?_ ?_ ?_ ?_ ?_
 ·exact rfl
 ·exact rfl
 ·exact b02.nil _
 ·exact a0u.nil _
 ·exact b0n _
 ·exact b0n _
set_option maxRecDepth 100000 in
set_option maxHeartbeats 4000000 in
theorem n08 (age type seq : Int) (lid adv : Nat) (p : Option Addr) (c : Nat) (x : List UInt8) (hx : x.length ≤ 1000000) (w : World) (h : Hid (a0a w (.slice p x.length c) x)) (hn : 4 ≤ x.length) (t1 : type ≠ 1) (t2 : type ≠ 2) (t3 : type ≠ 3) :
 Calls Try.prog 75 #[.agg (La age type lid adv seq Sn 0 Sn 0), .slice p x.length c] w fun e w' => (∃ v, e = .returned v ∧ LsaF w w' v (c0p age type lid adv seq x)) ∧ a02 (fun _ => False) w w' := by
 obtain ⟨M, hM⟩ : ∃ M, c0p age type lid adv seq x = M := ⟨_, rfl⟩
 rw [hM]
 unfold c0p at hM
 rw [if_neg (by omega), if_neg t1, if_neg t2, if_neg t3] at hM
 have d1 : (type == 1) = false := by rw [beq_eq_false_iff_ne]; exact t1
 have d2 : (type == 2) = false := by rw [beq_eq_false_iff_ne]; exact t2
 have d3 : (type == 3) = false := by rw [beq_eq_false_iff_ne]; exact t3
 clear t1 t2 t3
 obtain ⟨p', c', e', -, hc, hb⟩ := h.out
 injection e' with e1 e2 e3; subst e1; subst e3
 obtain ⟨cs, hcs⟩ : ∃ cs : List Value, cs = (La' age type lid adv seq Sn 0 Sn 0) := ⟨_, rfl⟩
 obtain ⟨zs, hzs⟩ : ∃ zs : List Value, zs = Zm := ⟨_, rfl⟩
 have hwz : Hid (a02 (fun _ => False) w ((w.alloc (.cells (La age type lid adv seq Sn 0 Sn 0) 76)).alloc (.cells Zl 76))) := Hi (((a02.refl _ _).alloc _).alloc _)
 have hBB : Hid (a06 ((w.alloc (.cells (La age type lid adv seq Sn 0 Sn 0) 76)).alloc (.cells Zl 76)) w.heap.size 76 cs) := Hi (by rw [hcs]; exact (a06.new w _ _).alloc _)
 have hRR : Hid (a06 ((w.alloc (.cells (La age type lid adv seq Sn 0 Sn 0) 76)).alloc (.cells Zl 76)) (w.heap.size + 1) 76 zs) := Hi (by
  rw [hzs]
  have := a06.new (w.alloc (.cells (La age type lid adv seq Sn 0 Sn 0) 76)) 76 Zm
  rw [show (w.alloc (.cells (La age type lid adv seq Sn 0 Sn 0) 76)).heap.size = w.heap.size + 1 by simp] at this
  exact this)
 have hsz0 : Hid (w.heap.size + 1 < ((w.alloc (.cells (La age type lid adv seq Sn 0 Sn 0) 76)).alloc (.cells Zl 76)).heap.size) := Hi (by simp)
 have hcs' := Hi hcs; have hzs' := Hi hzs; have hb' := Hi hb; have hM' := Hi hM
 clear hcs hzs hb hM h
 go_enter Try.func75, Try.ntmps75
 go_upto_region 1 with fail
 generalize (w.alloc (.cells (La age type lid adv seq Sn 0 Sn 0) 76)).alloc (.cells Zl 76) = w0 at hwz hBB hRR hsz0 ⊢
 have b1 := hBB.out.cell 1 (.int .i64 type) (by rw [hcs'.out]; rfl)
 go_wp2_with (first | ((with_reducible refine a09 39 ?_); refine wpList_load_mid rfl 76 (.tmp 2) rfl w.heap.size 0 rfl (La' age type lid adv seq Sn 0 Sn 0) _ (a06.rng hBB.out hcs'.out) Try.underlying76 rfl b04 ?_) | ((with_reducible refine a08 4 ?_); refine a05 rfl 76 (.tmp 4) (.tmp 39) rfl (w.heap.size + 1) (La age type lid adv seq Sn 0 Sn 0) rfl rfl (a06.there hRR.out 0 9 (by rw [hzs'.out]; exact Nat.le_refl 9)) b04 (a0z _ _ _ _ _ _ _ _ _ (a03 _ _ _) (a03 _ _ _)) ?_; intro w9 hr9 hs9))
 have e0 := a01 hr9.out 0 _ rfl
 have e1 := a01 hr9.out 1 _ rfl
 have e2 := a01 hr9.out 2 _ rfl
 have e3 := a01 hr9.out 3 _ rfl
 have e4 := a01 hr9.out 4 _ rfl
 have e5 := a01 hr9.out 5 _ rfl
 have e6 := a01 hr9.out 6 _ rfl
 have e7 := a01 hr9.out 7 _ rfl
 have e8 := a01 hr9.out 8 _ rfl
 refine bodyPost_ret (v := .agg (La age type lid adv seq Sn 0 Sn 0)) (by simp [results, Try.results75, go_sem, e0, e1, e2, e3, e4, e5, e6, e7, e8]) rfl ⟨⟨_, rfl, ?_⟩, hwz.out.trans' hs9.out (fun i e => .inr (by omega))⟩
 rw [← hM'.out]
 refine LsaF.mk ?_ ?_ ?_ ?_ ?_ ?_
 ·exact rfl
 ·exact rfl
 ·exact b02.nil _
 ·exact a0u.nil _
 ·exact b0n _
 ·exact b0n _
set_option maxRecDepth 100000 in
set_option maxHeartbeats 4000000 in
theorem o0w (age seq : Int) (lid adv : Nat) (p : Option Addr) (c : Nat) (x : List UInt8) (hx : x.length ≤ 1000000) (w : World) (h : Hid (a0a w (.slice p x.length c) x)) (hn : 4 ≤ x.length) :
 Calls Try.prog 75 #[.agg (La age 1 lid adv seq Sn 0 Sn 0), .slice p x.length c] w fun e w' => (∃ v, e = .returned v ∧ LsaF w w' v (c0p age 1 lid adv seq x)) ∧ a02 (fun _ => False) w w' := by
 obtain ⟨M, hM⟩ : ∃ M, c0p age 1 lid adv seq x = M := ⟨_, rfl⟩
 rw [hM]
 unfold c0p at hM
 rw [if_neg (by omega), if_pos rfl] at hM
 obtain ⟨p', c', e', -, hc, hb⟩ := h.out
 injection e' with e1 e2 e3; subst e1; subst e3
 obtain ⟨cs, hcs⟩ : ∃ cs : List Value, cs = (La' age 1 lid adv seq Sn 0 Sn 0) := ⟨_, rfl⟩
 obtain ⟨zs, hzs⟩ : ∃ zs : List Value, zs = Zm := ⟨_, rfl⟩
 have hwz : Hid (a02 (fun _ => False) w ((w.alloc (.cells (La age 1 lid adv seq Sn 0 Sn 0) 76)).alloc (.cells Zl 76))) := Hi (((a02.refl _ _).alloc _).alloc _)
 have hBB : Hid (a06 ((w.alloc (.cells (La age 1 lid adv seq Sn 0 Sn 0) 76)).alloc (.cells Zl 76)) w.heap.size 76 cs) := Hi (by rw [hcs]; exact (a06.new w _ _).alloc _)
 have hRR : Hid (a06 ((w.alloc (.cells (La age 1 lid adv seq Sn 0 Sn 0) 76)).alloc (.cells Zl 76)) (w.heap.size + 1) 76 zs) := Hi (by
  rw [hzs]
  have := a06.new (w.alloc (.cells (La age 1 lid adv seq Sn 0 Sn 0) 76)) 76 Zm
  rw [show (w.alloc (.cells (La age 1 lid adv seq Sn 0 Sn 0) 76)).heap.size = w.heap.size + 1 by simp] at this
  exact this)
 have hsz0 : Hid (w.heap.size + 1 < ((w.alloc (.cells (La age 1 lid adv seq Sn 0 Sn 0) 76)).alloc (.cells Zl 76)).heap.size) := Hi (by simp)
 have hcs' := Hi hcs; have hzs' := Hi hzs; have hb' := Hi hb; have hM' := Hi hM
 clear hcs hzs hb hM h
 go_enter Try.func75, Try.ntmps75
 go_upto_region 1 with fail
 generalize (w.alloc (.cells (La age 1 lid adv seq Sn 0 Sn 0) 76)).alloc (.cells Zl 76) = w0 at hwz hBB hRR hsz0 ⊢
 have b1 := hBB.out.cell 1 (.int .i64 1) (by rw [hcs'.out]; rfl)
 obtain ⟨g, o, rfl, hr⟩ := hb'.out (by omega)
 have hr0 := hwz.out.rangeAt hr id
 have ht := a0w hr0 hc 4 hn
 have hd4 : (x.drop 4).length = x.length - 4 := by simp
 obtain ⟨tp, htp⟩ : ∃ tp, tp = (if c = 4 then some (⟨g, o, none⟩ : Addr) else some ⟨g, o + 4, none⟩) := ⟨_, rfl⟩
 rw [← htp, ← hd4] at ht
 have hcall := j0c tp (c - 4) (x.drop 4) (by rw [hd4]; omega) w0 (Hi ht)
 rw [hd4] at hcall
 have hcall' := Hi hcall
 have hc4 : 4 ≤ c := by omega
 clear hr hr0 ht hd4 hcall
 obtain ⟨v5, hv5⟩ : ∃ v, v = Value.slice tp (x.length - 4) (c - 4) := ⟨_, rfl⟩
 by_cases hck : c = 4
 ·have hx4 : x.length = 4 := by omega
  rw [if_pos hck] at htp
  subst htp
  have hq0 : (x.length - 4) / 12 = 0 := by omega
  rw [hq0, show x.length - 4 = 0 by omega, show c - 4 = 0 by omega] at hcall'
  rw [hq0] at hM'
  have hM2 := hM'
  clear hM'
  go_wp2_with fail
  refine hcall'.out.mono ?_
  rintro e w2 ⟨q, d, rfl, hO2, k2⟩
  have hL2 := Hi hO2.at; have hne5 := Hi hO2.2.1; have hk2 := Hi (hwz.out.trans k2)
  have hB2 := Hi (hBB.out.keep k2 id); have hR2 := Hi (hRR.out.keep k2 id)
  have b5 := hB2.out.cell 5 (.slice none 0 0) (by rw [hcs'.out]; rfl)
  have f5 := hB2.out.frozen 5
  have hB3 : Hid (a06 (w2.setCell ⟨w.heap.size, 5, none⟩ (.slice q 0 d)) w.heap.size 76 (La' age 1 lid adv seq (.slice q 0 d) 0 Sn 0)) := Hi (by have := hB2.out.set 5 (.slice q 0 d); rw [hcs'.out] at this; exact this)
  have hs3 : Hid (a02 (fun i => i = w.heap.size) w2 (w2.setCell ⟨w.heap.size, 5, none⟩ (.slice q 0 d))) := Hi ((a02.refl (fun i => i = w.heap.size) _).setCell (.inl rfl) _)
  have hR3 := Hi (hR2.out.keep hs3.out (by omega))
  have hk3 := Hi (hk2.out.trans' hs3.out (fun i e => .inr (by omega)))
  have hL3 := Hi (hL2.out.keepF hs3.out (fun _ i e => by have := hne5.out i e; have := hsz0.out; omega))
  clear k2 hO2 hL2 hk2 hB2 hR2
  go_upto_region 10 with fail
  clear b5 f5
  generalize w2.setCell ⟨w.heap.size, 5, none⟩ (.slice q 0 d) = w3 at hB3 hs3 hR3 hk3 hL3 ⊢
  go_wp2_with (first | ((with_reducible refine a09 39 ?_); refine wpList_load_mid rfl 76 (.tmp 2) rfl w.heap.size 0 rfl (La' age 1 lid adv seq (.slice q 0 d) 0 Sn 0) _ (a06.rng hB3.out rfl) Try.underlying76 rfl b04 ?_) | ((with_reducible refine a08 4 ?_); refine a05 rfl 76 (.tmp 4) (.tmp 39) rfl (w.heap.size + 1) (La age 1 lid adv seq (.slice q 0 d) 0 Sn 0) rfl rfl (a06.there hR3.out 0 9 (by rw [hzs'.out]; exact Nat.le_refl 9)) b04 (a0z _ _ _ _ _ _ _ _ _ (a03 _ _ _) (a03 _ _ _)) ?_; intro w9 hr9 hs9))
  have e0 := a01 hr9.out 0 _ rfl
  have e1 := a01 hr9.out 1 _ rfl
  have e2 := a01 hr9.out 2 _ rfl
  have e3 := a01 hr9.out 3 _ rfl
  have e4 := a01 hr9.out 4 _ rfl
  have e5 := a01 hr9.out 5 _ rfl
  have e6 := a01 hr9.out 6 _ rfl
  have e7 := a01 hr9.out 7 _ rfl
  have e8 := a01 hr9.out 8 _ rfl
  refine bodyPost_ret (v := .agg (La age 1 lid adv seq (.slice q 0 d) 0 Sn 0)) (by simp [results, Try.results75, go_sem, e0, e1, e2, e3, e4, e5, e6, e7, e8]) rfl ⟨⟨_, rfl, ?_⟩, hk3.out.trans' hs9.out (fun i e => .inr (by omega))⟩
  rw [← hM2.out]
  refine LsaF.mk ?_ ?_ ?_ ?_ ?_ ?_
  ·exact (c0l _ _)
  ·exact rfl
  ·exact hL3.out.keepF hs9.out (fun _ i e => by have := hne5.out i e; have := hsz0.out; omega)
  ·exact a0u.nil _
  ·exact i0x hne5.out hsz0.out
  ·exact b0n _
 ·rw [if_neg hck] at htp
  subst htp
  go_wp2_with fail
  refine hcall'.out.mono ?_
  rintro e w2 ⟨q, d, rfl, hO2, k2⟩
  have hL2 := Hi hO2.at; have hne5 := Hi hO2.2.1; have hk2 := Hi (hwz.out.trans k2)
  have hB2 := Hi (hBB.out.keep k2 id); have hR2 := Hi (hRR.out.keep k2 id)
  have b5 := hB2.out.cell 5 (.slice none 0 0) (by rw [hcs'.out]; rfl)
  have f5 := hB2.out.frozen 5
  have hB3 : Hid (a06 (w2.setCell ⟨w.heap.size, 5, none⟩ (.slice q ((x.length - 4) / 12) d)) w.heap.size 76 (La' age 1 lid adv seq (.slice q ((x.length - 4) / 12) d) 0 Sn 0)) := Hi (by have := hB2.out.set 5 (.slice q ((x.length - 4) / 12) d); rw [hcs'.out] at this; exact this)
  have hs3 : Hid (a02 (fun i => i = w.heap.size) w2 (w2.setCell ⟨w.heap.size, 5, none⟩ (.slice q ((x.length - 4) / 12) d))) := Hi ((a02.refl (fun i => i = w.heap.size) _).setCell (.inl rfl) _)
  have hR3 := Hi (hR2.out.keep hs3.out (by omega))
  have hk3 := Hi (hk2.out.trans' hs3.out (fun i e => .inr (by omega)))
  have hL3 := Hi (hL2.out.keepF hs3.out (fun _ i e => by have := hne5.out i e; have := hsz0.out; omega))
  clear k2 hO2 hL2 hk2 hB2 hR2
  go_upto_region 10 with fail
  clear b5 f5
  generalize w2.setCell ⟨w.heap.size, 5, none⟩ (.slice q ((x.length - 4) / 12) d) = w3 at hB3 hs3 hR3 hk3 hL3 ⊢
  go_wp2_with (first | ((with_reducible refine a09 39 ?_); refine wpList_load_mid rfl 76 (.tmp 2) rfl w.heap.size 0 rfl (La' age 1 lid adv seq (.slice q ((x.length - 4) / 12) d) 0 Sn 0) _ (a06.rng hB3.out rfl) Try.underlying76 rfl b04 ?_) | ((with_reducible refine a08 4 ?_); refine a05 rfl 76 (.tmp 4) (.tmp 39) rfl (w.heap.size + 1) (La age 1 lid adv seq (.slice q ((x.length - 4) / 12) d) 0 Sn 0) rfl rfl (a06.there hR3.out 0 9 (by rw [hzs'.out]; exact Nat.le_refl 9)) b04 (a0z _ _ _ _ _ _ _ _ _ (a03 _ _ _) (a03 _ _ _)) ?_; intro w9 hr9 hs9))
  have e0 := a01 hr9.out 0 _ rfl
  have e1 := a01 hr9.out 1 _ rfl
  have e2 := a01 hr9.out 2 _ rfl
  have e3 := a01 hr9.out 3 _ rfl
  have e4 := a01 hr9.out 4 _ rfl
  have e5 := a01 hr9.out 5 _ rfl
  have e6 := a01 hr9.out 6 _ rfl
  have e7 := a01 hr9.out 7 _ rfl
  have e8 := a01 hr9.out 8 _ rfl
  refine bodyPost_ret (v := .agg (La age 1 lid adv seq (.slice q ((x.length - 4) / 12) d) 0 Sn 0)) (by simp [results, Try.results75, go_sem, e0, e1, e2, e3, e4, e5, e6, e7, e8]) rfl ⟨⟨_, rfl, ?_⟩, hk3.out.trans' hs9.out (fun i e => .inr (by omega))⟩
  rw [← hM'.out]
  refine LsaF.mk ?_ ?_ ?_ ?_ ?_ ?_
  ·exact (c0l _ _)
  ·exact rfl
  ·exact hL3.out.keepF hs9.out (fun _ i e => by have := hne5.out i e; have := hsz0.out; omega)
  ·exact a0u.nil _
  ·exact i0x hne5.out hsz0.out
  ·exact b0n _
set_option maxRecDepth 100000 in
set_option maxHeartbeats 4000000 in
theorem o0v (age seq : Int) (lid adv : Nat) (p : Option Addr) (c : Nat) (x : List UInt8) (hx : x.length ≤ 1000000) (w : World) (h : Hid (a0a w (.slice p x.length c) x)) (hn : 4 ≤ x.length) :
 Calls Try.prog 75 #[.agg (La age 2 lid adv seq Sn 0 Sn 0), .slice p x.length c] w fun e w' => (∃ v, e = .returned v ∧ LsaF w w' v (c0p age 2 lid adv seq x)) ∧ a02 (fun _ => False) w w' := by
 obtain ⟨M, hM⟩ : ∃ M, c0p age 2 lid adv seq x = M := ⟨_, rfl⟩
 rw [hM]
 unfold c0p at hM
 rw [if_neg (by omega), if_neg (by decide), if_pos rfl] at hM
 obtain ⟨p', c', e', -, hc, hb⟩ := h.out
 injection e' with e1 e2 e3; subst e1; subst e3
 obtain ⟨cs, hcs⟩ : ∃ cs : List Value, cs = (La' age 2 lid adv seq Sn 0 Sn 0) := ⟨_, rfl⟩
 obtain ⟨zs, hzs⟩ : ∃ zs : List Value, zs = Zm := ⟨_, rfl⟩
 have hwz : Hid (a02 (fun _ => False) w ((w.alloc (.cells (La age 2 lid adv seq Sn 0 Sn 0) 76)).alloc (.cells Zl 76))) := Hi (((a02.refl _ _).alloc _).alloc _)
 have hBB : Hid (a06 ((w.alloc (.cells (La age 2 lid adv seq Sn 0 Sn 0) 76)).alloc (.cells Zl 76)) w.heap.size 76 cs) := Hi (by rw [hcs]; exact (a06.new w _ _).alloc _)
 have hRR : Hid (a06 ((w.alloc (.cells (La age 2 lid adv seq Sn 0 Sn 0) 76)).alloc (.cells Zl 76)) (w.heap.size + 1) 76 zs) := Hi (by
  rw [hzs]
  have := a06.new (w.alloc (.cells (La age 2 lid adv seq Sn 0 Sn 0) 76)) 76 Zm
  rw [show (w.alloc (.cells (La age 2 lid adv seq Sn 0 Sn 0) 76)).heap.size = w.heap.size + 1 by simp] at this
  exact this)
 have hsz0 : Hid (w.heap.size + 1 < ((w.alloc (.cells (La age 2 lid adv seq Sn 0 Sn 0) 76)).alloc (.cells Zl 76)).heap.size) := Hi (by simp)
 have hcs' := Hi hcs; have hzs' := Hi hzs; have hb' := Hi hb; have hM' := Hi hM
 clear hcs hzs hb hM h
 go_enter Try.func75, Try.ntmps75
 go_upto_region 1 with fail
 generalize (w.alloc (.cells (La age 2 lid adv seq Sn 0 Sn 0) 76)).alloc (.cells Zl 76) = w0 at hwz hBB hRR hsz0 ⊢
 have b1 := hBB.out.cell 1 (.int .i64 2) (by rw [hcs'.out]; rfl)
 obtain ⟨g, o, rfl, hr⟩ := hb'.out (by omega)
 have hr0 := hwz.out.drew.rangeAt hr id
 have ht := a0w hr0 hc 4 hn
 have hd4 : (x.drop 4).length = x.length - 4 := by simp
 obtain ⟨tp, htp⟩ : ∃ tp, tp = (if c = 4 then some (⟨g, o, none⟩ : Addr) else some ⟨g, o + 4, none⟩) := ⟨_, rfl⟩
 rw [← htp, ← hd4] at ht
 have hcall := h08 tp (c - 4) (x.drop 4) (by rw [hd4]; omega) w0.drew (Hi ht)
 rw [hd4] at hcall
 have hcall' := Hi hcall
 have hc4 : 4 ≤ c := by omega
 have hc4i : (4 : Int) ≤ c := by omega
 have hx4i : (4 : Int) ≤ x.length := by omega
 obtain ⟨mk, hmk⟩ : ∃ n, a0d (sub x 0 4) = n := ⟨_, rfl⟩
 have lmk := d09 (x := x) (i := 0) (n := 4) (by omega)
 rw [hmk] at hM' lmk
 have hmk' := Hi hmk
 have s4 : (sub x 0 4).length ≤ 4 := by rw [a0k (by omega)]; omega
 have k4 := Hi (a0c hr0 hc 0 4 (by omega))
 rw [Nat.add_zero, Nat.sub_zero] at k4
 have hBd := Hi (hBB.out.keep ((a02.refl (fun _ => False) _).drew) id)
 have hRd := Hi (hRR.out.keep ((a02.refl (fun _ => False) _).drew) id)
 have hwd := Hi hwz.out.drew
 clear hr hr0 ht hd4 hcall hmk
 by_cases hck : c = 4
 ·have hx4 : x.length = 4 := by omega
  rw [if_pos hck] at htp
  subst htp
  have hq0 : (x.length - 4) / 4 = 0 := by omega
  rw [hq0, show x.length - 4 = 0 by omega, show c - 4 = 0 by omega] at hcall'
  rw [hq0] at hM'
  subst hck
  go_upto_region 7 with fail
  refine wp_region_noPanic ?_
  refine wp_region_held_drew (S := (fun _ => True)) (by kernel_rfl) (trivial) (fun hHeld => ?_)
  refine tk 0 rfl ?_
  refine tk 1 rfl ?_
  refine tk 3 rfl ?_
  refine tk 4 rfl ?_
  refine sL 2 rfl fun K hK => ?_
  go_simp
  (refine (b0b _ _ mk s4 _ k4 hmk').mono ?_; rintro e w' ⟨rfl, rfl⟩)
  go_wp2_with fail
  refine hK.out _ _ (trivial) (fun hHeld => ?_)
  clear hK K
  try simp only [Act.put, sA, sZ, sS]
  refine tk 6 rfl ?_
  refine sL 5 rfl fun K hK => ?_
  go_simp
  (refine hcall'.out.mono ?_; rintro e w2 ⟨q, d, rfl, hO2, k2⟩)
  go_wp2_with fail
  refine hK.out _ _ (trivial) (fun hHeld => ?_)
  clear hK K
  try simp only [Act.put, sA, sZ, sS]
  have hL2 := Hi hO2.at; have hne5 := Hi hO2.2.1; have hne6 := Hi (k0k hO2.2.1); have hk2 := Hi (hwd.out.trans k2)
  have hB2 := Hi (hBd.out.keep k2 id); have hR2 := Hi (hRd.out.keep k2 id)
  have b6 := hB2.out.cell 6 (.int .u32 0) (by rw [hcs'.out]; rfl)
  have f6 := hB2.out.frozen 6
  have b7 := hB2.out.cell 7 (.slice none 0 0) (by rw [hcs'.out]; rfl)
  have f7 := hB2.out.frozen 7
  have hB3 : Hid (a06 ((w2.setCell ⟨w.heap.size, 6, none⟩ (.int .u32 mk)).setCell ⟨w.heap.size, 7, none⟩ (.slice q 0 d)) w.heap.size 76 (La' age 2 lid adv seq Sn mk (.slice q 0 d) 0)) := Hi (by have := (hB2.out.set 6 (.int .u32 mk)).set 7 (.slice q 0 d); rw [hcs'.out] at this; exact this)
  have hs3 : Hid (a02 (fun i => i = w.heap.size) w2 ((w2.setCell ⟨w.heap.size, 6, none⟩ (.int .u32 mk)).setCell ⟨w.heap.size, 7, none⟩ (.slice q 0 d))) := Hi (((a02.refl (fun i => i = w.heap.size) _).setCell (p := ⟨w.heap.size, 6, none⟩) (.inl rfl) _).setCell (p := ⟨w.heap.size, 7, none⟩) (.inl rfl) _)
  have hR3 := Hi (hR2.out.keep hs3.out (by omega))
  have hk3 := Hi (hk2.out.trans' hs3.out (fun i e => .inr (by omega)))
  have hL3 := Hi (hL2.out.keepF hs3.out (fun _ i e => by have := hne5.out i e; have := hsz0.out; simp at *; omega))
  clear k2 hO2 hL2 hk2 hB2 hR2
  refine sL 7 rfl fun K hK => ?_
  go_simp
  refine hK.out _ _ (trivial) (fun hHeld => ?_)
  clear hK K
  try simp only [Act.put, sA, sZ, sS]
  refine tk 8 rfl ?_
  refine sL 9 rfl fun K hK => ?_
  go_simp
  refine hK.out _ _ (trivial) (fun hHeld => ?_)
  clear hK K
  try simp only [Act.put, sA, sZ, sS]
  refine wpAnyH_done (by kernel_rfl) (NoPanic.normal ?_) _
  clear b6 f6 b7 f7 hHeld
  generalize (w2.setCell ⟨w.heap.size, 6, none⟩ (.int .u32 mk)).setCell ⟨w.heap.size, 7, none⟩ (.slice q 0 d) = w3 at hB3 hs3 hR3 hk3 hL3 ⊢
  go_wp2_with (first | ((with_reducible refine a09 39 ?_); refine wpList_load_mid rfl 76 (.tmp 2) rfl w.heap.size 0 rfl (La' age 2 lid adv seq Sn mk (.slice q 0 d) 0) _ (a06.rng hB3.out rfl) Try.underlying76 rfl b04 ?_) | ((with_reducible refine a08 4 ?_); refine a05 rfl 76 (.tmp 4) (.tmp 39) rfl (w.heap.size + 1) (La age 2 lid adv seq Sn mk (.slice q 0 d) 0) rfl rfl (a06.there hR3.out 0 9 (by rw [hzs'.out]; exact Nat.le_refl 9)) b04 (a0z _ _ _ _ _ _ _ _ _ (a03 _ _ _) (a03 _ _ _)) ?_; intro w9 hr9 hs9))
  have e0 := a01 hr9.out 0 _ rfl
  have e1 := a01 hr9.out 1 _ rfl
  have e2 := a01 hr9.out 2 _ rfl
  have e3 := a01 hr9.out 3 _ rfl
  have e4 := a01 hr9.out 4 _ rfl
  have e5 := a01 hr9.out 5 _ rfl
  have e6 := a01 hr9.out 6 _ rfl
  have e7 := a01 hr9.out 7 _ rfl
  have e8 := a01 hr9.out 8 _ rfl
  refine bodyPost_ret (v := .agg (La age 2 lid adv seq Sn mk (.slice q 0 d) 0)) (by simp [results, Try.results75, go_sem, e0, e1, e2, e3, e4, e5, e6, e7, e8]) rfl ⟨⟨_, rfl, ?_⟩, hk3.out.trans' hs9.out (fun i e => .inr (by omega))⟩
  rw [← hM'.out]
  refine LsaF.mk ?_ ?_ ?_ ?_ ?_ ?_
  ·exact rfl
  ·exact (c06 _ _)
  ·exact b02.nil _
  ·exact hL3.out.keepF hs9.out (fun _ i e => by have := hne5.out i e; have := hsz0.out; simp at *; omega)
  ·exact b0n _
  ·exact i0x hne6.out hsz0.out
 ·rw [if_neg hck] at htp
  subst htp
  go_upto_region 7 with fail
  refine wp_region_noPanic ?_
  refine wp_region_held_drew (S := (fun _ => True)) (by kernel_rfl) (trivial) (fun hHeld => ?_)
  refine tk 0 rfl ?_
  refine tk 1 rfl ?_
  refine tk 3 rfl ?_
  refine tk 4 rfl ?_
  refine sL 2 rfl fun K hK => ?_
  go_simp
  (refine (b0b _ _ mk s4 _ k4 hmk').mono ?_; rintro e w' ⟨rfl, rfl⟩)
  go_wp2_with fail
  refine hK.out _ _ (trivial) (fun hHeld => ?_)
  clear hK K
  try simp only [Act.put, sA, sZ, sS]
  refine tk 6 rfl ?_
  refine sL 5 rfl fun K hK => ?_
  go_simp
  (refine hcall'.out.mono ?_; rintro e w2 ⟨q, d, rfl, hO2, k2⟩)
  go_wp2_with fail
  refine hK.out _ _ (trivial) (fun hHeld => ?_)
  clear hK K
  try simp only [Act.put, sA, sZ, sS]
  have hL2 := Hi hO2.at; have hne5 := Hi hO2.2.1; have hne6 := Hi (k0k hO2.2.1); have hk2 := Hi (hwd.out.trans k2)
  have hB2 := Hi (hBd.out.keep k2 id); have hR2 := Hi (hRd.out.keep k2 id)
  have b6 := hB2.out.cell 6 (.int .u32 0) (by rw [hcs'.out]; rfl)
  have f6 := hB2.out.frozen 6
  have b7 := hB2.out.cell 7 (.slice none 0 0) (by rw [hcs'.out]; rfl)
  have f7 := hB2.out.frozen 7
  have hB3 : Hid (a06 ((w2.setCell ⟨w.heap.size, 6, none⟩ (.int .u32 mk)).setCell ⟨w.heap.size, 7, none⟩ (.slice q ((x.length - 4) / 4) d)) w.heap.size 76 (La' age 2 lid adv seq Sn mk (.slice q ((x.length - 4) / 4) d) 0)) := Hi (by have := (hB2.out.set 6 (.int .u32 mk)).set 7 (.slice q ((x.length - 4) / 4) d); rw [hcs'.out] at this; exact this)
  have hs3 : Hid (a02 (fun i => i = w.heap.size) w2 ((w2.setCell ⟨w.heap.size, 6, none⟩ (.int .u32 mk)).setCell ⟨w.heap.size, 7, none⟩ (.slice q ((x.length - 4) / 4) d))) := Hi (((a02.refl (fun i => i = w.heap.size) _).setCell (p := ⟨w.heap.size, 6, none⟩) (.inl rfl) _).setCell (p := ⟨w.heap.size, 7, none⟩) (.inl rfl) _)
  have hR3 := Hi (hR2.out.keep hs3.out (by omega))
  have hk3 := Hi (hk2.out.trans' hs3.out (fun i e => .inr (by omega)))
  have hL3 := Hi (hL2.out.keepF hs3.out (fun _ i e => by have := hne5.out i e; have := hsz0.out; simp at *; omega))
  clear k2 hO2 hL2 hk2 hB2 hR2
  refine sL 7 rfl fun K hK => ?_
  go_simp
  refine hK.out _ _ (trivial) (fun hHeld => ?_)
  clear hK K
  try simp only [Act.put, sA, sZ, sS]
  refine tk 8 rfl ?_
  refine sL 9 rfl fun K hK => ?_
  go_simp
  refine hK.out _ _ (trivial) (fun hHeld => ?_)
  clear hK K
  try simp only [Act.put, sA, sZ, sS]
  refine wpAnyH_done (by kernel_rfl) (NoPanic.normal ?_) _
  clear b6 f6 b7 f7 hHeld
  generalize (w2.setCell ⟨w.heap.size, 6, none⟩ (.int .u32 mk)).setCell ⟨w.heap.size, 7, none⟩ (.slice q ((x.length - 4) / 4) d) = w3 at hB3 hs3 hR3 hk3 hL3 ⊢
  go_wp2_with (first | ((with_reducible refine a09 39 ?_); refine wpList_load_mid rfl 76 (.tmp 2) rfl w.heap.size 0 rfl (La' age 2 lid adv seq Sn mk (.slice q ((x.length - 4) / 4) d) 0) _ (a06.rng hB3.out rfl) Try.underlying76 rfl b04 ?_) | ((with_reducible refine a08 4 ?_); refine a05 rfl 76 (.tmp 4) (.tmp 39) rfl (w.heap.size + 1) (La age 2 lid adv seq Sn mk (.slice q ((x.length - 4) / 4) d) 0) rfl rfl (a06.there hR3.out 0 9 (by rw [hzs'.out]; exact Nat.le_refl 9)) b04 (a0z _ _ _ _ _ _ _ _ _ (a03 _ _ _) (a03 _ _ _)) ?_; intro w9 hr9 hs9))
  have e0 := a01 hr9.out 0 _ rfl
  have e1 := a01 hr9.out 1 _ rfl
  have e2 := a01 hr9.out 2 _ rfl
  have e3 := a01 hr9.out 3 _ rfl
  have e4 := a01 hr9.out 4 _ rfl
  have e5 := a01 hr9.out 5 _ rfl
  have e6 := a01 hr9.out 6 _ rfl
  have e7 := a01 hr9.out 7 _ rfl
  have e8 := a01 hr9.out 8 _ rfl
  refine bodyPost_ret (v := .agg (La age 2 lid adv seq Sn mk (.slice q ((x.length - 4) / 4) d) 0)) (by simp [results, Try.results75, go_sem, e0, e1, e2, e3, e4, e5, e6, e7, e8]) rfl ⟨⟨_, rfl, ?_⟩, hk3.out.trans' hs9.out (fun i e => .inr (by omega))⟩
  rw [← hM'.out]
  refine LsaF.mk ?_ ?_ ?_ ?_ ?_ ?_
  ·exact rfl
  ·exact (c06 _ _)
  ·exact b02.nil _
  ·exact hL3.out.keepF hs9.out (fun _ i e => by have := hne5.out i e; have := hsz0.out; simp at *; omega)
  ·exact b0n _
  ·exact i0x hne6.out hsz0.out
set_option maxRecDepth 100000 in
set_option maxHeartbeats 4000000 in
theorem l0z (age seq : Int) (lid adv : Nat) (p : Option Addr) (c : Nat) (x : List UInt8) (hx : x.length ≤ 1000000) (w : World) (h : Hid (a0a w (.slice p x.length c) x)) (hn : 4 ≤ x.length) :
 Calls Try.prog 75 #[.agg (La age 3 lid adv seq Sn 0 Sn 0), .slice p x.length c] w fun e w' => (∃ v, e = .returned v ∧ LsaF w w' v (c0p age 3 lid adv seq x)) ∧ a02 (fun _ => False) w w' := by
 obtain ⟨M, hM⟩ : ∃ M, c0p age 3 lid adv seq x = M := ⟨_, rfl⟩
 rw [hM]
 unfold c0p at hM
 rw [if_neg (by omega), if_neg (by decide), if_neg (by decide), if_pos rfl] at hM
 obtain ⟨p', c', e', -, hc, hb⟩ := h.out
 injection e' with e1 e2 e3; subst e1; subst e3
 obtain ⟨cs, hcs⟩ : ∃ cs : List Value, cs = (La' age 3 lid adv seq Sn 0 Sn 0) := ⟨_, rfl⟩
 obtain ⟨zs, hzs⟩ : ∃ zs : List Value, zs = Zm := ⟨_, rfl⟩
 have hwz : Hid (a02 (fun _ => False) w ((w.alloc (.cells (La age 3 lid adv seq Sn 0 Sn 0) 76)).alloc (.cells Zl 76))) := Hi (((a02.refl _ _).alloc _).alloc _)
 have hBB : Hid (a06 ((w.alloc (.cells (La age 3 lid adv seq Sn 0 Sn 0) 76)).alloc (.cells Zl 76)) w.heap.size 76 cs) := Hi (by rw [hcs]; exact (a06.new w _ _).alloc _)
 have hRR : Hid (a06 ((w.alloc (.cells (La age 3 lid adv seq Sn 0 Sn 0) 76)).alloc (.cells Zl 76)) (w.heap.size + 1) 76 zs) := Hi (by
  rw [hzs]
  have := a06.new (w.alloc (.cells (La age 3 lid adv seq Sn 0 Sn 0) 76)) 76 Zm
  rw [show (w.alloc (.cells (La age 3 lid adv seq Sn 0 Sn 0) 76)).heap.size = w.heap.size + 1 by simp] at this
  exact this)
 have hsz0 : Hid (w.heap.size + 1 < ((w.alloc (.cells (La age 3 lid adv seq Sn 0 Sn 0) 76)).alloc (.cells Zl 76)).heap.size) := Hi (by simp)
 have hcs' := Hi hcs; have hzs' := Hi hzs; have hb' := Hi hb; have hM' := Hi hM
 clear hcs hzs hb hM h
 go_enter Try.func75, Try.ntmps75
 go_upto_region 1 with fail
 generalize (w.alloc (.cells (La age 3 lid adv seq Sn 0 Sn 0) 76)).alloc (.cells Zl 76) = w0 at hwz hBB hRR hsz0 ⊢
 have b1 := hBB.out.cell 1 (.int .i64 3) (by rw [hcs'.out]; rfl)
 obtain ⟨g, o, rfl, hr⟩ := hb'.out (by omega)
 have hr0 := hwz.out.drew.rangeAt hr id
 have ht := a0w hr0 hc 4 hn
 obtain ⟨tp, htp⟩ : ∃ tp, tp = (if c = 4 then some (⟨g, o, none⟩ : Addr) else some ⟨g, o + 4, none⟩) := ⟨_, rfl⟩
 rw [← htp] at ht
 have hcall := o0e _ (x.drop 4) (by simp; omega) w0.drew (Hi ht)
 obtain ⟨cn, hcn⟩ : ∃ n, a0d (x.drop 4) % 4294967296 = n := ⟨_, rfl⟩
 have lcn : cn < 4294967296 := by rw [← hcn]; exact Nat.mod_lt _ (by omega)
 rw [hcn] at hcall hM'
 have vcn : IntKind.i64.wrap (cn : Int) = (cn : Int) := IntWalk.i64_in _ (by omega)
 have hcall' := Hi hcall
 have hc4 : 4 ≤ c := by omega
 have hc4i : (4 : Int) ≤ c := by omega
 have hx4i : (4 : Int) ≤ x.length := by omega
 obtain ⟨mk, hmk⟩ : ∃ n, a0d (sub x 0 4) = n := ⟨_, rfl⟩
 have lmk := d09 (x := x) (i := 0) (n := 4) (by omega)
 rw [hmk] at hM' lmk
 have hmk' := Hi hmk
 have s4 : (sub x 0 4).length ≤ 4 := by rw [a0k (by omega)]; omega
 have k4 := Hi (a0c hr0 hc 0 4 (by omega))
 rw [Nat.add_zero, Nat.sub_zero] at k4
 have hBd := Hi (hBB.out.keep ((a02.refl (fun _ => False) _).drew) id)
 have hRd := Hi (hRR.out.keep ((a02.refl (fun _ => False) _).drew) id)
 have hwd := Hi hwz.out.drew
 clear hr hr0 ht hcall hmk hcn
 by_cases hck : c = 4
 ·have hx4 : x.length = 4 := by omega
  rw [if_pos hck] at htp
  subst htp
  rw [show x.length - 4 = 0 by omega, show c - 4 = 0 by omega] at hcall'
  subst hck
  go_upto_region 9 with fail
  refine wp_region_noPanic ?_
  refine wp_region_held_drew (S := (fun _ => True)) (by kernel_rfl) (trivial) (fun hHeld => ?_)
  refine tk 0 rfl ?_
  refine tk 1 rfl ?_
  refine tk 3 rfl ?_
  refine tk 4 rfl ?_
  refine sL 2 rfl fun K hK => ?_
  go_simp
  (refine (b0b _ _ mk s4 _ k4 hmk').mono ?_; rintro e w' ⟨rfl, rfl⟩)
  go_wp2_with fail
  refine hK.out _ _ (trivial) (fun hHeld => ?_)
  clear hK K
  try simp only [Act.put, sA, sZ, sS]
  refine tk 7 rfl ?_
  refine sL 5 rfl fun K hK => ?_
  go_simp
  (refine hcall'.out.mono ?_; rintro e w2 ⟨rfl, rfl⟩)
  go_wp2_with fail
  refine hK.out _ _ (trivial) (fun hHeld => ?_)
  clear hK K
  try simp only [Act.put, sA, sZ, sS]
  refine tk 6 rfl ?_
  generalize w0.drew = w2 at hBd hRd hwd ⊢
  have b6 := hBd.out.cell 6 (.int .u32 0) (by rw [hcs'.out]; rfl)
  have f6 := hBd.out.frozen 6
  have b8 := hBd.out.cell 8 (.int .i64 0) (by rw [hcs'.out]; rfl)
  have f8 := hBd.out.frozen 8
  have hB3 : Hid (a06 ((w2.setCell ⟨w.heap.size, 6, none⟩ (.int .u32 mk)).setCell ⟨w.heap.size, 8, none⟩ (.int .i64 cn)) w.heap.size 76 (La' age 3 lid adv seq Sn mk Sn cn)) := Hi (by have := (hBd.out.set 6 (.int .u32 mk)).set 8 (.int .i64 cn); rw [hcs'.out] at this; exact this)
  have hs3 : Hid (a02 (fun i => i = w.heap.size) w2 ((w2.setCell ⟨w.heap.size, 6, none⟩ (.int .u32 mk)).setCell ⟨w.heap.size, 8, none⟩ (.int .i64 cn))) := Hi (((a02.refl (fun i => i = w.heap.size) _).setCell (p := ⟨w.heap.size, 6, none⟩) (.inl rfl) _).setCell (p := ⟨w.heap.size, 8, none⟩) (.inl rfl) _)
  have hR3 := Hi (hRd.out.keep hs3.out (by omega))
  have hk3 := Hi (hwd.out.trans' hs3.out (fun i e => .inr (by omega)))
  refine sL 8 rfl fun K hK => ?_
  go_simp
  refine hK.out _ _ (trivial) (fun hHeld => ?_)
  clear hK K
  try simp only [Act.put, sA, sZ, sS]
  refine tk 9 rfl ?_
  refine sL 10 rfl fun K hK => ?_
  go_simp
  refine hK.out _ _ (trivial) (fun hHeld => ?_)
  clear hK K
  try simp only [Act.put, sA, sZ, sS]
  refine wpAnyH_done (by kernel_rfl) (NoPanic.normal ?_) _
  clear b6 f6 b8 f8 hHeld
  generalize (w2.setCell ⟨w.heap.size, 6, none⟩ (.int .u32 mk)).setCell ⟨w.heap.size, 8, none⟩ (.int .i64 cn) = w3 at hB3 hs3 hR3 hk3 ⊢
  go_wp2_with (first | ((with_reducible refine a09 39 ?_); refine wpList_load_mid rfl 76 (.tmp 2) rfl w.heap.size 0 rfl (La' age 3 lid adv seq Sn mk Sn cn) _ (a06.rng hB3.out rfl) Try.underlying76 rfl b04 ?_) | ((with_reducible refine a08 4 ?_); refine a05 rfl 76 (.tmp 4) (.tmp 39) rfl (w.heap.size + 1) (La age 3 lid adv seq Sn mk Sn cn) rfl rfl (a06.there hR3.out 0 9 (by rw [hzs'.out]; exact Nat.le_refl 9)) b04 (a0z _ _ _ _ _ _ _ _ _ (a03 _ _ _) (a03 _ _ _)) ?_; intro w9 hr9 hs9))
  have e0 := a01 hr9.out 0 _ rfl
  have e1 := a01 hr9.out 1 _ rfl
  have e2 := a01 hr9.out 2 _ rfl
  have e3 := a01 hr9.out 3 _ rfl
  have e4 := a01 hr9.out 4 _ rfl
  have e5 := a01 hr9.out 5 _ rfl
  have e6 := a01 hr9.out 6 _ rfl
  have e7 := a01 hr9.out 7 _ rfl
  have e8 := a01 hr9.out 8 _ rfl
  refine bodyPost_ret (v := .agg (La age 3 lid adv seq Sn mk Sn cn)) (by simp [results, Try.results75, go_sem, e0, e1, e2, e3, e4, e5, e6, e7, e8]) rfl ⟨⟨_, rfl, ?_⟩, hk3.out.trans' hs9.out (fun i e => .inr (by omega))⟩
  rw [← hM'.out]
  refine LsaF.mk ?_ ?_ ?_ ?_ ?_ ?_
  ·exact rfl
  ·exact rfl
  ·exact b02.nil _
  ·exact a0u.nil _
  ·exact b0n _
  ·exact b0n _
 ·rw [if_neg hck] at htp
  subst htp
  go_upto_region 9 with fail
  refine wp_region_noPanic ?_
  refine wp_region_held_drew (S := (fun _ => True)) (by kernel_rfl) (trivial) (fun hHeld => ?_)
  refine tk 0 rfl ?_
  refine tk 1 rfl ?_
  refine tk 3 rfl ?_
  refine tk 4 rfl ?_
  refine sL 2 rfl fun K hK => ?_
  go_simp
  (refine (b0b _ _ mk s4 _ k4 hmk').mono ?_; rintro e w' ⟨rfl, rfl⟩)
  go_wp2_with fail
  refine hK.out _ _ (trivial) (fun hHeld => ?_)
  clear hK K
  try simp only [Act.put, sA, sZ, sS]
  refine tk 7 rfl ?_
  refine sL 5 rfl fun K hK => ?_
  go_simp
  (refine hcall'.out.mono ?_; rintro e w2 ⟨rfl, rfl⟩)
  go_wp2_with fail
  refine hK.out _ _ (trivial) (fun hHeld => ?_)
  clear hK K
  try simp only [Act.put, sA, sZ, sS]
  refine tk 6 rfl ?_
  generalize w0.drew = w2 at hBd hRd hwd ⊢
  have b6 := hBd.out.cell 6 (.int .u32 0) (by rw [hcs'.out]; rfl)
  have f6 := hBd.out.frozen 6
  have b8 := hBd.out.cell 8 (.int .i64 0) (by rw [hcs'.out]; rfl)
  have f8 := hBd.out.frozen 8
  have hB3 : Hid (a06 ((w2.setCell ⟨w.heap.size, 6, none⟩ (.int .u32 mk)).setCell ⟨w.heap.size, 8, none⟩ (.int .i64 cn)) w.heap.size 76 (La' age 3 lid adv seq Sn mk Sn cn)) := Hi (by have := (hBd.out.set 6 (.int .u32 mk)).set 8 (.int .i64 cn); rw [hcs'.out] at this; exact this)
  have hs3 : Hid (a02 (fun i => i = w.heap.size) w2 ((w2.setCell ⟨w.heap.size, 6, none⟩ (.int .u32 mk)).setCell ⟨w.heap.size, 8, none⟩ (.int .i64 cn))) := Hi (((a02.refl (fun i => i = w.heap.size) _).setCell (p := ⟨w.heap.size, 6, none⟩) (.inl rfl) _).setCell (p := ⟨w.heap.size, 8, none⟩) (.inl rfl) _)
  have hR3 := Hi (hRd.out.keep hs3.out (by omega))
  have hk3 := Hi (hwd.out.trans' hs3.out (fun i e => .inr (by omega)))
  refine sL 8 rfl fun K hK => ?_
  go_simp
  refine hK.out _ _ (trivial) (fun hHeld => ?_)
  clear hK K
  try simp only [Act.put, sA, sZ, sS]
  refine tk 9 rfl ?_
  refine sL 10 rfl fun K hK => ?_
  go_simp
  refine hK.out _ _ (trivial) (fun hHeld => ?_)
  clear hK K
  try simp only [Act.put, sA, sZ, sS]
  refine wpAnyH_done (by kernel_rfl) (NoPanic.normal ?_) _
  clear b6 f6 b8 f8 hHeld
  generalize (w2.setCell ⟨w.heap.size, 6, none⟩ (.int .u32 mk)).setCell ⟨w.heap.size, 8, none⟩ (.int .i64 cn) = w3 at hB3 hs3 hR3 hk3 ⊢
  go_wp2_with (first | ((with_reducible refine a09 39 ?_); refine wpList_load_mid rfl 76 (.tmp 2) rfl w.heap.size 0 rfl (La' age 3 lid adv seq Sn mk Sn cn) _ (a06.rng hB3.out rfl) Try.underlying76 rfl b04 ?_) | ((with_reducible refine a08 4 ?_); refine a05 rfl 76 (.tmp 4) (.tmp 39) rfl (w.heap.size + 1) (La age 3 lid adv seq Sn mk Sn cn) rfl rfl (a06.there hR3.out 0 9 (by rw [hzs'.out]; exact Nat.le_refl 9)) b04 (a0z _ _ _ _ _ _ _ _ _ (a03 _ _ _) (a03 _ _ _)) ?_; intro w9 hr9 hs9))
  have e0 := a01 hr9.out 0 _ rfl
  have e1 := a01 hr9.out 1 _ rfl
  have e2 := a01 hr9.out 2 _ rfl
  have e3 := a01 hr9.out 3 _ rfl
  have e4 := a01 hr9.out 4 _ rfl
  have e5 := a01 hr9.out 5 _ rfl
  have e6 := a01 hr9.out 6 _ rfl
  have e7 := a01 hr9.out 7 _ rfl
  have e8 := a01 hr9.out 8 _ rfl
  refine bodyPost_ret (v := .agg (La age 3 lid adv seq Sn mk Sn cn)) (by simp [results, Try.results75, go_sem, e0, e1, e2, e3, e4, e5, e6, e7, e8]) rfl ⟨⟨_, rfl, ?_⟩, hk3.out.trans' hs9.out (fun i e => .inr (by omega))⟩
  rw [← hM'.out]
  refine LsaF.mk ?_ ?_ ?_ ?_ ?_ ?_
  ·exact rfl
  ·exact rfl
  ·exact b02.nil _
  ·exact a0u.nil _
  ·exact b0n _
  ·exact b0n _
end Go.Proofs.Ytmggbljkehclpaa
