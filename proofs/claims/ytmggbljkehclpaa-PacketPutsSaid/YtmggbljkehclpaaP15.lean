/- PG PH -/
import Derived.Test.YtmggbljkehclpaaP13
import Derived.Test.YtmggbljkehclpaaP14
set_option linter.unusedVariables false
set_option linter.unusedSimpArgs false
namespace Go.Proofs.Ytmggbljkehclpaa
open Go.RowKit
def none7 (a b c d e f g : Bool) : Bool := a && (b && (c && (d && (e && (f && g)))))
theorem p0y (a b c d e f : Bool) : a = false ∨ (a = true ∧ b = false) ∨ (a = true ∧ b = true ∧ c = false) ∨ (a = true ∧ b = true ∧ c = true ∧ d = false) ∨ (a = true ∧ b = true ∧ c = true ∧ d = true ∧ e = false) ∨ (a = true ∧ b = true ∧ c = true ∧ d = true ∧ e = true ∧ f = false) ∨ (a = true ∧ b = true ∧ c = true ∧ d = true ∧ e = true ∧ f = true) := by
 cases a <;> cases b <;> cases c <;> cases d <;> cases e <;> cases f <;> simp
theorem i0e {n : Nat} {z : Bool} (h : decide (n = 0) = z) : ((n : Int) == 0) = z := by rw [h02, h]
set_option maxRecDepth 100000 in
set_option maxHeartbeats 4000000 in
theorem f0a (mask dr bdr : Nat) (interval dead priority : Int) (n : Nat) (pn : Option Addr) (cn : Nat) (z : Bool) (w : World)
 (hz : Hid (none7 (decide (mask = 0)) (decide (interval = 0)) (decide (dead = 0)) (decide (priority = 0)) (decide (dr = 0)) (decide (bdr = 0)) (decide (n = 0)) = z)) :
 Calls Try.prog 61 #[.agg (Ga mask interval dead priority dr bdr (.slice pn n cn))] w (fun e w' => e = .returned (.bool z) ∧ a03 (fun _ => False) w w') := by
 obtain ⟨a, ha⟩ : ∃ a, decide (mask = 0) = a := ⟨_, rfl⟩
 obtain ⟨b, hb⟩ : ∃ a, decide (interval = 0) = a := ⟨_, rfl⟩
 obtain ⟨c, hc⟩ : ∃ a, decide (dead = 0) = a := ⟨_, rfl⟩
 obtain ⟨d, hd⟩ : ∃ a, decide (priority = 0) = a := ⟨_, rfl⟩
 obtain ⟨f, hf⟩ : ∃ a, decide (dr = 0) = a := ⟨_, rfl⟩
 obtain ⟨g, hg⟩ : ∃ a, decide (bdr = 0) = a := ⟨_, rfl⟩
 obtain ⟨i, hi⟩ : ∃ a, decide (n = 0) = a := ⟨_, rfl⟩
 rw [ha, hb, hc, hd, hf, hg, hi] at hz
 have ha' := i0e ha
 have hb' := k0c hb
 have hc' := k0c hc
 have hd' := k0c hd
 have hf' := i0e hf
 have hg' := i0e hg
 have hi' := i0e hi
 clear ha hb hc hd hf hg hi
 rcases p0y a b c d f g with rfl | ⟨rfl, rfl⟩ | ⟨rfl, rfl, rfl⟩ | ⟨rfl, rfl, rfl, rfl⟩ | ⟨rfl, rfl, rfl, rfl, rfl⟩ | ⟨rfl, rfl, rfl, rfl, rfl, rfl⟩ | ⟨rfl, rfl, rfl, rfl, rfl, rfl⟩
 all_goals
  go_enter Try.func61, Try.ntmps61
  go_wp2
  go_ret
  exact ⟨by rw [← hz.out]; rfl, (a03.refl _ _).alloc _⟩
theorem b06 {a b : Bool} (h : a = b) : Ending.returned (.bool a) = .returned (.bool b) := by rw [h]
theorem l0x (n : Nat) : decide ((n : Int) ≤ 20) = decide (n ≤ 20) := by rw [decide_eq_decide]; omega
theorem o08 (n : Nat) : decide ((0 : Int) < (n : Int)) = decide (0 < n) := by rw [decide_eq_decide]; omega
def j03 (interval dead priority : Int) (n : Nat) : Bool := a0e interval 1 65535 && (a0e dead 1 65535 && (a0e priority 0 255 && decide (n ≤ 20)))
set_option maxRecDepth 100000 in
set_option maxHeartbeats 4000000 in
theorem m0w (mask dr bdr : Nat) (interval dead priority : Int) (n : Nat) (pn : Option Addr) (cn : Nat) (z : Bool) (w : World) (hz : Hid (j03 interval dead priority n = z)) :
 Calls Try.prog 39 #[.agg (Ga mask interval dead priority dr bdr (.slice pn n cn))] w (fun e w' => e = .returned (.bool z) ∧ a03 (fun _ => False) w w') := by
 obtain ⟨a, ha⟩ : ∃ a, a0e interval 1 65535 = a := ⟨_, rfl⟩
 obtain ⟨b, hb⟩ : ∃ a, a0e dead 1 65535 = a := ⟨_, rfl⟩
 obtain ⟨c, hc⟩ : ∃ a, a0e priority 0 255 = a := ⟨_, rfl⟩
 unfold j03 at hz
 rw [ha, hb, hc] at hz
 have ha' := Hi ha; have hb' := Hi hb; have hc' := Hi hc
 clear ha hb hc
 have hkk : Hid (a03 (fun _ => False) w (w.alloc (.cells (Ga mask interval dead priority dr bdr (.slice pn n cn)) 35))) := Hi ((a03.refl _ _).alloc _)
 go_enter Try.func39, Try.ntmps39
 go_wp2_with fail
 refine (b0t _ _ _ a _ ha').mono ?_
 rintro e w' ⟨rfl, rfl⟩
 cases a with
 | false =>
  go_wp2_with fail
  go_ret
  exact ⟨by rw [← hz.out]; rfl, hkk.out⟩
 | true =>
 go_wp2_with fail
 refine (b0t _ _ _ b _ hb').mono ?_
 rintro e w' ⟨rfl, rfl⟩
 cases b with
 | false =>
  go_wp2_with fail
  go_ret
  exact ⟨by rw [← hz.out]; rfl, hkk.out⟩
 | true =>
 go_wp2_with fail
 refine (b0t _ _ _ c _ hc').mono ?_
 rintro e w' ⟨rfl, rfl⟩
 cases c with
 | false =>
  go_wp2_with fail
  go_ret
  exact ⟨by rw [← hz.out]; rfl, hkk.out⟩
 | true =>
 go_wp2_with fail
 go_ret
 exact ⟨b06 ((l0x _).trans hz.out), hkk.out⟩
theorem o0f {a b : Int} {z : Bool} (h : decide (a = b) = z) : (a != b) = !z := by rw [bne, k0c h]
theorem j0p {n : Nat} {z : Bool} (h : decide (n = 0) = z) : ((n : Int) != 0) = !z := by rw [bne, i0e h]
theorem i0m {p : Prop} [Decidable p] {z : Bool} (h : decide p = z) : z = true → p := fun e => by rw [e] at h; exact of_decide_eq_true h
theorem g0y {p : Prop} [Decidable p] {z : Bool} (h : decide p = z) : z = false → ¬ p := fun e => by rw [e] at h; exact of_decide_eq_false h
set_option maxRecDepth 100000 in
theorem i0v (s : ByteArray) (c : UInt8) (w : World) :
 Calls Try.prog 62 #[.string s, .int .u8 (c.toNat : Nat)] w fun e w' => e = .returned (.int .i64 (Lib.indexByte s.data.toList c)) ∧ w = w' := by
 have hc : ((c.toNat : Nat) : Int).toNat.toUInt8 = c := by simp
 have hc' := Hi hc; clear hc
 go_enter Try.func62, Try.ntmps62
 go_wp2
 rw [run_callFunc_extern Try.func70 (by kernel_rfl) (by kernel_rfl) (by kernel_rfl) (e := Extern.BytealgIndexByte.indexByte) (by kernel_rfl), Lib.run_indexByteString, hc'.out]
 simp only [Result.andThen]
 rw [Oper.upon_value]
 go_wp2
 go_ret
 exact ⟨rfl, rfl⟩
set_option maxRecDepth 100000 in
theorem f01 (s : ByteArray) (r : Int) (w : World) (hr : Hid (Lib.indexByte s.data.toList 0 = r)) :
 Calls Try.prog 40 #[.string s, .int .u8 0] w fun e w' => e = .returned (.int .i64 r) ∧ w = w' := by
 rw [← hr.out]
 go_enter Try.func40, Try.ntmps40
 go_wp2_with fail
 refine (i0v s 0 _).mono ?_
 rintro e w' ⟨rfl, rfl⟩
 go_wp2_with fail
 go_ret
 exact ⟨rfl, rfl⟩
theorem m02 (l : List UInt8) (c : UInt8) : decide (Lib.indexByte l c < 0) = !l.any (· == c) ∧ -1 ≤ Lib.indexByte l c := by
 induction l with
 | nil => simp [Lib.indexByte]
 | cons b l ih =>
  unfold Lib.indexByte
  by_cases h : b = c
  ·subst h; simp
  ·have h1 : (b == c) = false := by simpa using h
   rw [h1, List.any_cons, h1, Bool.false_or, ← ih.1]
   by_cases hm : Lib.indexByte l c = -1
   ·rw [hm]; simp
   ·have h2 : (Lib.indexByte l c == -1) = false := by rw [beq_eq_false_iff_ne]; exact hm
    have := ih.2
    simp only [h2]
    refine ⟨?_, by simp; omega⟩
    simp; omega
set_option maxRecDepth 100000 in
set_option maxHeartbeats 8000000 in
theorem j0k (p : a0m) (pn ph pk pl : Option Addr) (cn ch ck cl : Nat) (cs : List Value) (z : Bool) (w : World)
 (hcs : Hid (cs = a0w p (.slice pn p.nbs.length cn) (.slice ph p.heads.length ch) (.slice pk p.keys.length ck) (.slice pl p.lsas.length cl))) (ht1 : 1 ≤ p.type) (ht2 : p.type ≤ 5) (hz : Hid (e0k p = z)) :
 Calls Try.prog 38 #[.agg cs.toArray] w (fun e w' => e = .returned (.bool z) ∧ a03 (fun _ => False) w w') := by
 have hBx : Hid (c02 w.heap.size cs (w.alloc (.cells cs.toArray 40)) (w.alloc (.cells cs.toArray 40))) := Hi (c0s w cs _)
 have hwB : Hid (a03 (fun _ => False) w (w.alloc (.cells cs.toArray 40))) := Hi ((a03.refl _ _).alloc _)
 obtain ⟨type, router, area, auth, mask, interval, dead, priority, dr, bdr, nbs, flags, seq, heads, keys, lsas⟩ := p
 simp only at *
 have hzz := hz.out
 unfold e0k at hzz
 simp only at hzz
 obtain ⟨n, hn⟩ : ∃ n, g0m ⟨type, router, area, auth, mask, interval, dead, priority, dr, bdr, nbs, flags, seq, heads, keys, lsas⟩ = n := ⟨_, rfl⟩
 obtain ⟨f, hf⟩ : ∃ n, decide (flags = 0) = n := ⟨_, rfl⟩
 obtain ⟨s, hs⟩ : ∃ n, decide (seq = 0) = n := ⟨_, rfl⟩
 obtain ⟨h, hh⟩ : ∃ n, decide (0 < heads.length) = n := ⟨_, rfl⟩
 obtain ⟨k, hk⟩ : ∃ n, decide (0 < keys.length) = n := ⟨_, rfl⟩
 obtain ⟨l, hl⟩ : ∃ n, decide (0 < lsas.length) = n := ⟨_, rfl⟩
 rw [hn, hf, hs, hh, hk, hl] at hzz
 have hn' := Hi hn
 have f1 := o0f hf
 have s1 := j0p hs
 have h1 := i0m hh; have h2 := g0y hh
 have k1 := i0m hk; have k2 := g0y hk
 have lB := Hi hl; have kB := Hi hk
 clear hn hf hs hh hk hl hz
 have l0 := Hi (show cs[0]? = some (.int .i64 type) by rw [hcs.out]; rfl)
 have l11 := Hi (show cs[11]? = some (.int .i64 flags) by rw [hcs.out]; rfl)
 have l12 := Hi (show cs[12]? = some (.int .u32 seq) by rw [hcs.out]; rfl)
 have l13 := Hi (show cs[13]? = some (.slice ph heads.length ch) by rw [hcs.out]; rfl)
 have l14 := Hi (show cs[14]? = some (.slice pk keys.length ck) by rw [hcs.out]; rfl)
 have l15 := Hi (show cs[15]? = some (.slice pl lsas.length cl) by rw [hcs.out]; rfl)
 have hgl : Hid ((cs.drop 4).take 7 = (Ga' mask interval dead priority dr bdr (.slice pn nbs.length cn))) := Hi (by rw [hcs.out]; rfl)
 clear hcs
 have ht : type = 1 ∨ type = 2 ∨ type = 3 ∨ type = 4 ∨ type = 5 := by omega
 clear ht1 ht2
 rcases ht with rfl | rfl | rfl | rfl | rfl
 ·have hz1 : Hid (((!f || !s) || (h || (k || l))) = z) := Hi hzz
  clear hzz
  go_enter Try.func38, Try.ntmps38
  go_upto_region 1 with fail
  generalize w.alloc (.cells cs.toArray 40) = wB at hBx hwB ⊢
  have b0 := hBx.out.cell 0 _ l0.out
  have b11 := hBx.out.cell 11 _ l11.out
  have b12 := hBx.out.cell 12 _ l12.out
  have b13 := hBx.out.cell 13 _ l13.out
  have b14 := hBx.out.cell 14 _ l14.out
  have b15 := hBx.out.cell 15 _ l15.out
  have hkk := Hi hwB.out
  cases f with
  | false =>
   go_wp2_with fail
   go_ret
   exact ⟨by rw [← hz1.out]; rfl, hkk.out⟩
  | true =>
   cases s with
   | false =>
    go_wp2_with fail
    go_ret
    exact ⟨by rw [← hz1.out]; rfl, hkk.out⟩
   | true =>
    cases h with
    | true =>
     have h0 := h1 rfl
     go_wp2_with fail
     go_ret
     exact ⟨by rw [← hz1.out]; rfl, hkk.out⟩
    | false =>
     have h0 := h2 rfl
     cases k with
     | true =>
      have k0 := k1 rfl
      go_wp2_with fail
      go_ret
      exact ⟨by rw [← hz1.out]; rfl, hkk.out⟩
     | false =>
      have k0 := k2 rfl
      go_wp2_with fail
      go_ret
      exact ⟨b06 (lB.out.trans hz1.out), hkk.out⟩
 ·have hz1 : Hid ((!n || (k || l)) = z) := Hi hzz
  clear hzz
  go_enter Try.func38, Try.ntmps38
  go_upto_region 1 with fail
  generalize w.alloc (.cells cs.toArray 40) = wB at hBx hwB ⊢
  have b0 := hBx.out.cell 0 _ l0.out
  have hgr := Hi (c0c hBx.out.r 4 7 hgl.out)
  go_wp2_with ((with_reducible refine a0a 8 ?_); refine b0s (by rfl) 35 (.tmp 7) rfl w.heap.size 4 rfl _ _ hgr.out Try.underlying35 rfl e02 ?_)
  refine (f0a mask dr bdr interval dead priority nbs.length pn cn n _ hn').mono ?_
  rintro e w2 ⟨rfl, kk2⟩
  have hB2 := Hi (hBx.out.next kk2)
  have hkk := Hi (hwB.out.trans kk2)
  clear kk2 b0 hgr hBx
  have b0 := hB2.out.cell 0 _ l0.out
  have b11 := hB2.out.cell 11 _ l11.out
  have b12 := hB2.out.cell 12 _ l12.out
  have b13 := hB2.out.cell 13 _ l13.out
  have b14 := hB2.out.cell 14 _ l14.out
  have b15 := hB2.out.cell 15 _ l15.out
  cases n with
  | false =>
   go_wp2_with fail
   go_ret
   exact ⟨by rw [← hz1.out]; rfl, hkk.out⟩
  | true =>
   cases k with
   | true =>
    have k0 := k1 rfl
    go_wp2_with fail
    go_ret
    exact ⟨by rw [← hz1.out]; rfl, hkk.out⟩
   | false =>
    have k0 := k2 rfl
    go_wp2_with fail
    go_ret
    exact ⟨b06 (lB.out.trans hz1.out), hkk.out⟩
 ·have hz1 : Hid ((!n || ((!f || !s) || (h || l))) = z) := Hi hzz
  clear hzz
  go_enter Try.func38, Try.ntmps38
  go_upto_region 1 with fail
  generalize w.alloc (.cells cs.toArray 40) = wB at hBx hwB ⊢
  have b0 := hBx.out.cell 0 _ l0.out
  have hgr := Hi (c0c hBx.out.r 4 7 hgl.out)
  go_wp2_with ((with_reducible refine a0a 8 ?_); refine b0s (by rfl) 35 (.tmp 7) rfl w.heap.size 4 rfl _ _ hgr.out Try.underlying35 rfl e02 ?_)
  refine (f0a mask dr bdr interval dead priority nbs.length pn cn n _ hn').mono ?_
  rintro e w2 ⟨rfl, kk2⟩
  have hB2 := Hi (hBx.out.next kk2)
  have hkk := Hi (hwB.out.trans kk2)
  clear kk2 b0 hgr hBx
  have b0 := hB2.out.cell 0 _ l0.out
  have b11 := hB2.out.cell 11 _ l11.out
  have b12 := hB2.out.cell 12 _ l12.out
  have b13 := hB2.out.cell 13 _ l13.out
  have b14 := hB2.out.cell 14 _ l14.out
  have b15 := hB2.out.cell 15 _ l15.out
  cases n with
  | false =>
   go_wp2_with fail
   go_ret
   exact ⟨by rw [← hz1.out]; rfl, hkk.out⟩
  | true =>
   cases f with
   | false =>
    go_wp2_with fail
    go_ret
    exact ⟨by rw [← hz1.out]; rfl, hkk.out⟩
   | true =>
    cases s with
    | false =>
     go_wp2_with fail
     go_ret
     exact ⟨by rw [← hz1.out]; rfl, hkk.out⟩
    | true =>
     cases h with
     | true =>
      have h0 := h1 rfl
      go_wp2_with fail
      go_ret
      exact ⟨by rw [← hz1.out]; rfl, hkk.out⟩
     | false =>
      have h0 := h2 rfl
      go_wp2_with fail
      go_ret
      exact ⟨b06 (lB.out.trans hz1.out), hkk.out⟩
 ·have hz1 : Hid ((!n || ((!f || !s) || (h || (k || (false && l))))) = z) := Hi hzz
  clear hzz
  go_enter Try.func38, Try.ntmps38
  go_upto_region 1 with fail
  generalize w.alloc (.cells cs.toArray 40) = wB at hBx hwB ⊢
  have b0 := hBx.out.cell 0 _ l0.out
  have hgr := Hi (c0c hBx.out.r 4 7 hgl.out)
  go_wp2_with ((with_reducible refine a0a 8 ?_); refine b0s (by rfl) 35 (.tmp 7) rfl w.heap.size 4 rfl _ _ hgr.out Try.underlying35 rfl e02 ?_)
  refine (f0a mask dr bdr interval dead priority nbs.length pn cn n _ hn').mono ?_
  rintro e w2 ⟨rfl, kk2⟩
  have hB2 := Hi (hBx.out.next kk2)
  have hkk := Hi (hwB.out.trans kk2)
  clear kk2 b0 hgr hBx
  have b0 := hB2.out.cell 0 _ l0.out
  have b11 := hB2.out.cell 11 _ l11.out
  have b12 := hB2.out.cell 12 _ l12.out
  have b13 := hB2.out.cell 13 _ l13.out
  have b14 := hB2.out.cell 14 _ l14.out
  have b15 := hB2.out.cell 15 _ l15.out
  cases n with
  | false =>
   go_wp2_with fail
   go_ret
   exact ⟨by rw [← hz1.out]; rfl, hkk.out⟩
  | true =>
   cases f with
   | false =>
    go_wp2_with fail
    go_ret
    exact ⟨by rw [← hz1.out]; rfl, hkk.out⟩
   | true =>
    cases s with
    | false =>
     go_wp2_with fail
     go_ret
     exact ⟨by rw [← hz1.out]; rfl, hkk.out⟩
    | true =>
     cases h with
     | true =>
      have h0 := h1 rfl
      go_wp2_with fail
      go_ret
      exact ⟨by rw [← hz1.out]; rfl, hkk.out⟩
     | false =>
      have h0 := h2 rfl
      cases k with
      | true =>
       have k0 := k1 rfl
       go_wp2_with fail
       go_ret
       exact ⟨by rw [← hz1.out]; rfl, hkk.out⟩
      | false =>
       have k0 := k2 rfl
       go_wp2_with fail
       go_ret
       exact ⟨by rw [← hz1.out]; rfl, hkk.out⟩
 ·have hz1 : Hid ((!n || ((!f || !s) || (k || l))) = z) := Hi hzz
  clear hzz
  go_enter Try.func38, Try.ntmps38
  go_upto_region 1 with fail
  generalize w.alloc (.cells cs.toArray 40) = wB at hBx hwB ⊢
  have b0 := hBx.out.cell 0 _ l0.out
  have hgr := Hi (c0c hBx.out.r 4 7 hgl.out)
  go_wp2_with ((with_reducible refine a0a 8 ?_); refine b0s (by rfl) 35 (.tmp 7) rfl w.heap.size 4 rfl _ _ hgr.out Try.underlying35 rfl e02 ?_)
  refine (f0a mask dr bdr interval dead priority nbs.length pn cn n _ hn').mono ?_
  rintro e w2 ⟨rfl, kk2⟩
  have hB2 := Hi (hBx.out.next kk2)
  have hkk := Hi (hwB.out.trans kk2)
  clear kk2 b0 hgr hBx
  have b0 := hB2.out.cell 0 _ l0.out
  have b11 := hB2.out.cell 11 _ l11.out
  have b12 := hB2.out.cell 12 _ l12.out
  have b13 := hB2.out.cell 13 _ l13.out
  have b14 := hB2.out.cell 14 _ l14.out
  have b15 := hB2.out.cell 15 _ l15.out
  cases n with
  | false =>
   go_wp2_with fail
   go_ret
   exact ⟨by rw [← hz1.out]; rfl, hkk.out⟩
  | true =>
   cases f with
   | false =>
    go_wp2_with fail
    go_ret
    exact ⟨by rw [← hz1.out]; rfl, hkk.out⟩
   | true =>
    cases s with
    | false =>
     go_wp2_with fail
     go_ret
     exact ⟨by rw [← hz1.out]; rfl, hkk.out⟩
    | true =>
     cases k with
     | true =>
      have k0 := k1 rfl
      go_wp2_with fail
      go_ret
      exact ⟨by rw [← hz1.out]; rfl, hkk.out⟩
     | false =>
      have k0 := k2 rfl
      go_wp2_with fail
      go_ret
      exact ⟨b06 (lB.out.trans hz1.out), hkk.out⟩
theorem j05 (p : a0m) : canP p = (a0e p.type 1 5 && (!e0k p && ((!decide (p.type = 1) || j03 p.interval p.dead p.priority p.nbs.length) && ((decide (p.auth.length ≤ 8) && !p.auth.any (· == 0)) && (a0e p.flags 0 7 && (decide (p.heads.length ≤ 20) && (!p.heads.any b0e && (decide (p.keys.length ≤ 20) && (!p.keys.any b0n && decide (p.lsas.length ≤ 20)))))))))) := rfl
set_option maxRecDepth 100000 in
set_option maxHeartbeats 8000000 in
theorem o03 (p : a0m) (pn ph pk pl : Option Addr) (cn ch ck cl : Nat) (cs : List Value) (z : Bool) (w : World)
 (hcs : Hid (cs = a0w p (.slice pn p.nbs.length cn) (.slice ph p.heads.length ch) (.slice pk p.keys.length ck) (.slice pl p.lsas.length cl))) (hin : Hid (d0f w p (.slice pn p.nbs.length cn) (.slice ph p.heads.length ch) (.slice pk p.keys.length ck) (.slice pl p.lsas.length cl)))
 (hhl : p.heads.length ≤ 9223372036854775807) (hkl : p.keys.length ≤ 9223372036854775807) (hz : Hid (canP p = z)) :
 Calls Try.prog 15 #[.agg cs.toArray] w (fun e w' => e = .returned (.bool z) ∧ a03 (fun _ => False) w w') := by
 have hBx : Hid (c02 w.heap.size cs (w.alloc (.cells cs.toArray 40)) (w.alloc (.cells cs.toArray 40))) := Hi (c0s w cs _)
 have hwB : Hid (a03 (fun _ => False) w (w.alloc (.cells cs.toArray 40))) := Hi ((a03.refl _ _).alloc _)
 have hcl : Hid (some 16 = some cs.length) := Hi (by rw [hcs.out]; rfl)
 have hcinf : Hid ((Try.prog.info? 40).map (·.size) = some cs.length) := Hi (by rw [a0n]; exact hcl.out)
 have hhd := Hi hin.out.h; have hky := Hi hin.out.k
 have hzz := hz.out
 rw [j05] at hzz
 obtain ⟨a, ha⟩ : ∃ n, a0e p.type 1 5 = n := ⟨_, rfl⟩
 obtain ⟨o, ho⟩ : ∃ n, e0k p = n := ⟨_, rfl⟩
 obtain ⟨t, hT⟩ : ∃ n, decide (p.type = 1) = n := ⟨_, rfl⟩
 obtain ⟨gr, hgr⟩ : ∃ n, j03 p.interval p.dead p.priority p.nbs.length = n := ⟨_, rfl⟩
 obtain ⟨e8, he8⟩ : ∃ n, decide (p.auth.length ≤ 8) = n := ⟨_, rfl⟩
 obtain ⟨nu, hnu⟩ : ∃ n, p.auth.any (· == 0) = n := ⟨_, rfl⟩
 obtain ⟨fl, hfl⟩ : ∃ n, a0e p.flags 0 7 = n := ⟨_, rfl⟩
 obtain ⟨h20, hh20⟩ : ∃ n, decide (p.heads.length ≤ 20) = n := ⟨_, rfl⟩
 obtain ⟨xh, hxh⟩ : ∃ n, p.heads.any b0e = n := ⟨_, rfl⟩
 obtain ⟨k20, hk20⟩ : ∃ n, decide (p.keys.length ≤ 20) = n := ⟨_, rfl⟩
 obtain ⟨xk, hxk⟩ : ∃ n, p.keys.any b0n = n := ⟨_, rfl⟩
 obtain ⟨l20, hl20⟩ : ∃ n, decide (p.lsas.length ≤ 20) = n := ⟨_, rfl⟩
 rw [ha, ho, hT, hgr, he8, hnu, hfl, hh20, hxh, hk20, hxk, hl20] at hzz
 have hz1 := Hi hzz
 have ha' := Hi ha; have ho' := Hi ho; have hgr' := Hi hgr; have hfl' := Hi hfl; have hxh' := Hi hxh; have hxk' := Hi hxk
 have t1 := k0c hT
 have e81 := i0m he8; have e82 := g0y he8
 have hh1 := i0m hh20; have hh2 := g0y hh20
 have hk1 := i0m hk20; have hk2 := g0y hk20
 have hlB := Hi hl20
 have hrange : a0e p.type 1 5 = true → 1 ≤ p.type ∧ p.type ≤ 5 := fun h => by unfold a0e at h; simpa using h
 rw [ha] at hrange
 obtain ⟨S, hS⟩ : ∃ S : ByteArray, S = ⟨p.auth.toArray⟩ := ⟨_, rfl⟩
 have hSl : S.size = p.auth.length := by rw [hS]; exact List.size_toArray ..
 obtain ⟨r, hr⟩ : ∃ r, Lib.indexByte S.data.toList 0 = r := ⟨_, rfl⟩
 have hr0 : decide (r < 0) = !nu := by rw [← hr, (m02 _ _).1, hS, ← hnu]
 have hr' := Hi hr
 have l3 := Hi (show cs[3]? = some (.string S) by rw [hcs.out, hS]; rfl)
 clear hzz ha ho hT hgr he8 hnu hfl hh20 hxh hk20 hxk hl20 hz hr hS hcl
 have l0 := Hi (show cs[0]? = some (.int .i64 p.type) by rw [hcs.out]; rfl)
 have l11 := Hi (show cs[11]? = some (.int .i64 p.flags) by rw [hcs.out]; rfl)
 have l13 := Hi (show cs[13]? = some (.slice ph p.heads.length ch) by rw [hcs.out]; rfl)
 have l14 := Hi (show cs[14]? = some (.slice pk p.keys.length ck) by rw [hcs.out]; rfl)
 have l15 := Hi (show cs[15]? = some (.slice pl p.lsas.length cl) by rw [hcs.out]; rfl)
 have hgl : Hid ((cs.drop 4).take 7 = (Ga' p.mask p.interval p.dead p.priority p.dr p.bdr (.slice pn p.nbs.length cn))) := Hi (by rw [hcs.out]; rfl)
 go_enter Try.func15, Try.ntmps15
 go_upto_region 1 with fail
 generalize w.alloc (.cells cs.toArray 40) = wB at hBx hwB ⊢
 have b0 := hBx.out.cell 0 _ l0.out
 go_wp2_with fail
 refine (b0t _ _ _ a _ ha').mono ?_
 rintro e w' ⟨rfl, rfl⟩
 cases a with
 | false =>
  go_wp2_with fail
  go_ret
  exact ⟨by rw [← hz1.out]; rfl, hwB.out⟩
 | true =>
 obtain ⟨ht1, ht2⟩ := hrange rfl
 go_wp2_with ((with_reducible refine a0a 8 ?_); refine b0s (by rfl) 40 (.tmp 1) rfl w.heap.size 0 rfl cs _ hBx.out.r Try.underlying40 rfl hcinf.out ?_)
 refine (j0k p pn ph pk pl cn ch ck cl cs o _ hcs ht1 ht2 ho').mono ?_
 rintro e w2 ⟨rfl, k2⟩
 have hB2 := Hi (hBx.out.next k2)
 have hw2 := Hi (hwB.out.trans k2)
 clear k2 b0 hBx hwB
 cases o with
 | true =>
  go_wp2_with fail
  go_ret
  exact ⟨by rw [← hz1.out]; rfl, hw2.out⟩
 | false =>
 have b0 := hB2.out.cell 0 _ l0.out
 cases t with
 | true =>
  have hgg := Hi (c0c hB2.out.r 4 7 hgl.out)
  go_wp2_with ((with_reducible refine a0a 16 ?_); refine b0s (by rfl) 35 (.tmp 15) rfl w.heap.size 4 rfl _ _ hgg.out Try.underlying35 rfl e02 ?_)
  refine (m0w p.mask p.dr p.bdr p.interval p.dead p.priority p.nbs.length pn cn gr _ hgr').mono ?_
  rintro e w3 ⟨rfl, k3⟩
  have hB3 := Hi (hB2.out.next k3)
  have hw3 := Hi (hw2.out.trans k3)
  clear k3 b0 hB2 hw2 hgg
  cases gr with
  | false =>
   go_wp2_with fail
   go_ret
   exact ⟨by rw [← hz1.out]; rfl, hw3.out⟩
  | true =>
   have b3 := hB3.out.cell 3 _ l3.out
   have b11 := hB3.out.cell 11 _ l11.out
   have b13 := hB3.out.cell 13 _ l13.out
   cases e8 with
   | false =>
    have e0 := e82 rfl
    go_wp2_with fail
    go_ret
    exact ⟨by rw [← hz1.out]; rfl, hw3.out⟩
   | true =>
   have e0 := e81 rfl
   go_wp2_with fail
   refine (f01 S r _ hr').mono ?_
   rintro e w' ⟨rfl, rfl⟩
   cases nu with
   | true =>
    have r0 : ¬ r < 0 := of_decide_eq_false hr0
    go_wp2_with fail
    go_ret
    exact ⟨by rw [← hz1.out]; rfl, hw3.out⟩
   | false =>
   have r0 : r < 0 := of_decide_eq_true hr0
   go_wp2_with fail
   refine (b0t _ _ _ fl _ hfl').mono ?_
   rintro e w' ⟨rfl, rfl⟩
   cases fl with
   | false =>
    go_wp2_with fail
    go_ret
    exact ⟨by rw [← hz1.out]; rfl, hw3.out⟩
   | true =>
   cases h20 with
   | false =>
    have q0 := hh2 rfl
    go_wp2_with fail
    go_ret
    exact ⟨by rw [← hz1.out]; rfl, hw3.out⟩
   | true =>
   have q0 := hh1 rfl
   go_wp2_with fail
   refine (i06 _ p.heads hhl xh _ (Hi (a0s.keep hhd.out hw3.out)) hxh').mono ?_
   rintro e w4 ⟨rfl, k4⟩
   have hB4 := Hi (hB3.out.next k4)
   have hw4 := Hi (hw3.out.trans k4)
   clear k4 b3 b11 b13
   cases xh with
   | true =>
    go_wp2_with fail
    go_ret
    exact ⟨by rw [← hz1.out]; rfl, hw4.out⟩
   | false =>
   have b14 := hB4.out.cell 14 _ l14.out
   cases k20 with
   | false =>
    have q1 := hk2 rfl
    go_wp2_with fail
    go_ret
    exact ⟨by rw [← hz1.out]; rfl, hw4.out⟩
   | true =>
   have q1 := hk1 rfl
   go_wp2_with fail
   refine (j0a _ p.keys hkl xk _ (Hi (a0s.keep hky.out hw4.out)) hxk').mono ?_
   rintro e w5 ⟨rfl, k5⟩
   have hB5 := Hi (hB4.out.next k5)
   have hw5 := Hi (hw4.out.trans k5)
   clear k5 b14
   cases xk with
   | true =>
    go_wp2_with fail
    go_ret
    exact ⟨by rw [← hz1.out]; rfl, hw5.out⟩
   | false =>
   have b15 := hB5.out.cell 15 _ l15.out
   go_wp2_with fail
   go_ret
   exact ⟨b06 ((l0x _).trans (hlB.out.trans hz1.out)), hw5.out⟩
 | false =>
  have hB3 := hB2
  have hw3 := hw2
  clear hB2 hw2
  have b3 := hB3.out.cell 3 _ l3.out
  have b11 := hB3.out.cell 11 _ l11.out
  have b13 := hB3.out.cell 13 _ l13.out
  cases e8 with
  | false =>
   have e0 := e82 rfl
   go_wp2_with fail
   go_ret
   exact ⟨by rw [← hz1.out]; rfl, hw3.out⟩
  | true =>
  have e0 := e81 rfl
  go_wp2_with fail
  refine (f01 S r _ hr').mono ?_
  rintro e w' ⟨rfl, rfl⟩
  cases nu with
  | true =>
   have r0 : ¬ r < 0 := of_decide_eq_false hr0
   go_wp2_with fail
   go_ret
   exact ⟨by rw [← hz1.out]; rfl, hw3.out⟩
  | false =>
  have r0 : r < 0 := of_decide_eq_true hr0
  go_wp2_with fail
  refine (b0t _ _ _ fl _ hfl').mono ?_
  rintro e w' ⟨rfl, rfl⟩
  cases fl with
  | false =>
   go_wp2_with fail
   go_ret
   exact ⟨by rw [← hz1.out]; rfl, hw3.out⟩
  | true =>
  cases h20 with
  | false =>
   have q0 := hh2 rfl
   go_wp2_with fail
   go_ret
   exact ⟨by rw [← hz1.out]; rfl, hw3.out⟩
  | true =>
  have q0 := hh1 rfl
  go_wp2_with fail
  refine (i06 _ p.heads hhl xh _ (Hi (a0s.keep hhd.out hw3.out)) hxh').mono ?_
  rintro e w4 ⟨rfl, k4⟩
  have hB4 := Hi (hB3.out.next k4)
  have hw4 := Hi (hw3.out.trans k4)
  clear k4 b3 b11 b13
  cases xh with
  | true =>
   go_wp2_with fail
   go_ret
   exact ⟨by rw [← hz1.out]; rfl, hw4.out⟩
  | false =>
  have b14 := hB4.out.cell 14 _ l14.out
  cases k20 with
  | false =>
   have q1 := hk2 rfl
   go_wp2_with fail
   go_ret
   exact ⟨by rw [← hz1.out]; rfl, hw4.out⟩
  | true =>
  have q1 := hk1 rfl
  go_wp2_with fail
  refine (j0a _ p.keys hkl xk _ (Hi (a0s.keep hky.out hw4.out)) hxk').mono ?_
  rintro e w5 ⟨rfl, k5⟩
  have hB5 := Hi (hB4.out.next k5)
  have hw5 := Hi (hw4.out.trans k5)
  clear k5 b14
  cases xk with
  | true =>
   go_wp2_with fail
   go_ret
   exact ⟨by rw [← hz1.out]; rfl, hw5.out⟩
  | false =>
  have b15 := hB5.out.cell 15 _ l15.out
  go_wp2_with fail
  go_ret
  exact ⟨b06 ((l0x _).trans (hlB.out.trans hz1.out)), hw5.out⟩
end Go.Proofs.Ytmggbljkehclpaa
