/- PV -/
import Derived.Test.YtmggbljkehclpaaG20
import Derived.Test.YtmggbljkehclpaaG30
import Derived.Test.YtmggbljkehclpaaG31
set_option linter.unusedVariables false
set_option linter.unusedSimpArgs false
namespace Go.Proofs.Ytmggbljkehclpaa
open Go.RowKit
theorem c0r {b : Bool} (h : b = true) (h2 : b = false) {p : Prop} : p := by rw [h] at h2; cases h2
structure SameG (lo : Nat) (gA gB : List Value) (L : Nat → Bool) (f : Nat → Value) (W : World) : Prop where
 a : L 4 = true → ∃ X, f 5 = .pointer (some ⟨X, 0, none⟩) ∧ lo ≤ X ∧ (L 6 = false → a06 W X 25 (Ga' 0 0 0 0 0 0 Sn))
 b : L 5 = true → ∃ Y, f 6 = .pointer (some ⟨Y, 0, none⟩) ∧ lo ≤ Y ∧ (L 7 = false → a06 W Y 25 (Ga' 0 0 0 0 0 0 Sn))
 c : L 4 = true → L 5 = true → f 5 ≠ f 6
 d : L 6 = true → L 4 = true ∧ L 5 = true ∧ ∃ X, f 5 = .pointer (some ⟨X, 0, none⟩) ∧ lo ≤ X ∧ W.rangeAt X 0 gA
 e : L 7 = true → L 6 = true ∧ ∃ Y, f 6 = .pointer (some ⟨Y, 0, none⟩) ∧ lo ≤ Y ∧ W.rangeAt Y 0 gB
set_option maxRecDepth 100000 in
set_option maxHeartbeats 8000000 in
theorem i0f (P : a0x) (p0 p1 p2 p3 q0 q1 q2 q3 : Option Addr) (c0 c1 c2 c3 d0 d1 d2 d3 : Nat) (cs ds : List Value) (w : World)
 (hcs : Hid (cs = b05 P (.slice p0 P.nbs.length c0) (.slice p1 P.heads.length c1) (.slice p2 P.keys.length c2) (.slice p3 P.lsas.length c3)))
 (hds : Hid (ds = b05 P (.slice q0 P.nbs.length d0) (.slice q1 P.heads.length d1) (.slice q2 P.keys.length d2) (.slice q3 P.lsas.length d3)))
 (hin : Hid (e04 w P (.slice p0 P.nbs.length c0) (.slice p1 P.heads.length c1) (.slice p2 P.keys.length c2) (.slice p3 P.lsas.length c3)))
 (hin2 : Hid (e04 w P (.slice q0 P.nbs.length d0) (.slice q1 P.heads.length d1) (.slice q2 P.keys.length d2) (.slice q3 P.lsas.length d3))) (hok : Hid P.ok) :
 Calls Try.prog 12 #[.agg cs.toArray, .agg ds.toArray] w (fun e w' => e = .returned (.bool true) ∧ a02 (fun _ => False) w w') := by
 have hA : Hid (a06 ((w.alloc (.cells cs.toArray 30)).alloc (.cells ds.toArray 30)) w.heap.size 30 cs) := Hi ((a06.new w _ _).alloc _)
 have hB : Hid (a06 ((w.alloc (.cells cs.toArray 30)).alloc (.cells ds.toArray 30)) (w.heap.size + 1) 30 ds) := Hi (by
  have := a06.new (w.alloc (.cells cs.toArray 30)) 30 ds
  rw [show (w.alloc (.cells cs.toArray 30)).heap.size = w.heap.size + 1 by simp] at this
  exact this)
 have hk0 : Hid (a02 (fun _ => False) w ((w.alloc (.cells cs.toArray 30)).alloc (.cells ds.toArray 30))) := Hi (((a02.refl _ _).alloc _).alloc _)
 have hnl := hok.out.nl; have hhl := hok.out.hl; have hkl := hok.out.kl; have hll := hok.out.ll
 obtain ⟨type, router, area, auth, mask, interval, dead, priority, dr, bdr, nbs, flags, seq, heads, keys, lsas⟩ := P
 simp only at *
 obtain ⟨S, hS⟩ : ∃ S : ByteArray, S = ⟨auth.toArray⟩ := ⟨_, rfl⟩
 have hS' := Hi hS
 clear hS
 go_enter Try.func12, Try.ntmps12
 go_upto_region 1 with fail
 generalize (w.alloc (.cells cs.toArray 30)).alloc (.cells ds.toArray 30) = w0 at hA hB hk0 ⊢
 have hg1 := Hi (c07 (l := (Ga' mask interval dead priority dr bdr (.slice p0 nbs.length c0))) hA.out.range 4 7 (by rw [hcs.out]; rfl))
 have hg2 := Hi (c07 (l := (Ga' mask interval dead priority dr bdr (.slice q0 nbs.length d0))) hB.out.range 4 7 (by rw [hds.out]; rfl))
 refine wp_region_noPanic ?_
 refine wp_region_held_drew (S := (fun W => a02 (fun _ => False) w0 W)) (by kernel_rfl) (((a02.refl (fun _ => False) _).drew)) (fun hHeld => ?_)
 refine tk 0 rfl ?_
 refine tkL 1 rfl (yieldsIf_load_mid (by rfl) 25 (.tmp 11) rfl w.heap.size 4 rfl (Ga' mask interval dead priority dr bdr (.slice p0 nbs.length c0)) _ (fun _ s => s.rangeAt hg1.out id) Try.underlying25 rfl b01) ?_
 refine tk 2 rfl ?_
 refine tkL 3 rfl (yieldsIf_load_mid (by rfl) 25 (.tmp 13) rfl (w.heap.size + 1) 4 rfl (Ga' mask interval dead priority dr bdr (.slice q0 nbs.length d0)) _ (fun _ s => s.rangeAt hg2.out id) Try.underlying25 rfl b01) ?_
 refine b0a [5, 6] [4, 5, 6, 7] (fun L f W => SameG w0.heap.size (Ga' mask interval dead priority dr bdr (.slice p0 nbs.length c0)) (Ga' mask interval dead priority dr bdr (.slice q0 nbs.length d0)) L f W) (by kernel_rfl) (by kernel_rfl) (by kernel_rfl) (by kernel_rfl) (Nat.le_of_ble_eq_true (by kernel_rfl)) hHeld
  (fun L f h => { a := fun e => c0r e (h 4 (by decide)), b := fun e => c0r e (h 5 (by decide)), c := fun e => c0r e (h 4 (by decide)), d := fun e => c0r e (h 6 (by decide)), e := fun e => c0r e (h 7 (by decide)) }) ?_ ?_
 ·refine a0v.cons (d := 5) rfl rfl (by decide) ?_ (a0v.cons (d := 6) rfl rfl (by decide) ?_ (a0v.cons0 rfl rfl ?_ (a0v.cons0 rfl rfl ?_ a0v.nil)))
  ·intro L f W hG hS hL hdep K hK
   simp only [a0r, List.foldl_cons, List.foldl_nil, Act.put, sA, sZ, sS] at hK ⊢
   rw [if_pos (by rfl)]
   go_simp
   have hc0 : L 5 = true → Value.pointer (some ⟨W.heap.size, 0, none⟩) ≠ f 6 := fun e e3 => by
    obtain ⟨Y, h1, h2, h3⟩ := hG.b e
    rw [h1] at e3; injection e3 with e3; injection e3 with e3; injection e3 with e3
    by_cases e7 : L 7 = false
    ·have := lt_of_block (h3 e7); omega
    ·exact c0r (hG.d (hG.e (by simpa using e7)).1).1 hL
   have k' : a02 (fun _ => False) W (W.alloc (.cells (Ga 0 0 0 0 0 0 Sn) 25)) := (a02.refl _ _).alloc _
   exact hK.out _ _ (hS.trans k') { a := fun _ => ⟨W.heap.size, rfl, hS.size, fun _ => a06.new W _ (Ga' 0 0 0 0 0 0 Sn)⟩, b := fun e => by obtain ⟨Y, h1, h2, h3⟩ := hG.b e; exact ⟨Y, h1, h2, fun e2 => (h3 e2).keep k' id⟩, c := fun _ e => hc0 e, d := fun e => c0r (hG.d e).1 hL, e := fun e => c0r (hG.d (hG.e e).1).1 hL }
  ·intro L f W hG hS hL hdep K hK
   simp only [a0r, List.foldl_cons, List.foldl_nil, Act.put, sA, sZ, sS] at hK ⊢
   rw [if_pos (by rfl)]
   go_simp
   have hc0 : L 4 = true → f 5 ≠ Value.pointer (some ⟨W.heap.size, 0, none⟩) := fun e e3 => by
    obtain ⟨Y, h1, h2, h3⟩ := hG.a e
    rw [h1] at e3; injection e3 with e3; injection e3 with e3; injection e3 with e3
    by_cases e6 : L 6 = false
    ·have := lt_of_block (h3 e6); omega
    ·exact c0r (hG.d (by simpa using e6)).2.1 hL
   have k' : a02 (fun _ => False) W (W.alloc (.cells (Ga 0 0 0 0 0 0 Sn) 25)) := (a02.refl _ _).alloc _
   exact hK.out _ _ (hS.trans k') { a := fun e => by obtain ⟨Y, h1, h2, h3⟩ := hG.a e; exact ⟨Y, h1, h2, fun e2 => (h3 e2).keep k' id⟩, b := fun _ => ⟨W.heap.size, rfl, hS.size, fun _ => a06.new W _ (Ga' 0 0 0 0 0 0 Sn)⟩, c := fun e _ => hc0 e, d := fun e => c0r (hG.d e).2.1 hL, e := fun e => c0r (hG.d (hG.e e).1).2.1 hL }
  ·intro L f W hG hS hL hdep K hK
   simp only [a0r, List.foldl_cons, List.foldl_nil, Act.put, sA, sZ, sS] at hK ⊢
   rw [if_pos (by rfl)]
   have d4 := hdep ⟨4, .data⟩ (by simp) rfl (by decide)
   have d5 := hdep ⟨5, .phase⟩ (by simp) rfl (by decide)
   obtain ⟨X, h1, h2, h3⟩ := hG.a d4
   have hne := hG.c d4 d5
   refine wp_store_mid 25 (.tmp 5) (.tmp 12) rfl X 0 (Ga mask interval dead priority dr bdr (.slice p0 nbs.length c0)) h1 rfl ((h3 hL).there 0 7 (Nat.le_refl 7)) b01 (b0t _ _ _ _ _ _ _ (a03 _ _ _)) ?_
   have hs9 : a02 (fun i => i = X) W (W.setCells X 0 (Ga' mask interval dead priority dr bdr (.slice p0 nbs.length c0))) := a02.setCells (F := fun i => i = X) (.inl rfl) _ _ _ (a02.refl _ _)
   have hr9 : (W.setCells X 0 (Ga' mask interval dead priority dr bdr (.slice p0 nbs.length c0))).rangeAt X 0 (Ga' mask interval dead priority dr bdr (.slice p0 nbs.length c0)) := World.rangeAt_setCells_same _ _ _ _ ((h3 hL).there 0 7 (Nat.le_refl 7))
   exact hK.out _ (hS.trans' hs9 (fun i e => .inr (by omega))) { a := fun _ => ⟨X, h1, h2, fun e => absurd (show true = false from e) (by decide)⟩, b := fun e => by obtain ⟨Y, q1, q2, q3⟩ := hG.b e; exact ⟨Y, q1, q2, fun e2 => (q3 e2).keep hs9 (fun e3 => hne (by rw [h1, q1, e3]))⟩, c := hG.c, d := fun _ => ⟨d4, d5, X, h1, h2, hr9⟩, e := fun e => c0r (hG.e e).1 hL }
  ·intro L f W hG hS hL hdep K hK
   simp only [a0r, List.foldl_cons, List.foldl_nil, Act.put, sA, sZ, sS] at hK ⊢
   rw [if_pos (by rfl)]
   have d6 := hdep ⟨6, .chain⟩ (by simp) rfl (by decide)
   obtain ⟨d4, d5, X, h1, h2, hrX⟩ := hG.d d6
   obtain ⟨Y, q1, q2, q3⟩ := hG.b d5
   have hne := hG.c d4 d5
   refine wp_store_mid 25 (.tmp 6) (.tmp 14) rfl Y 0 (Ga mask interval dead priority dr bdr (.slice q0 nbs.length d0)) q1 rfl ((q3 hL).there 0 7 (Nat.le_refl 7)) b01 (b0t _ _ _ _ _ _ _ (a03 _ _ _)) ?_
   have hs9 : a02 (fun i => i = Y) W (W.setCells Y 0 (Ga' mask interval dead priority dr bdr (.slice q0 nbs.length d0))) := a02.setCells (F := fun i => i = Y) (.inl rfl) _ _ _ (a02.refl _ _)
   have hr9 : (W.setCells Y 0 (Ga' mask interval dead priority dr bdr (.slice q0 nbs.length d0))).rangeAt Y 0 (Ga' mask interval dead priority dr bdr (.slice q0 nbs.length d0)) := World.rangeAt_setCells_same _ _ _ _ ((q3 hL).there 0 7 (Nat.le_refl 7))
   exact hK.out _ (hS.trans' hs9 (fun i e => .inr (by omega))) { a := fun e => by obtain ⟨X', r1, r2, r3⟩ := hG.a e; exact ⟨X', r1, r2, fun e6 => c0r d6 e6⟩, b := fun _ => ⟨Y, q1, q2, fun e => absurd (show true = false from e) (by decide)⟩, c := hG.c, d := fun _ => ⟨d4, d5, X, h1, h2, hs9.rangeAt hrX (fun e3 => hne (by rw [h1, q1, e3]))⟩, e := fun _ => ⟨d6, Y, q1, q2, hr9⟩ }
 ·intro f W hG hS
  obtain ⟨-, Y, eY1, eY2, hrY⟩ := hG.e rfl
  obtain ⟨-, -, X, eX1, eX2, hrX⟩ := hG.d rfl
  simp only [a0r, List.foldl_cons, List.foldl_nil, Act.put, sA, sZ, sS]
  rw [eX1, eY1]
  have hA2 := Hi (hA.out.keep hS id); have hB2 := Hi (hB.out.keep hS id)
  have hw2 := Hi (hk0.out.trans hS)
  have hrX' := Hi hrX; have hrY' := Hi hrY
  clear hG eX1 eY1 hS hrX hrY f hA hB hk0 hg1 hg2
  refine NoPanic.normal ?_
  have a0 := hA2.out.cell 0 (.int .i64 type) (by rw [hcs.out]; rfl)
  have a1 := hA2.out.cell 1 (.int .u32 router) (by rw [hcs.out]; rfl)
  have a2 := hA2.out.cell 2 (.int .u32 area) (by rw [hcs.out]; rfl)
  have a3 := hA2.out.cell 3 (.string S) (by rw [hcs.out, hS'.out]; rfl)
  have a11 := hA2.out.cell 11 (.int .i64 flags) (by rw [hcs.out]; rfl)
  have a12 := hA2.out.cell 12 (.int .u32 seq) (by rw [hcs.out]; rfl)
  have a13 := hA2.out.cell 13 (.slice p1 heads.length c1) (by rw [hcs.out]; rfl)
  have a14 := hA2.out.cell 14 (.slice p2 keys.length c2) (by rw [hcs.out]; rfl)
  have a15 := hA2.out.cell 15 (.slice p3 lsas.length c3) (by rw [hcs.out]; rfl)
  have b0 := hB2.out.cell 0 (.int .i64 type) (by rw [hds.out]; rfl)
  have b1 := hB2.out.cell 1 (.int .u32 router) (by rw [hds.out]; rfl)
  have b2 := hB2.out.cell 2 (.int .u32 area) (by rw [hds.out]; rfl)
  have b3 := hB2.out.cell 3 (.string S) (by rw [hds.out, hS'.out]; rfl)
  have b11 := hB2.out.cell 11 (.int .i64 flags) (by rw [hds.out]; rfl)
  have b12 := hB2.out.cell 12 (.int .u32 seq) (by rw [hds.out]; rfl)
  have b13 := hB2.out.cell 13 (.slice q1 heads.length d1) (by rw [hds.out]; rfl)
  have b14 := hB2.out.cell 14 (.slice q2 keys.length d2) (by rw [hds.out]; rfl)
  have b15 := hB2.out.cell 15 (.slice q3 lsas.length d3) (by rw [hds.out]; rfl)
  have x0 := a01 hrX'.out 0 _ rfl
  have x1 := a01 hrX'.out 1 _ rfl
  have x2 := a01 hrX'.out 2 _ rfl
  have x3 := a01 hrX'.out 3 _ rfl
  have x4 := a01 hrX'.out 4 _ rfl
  have x5 := a01 hrX'.out 5 _ rfl
  have x6 := a01 hrX'.out 6 _ rfl
  have y0 := a01 hrY'.out 0 _ rfl
  have y1 := a01 hrY'.out 1 _ rfl
  have y2 := a01 hrY'.out 2 _ rfl
  have y3 := a01 hrY'.out 3 _ rfl
  have y4 := a01 hrY'.out 4 _ rfl
  have y5 := a01 hrY'.out 5 _ rfl
  have y6 := a01 hrY'.out 6 _ rfl
  go_upto_region 4 with fail
  clear a0 a1 a2 a3 a11 a12 a13 a14 a15 b0 b1 b2 b3 b11 b12 b13 b14 b15 x0 x1 x2 x3 x4 x5 x6 y0 y1 y2 y3 y4 y5 y6
  go_wp2_with fail
  go_loopw [7] (fun iv wr => ∃ k : Nat, k ≤ nbs.length ∧ iv = .int .i64 k ∧ Hid (∃ m, wr = W.drewN m)) (fun iv _ => nbs.length - (intOf iv).toNat)
  case atStart => exact ⟨0, by omega, rfl, Hi ⟨0, rfl⟩⟩
  case round =>
   obtain ⟨k, hk, rfl, hm⟩ := hrel
   have hkW : Hid (a02 (fun _ => False) W wr) := Hi (by obtain ⟨m, rfl⟩ := hm.out; exact (a02.refl _ _).drewN m)
   have f1 := a01 (hkW.out.rangeAt hrX'.out id) 6 _ rfl
   have f2 := a01 (hkW.out.rangeAt hrY'.out id) 6 _ rfl
   by_cases hlk : k < nbs.length
   ·obtain ⟨g, o, rfl, hr1⟩ := (hin.out.n.keep (hw2.out.trans hkW.out)).open (by omega)
    obtain ⟨g2, o2, rfl, hr2⟩ := (hin2.out.n.keep (hw2.out.trans hkW.out)).open (by omega)
    have e1 : wr.cell? ⟨g, o + k, none⟩ = some (.int .u32 (nbs[k] : Nat)) := hr1 k _ (by simp [hlk, nv])
    have e2 : wr.cell? ⟨g2, o2 + k, none⟩ = some (.int .u32 (nbs[k] : Nat)) := hr2 k _ (by simp [hlk, nv])
    clear hr1 hr2
    go_wp2_with fail
    go_quiet (fail)
    go_wp2_with fail
    exact ⟨⟨k + 1, by omega, by go_num, by obtain ⟨m, rfl⟩ := hm.out; exact Hi ⟨m + nq, by rw [World.drewN_drewN]⟩⟩, by simp [intOf]; omega⟩
   ·go_wp2_with fail
    go_loopw [8] (fun iv wr => ∃ k : Nat, k ≤ heads.length ∧ iv = .int .i64 k ∧ Hid (∃ m, wr = W.drewN m)) (fun iv _ => heads.length - (intOf iv).toNat)
    case atStart => exact ⟨0, by omega, rfl, hm⟩
    case round =>
     clear hm hkW f1 f2 hlk
     obtain ⟨k, hk, rfl, hm⟩ := hrel
     have hkW : Hid (a02 (fun _ => False) W wr) := Hi (by obtain ⟨m, rfl⟩ := hm.out; exact (a02.refl _ _).drewN m)
     have f1 := (hA2.out.keep hkW.out id).cell 13 (.slice p1 heads.length c1) (by rw [hcs.out]; rfl)
     have f2 := (hB2.out.keep hkW.out id).cell 13 (.slice q1 heads.length d1) (by rw [hds.out]; rfl)
     by_cases hlk : k < heads.length
     ·obtain ⟨g, o, rfl, hr1⟩ := a0q.open (a0q.keep hin.out.h (hw2.out.trans hkW.out)) (show 0 < heads.length by omega)
      obtain ⟨g2, o2, rfl, hr2⟩ := a0q.open (a0q.keep hin2.out.h (hw2.out.trans hkW.out)) (show 0 < heads.length by omega)
      obtain ⟨l, hl⟩ : ∃ l, heads[k]? = some l := ⟨_, List.getElem?_eq_getElem hlk⟩
      have r1 := hr1 k l hl
      have r2 := hr2 k l hl
      have hlk2i : (k : Int) < heads.length := by omega
      obtain ⟨v0, v1, v2, v3, v4, v5, v6⟩ := l
      have g10 := r1 0 (.int .i64 v0) rfl
      have g20 := r2 0 (.int .i64 v0) rfl
      have g11 := r1 1 (.int .i64 v1) rfl
      have g21 := r2 1 (.int .i64 v1) rfl
      have g12 := r1 2 (.int .u32 v2) rfl
      have g22 := r2 2 (.int .u32 v2) rfl
      have g13 := r1 3 (.int .u32 v3) rfl
      have g23 := r2 3 (.int .u32 v3) rfl
      have g14 := r1 4 (.int .i64 v4) rfl
      have g24 := r2 4 (.int .i64 v4) rfl
      have g15 := r1 5 (.int .u16 v5) rfl
      have g25 := r2 5 (.int .u16 v5) rfl
      have g16 := r1 6 (.int .i64 v6) rfl
      have g26 := r2 6 (.int .i64 v6) rfl
      rw [Nat.add_zero] at g10 g20
      clear hr1 hr2 r1 r2 hl
      go_wp2_with fail
      go_quiet (fail)
      go_wp2_with fail
      exact ⟨⟨k + 1, by omega, by go_num, by obtain ⟨m, rfl⟩ := hm.out; exact Hi ⟨m + nq, by rw [World.drewN_drewN]⟩⟩, by simp [intOf]; omega⟩
     ·go_wp2_with fail
      go_loopw [9] (fun iv wr => ∃ k : Nat, k ≤ keys.length ∧ iv = .int .i64 k ∧ Hid (∃ m, wr = W.drewN m)) (fun iv _ => keys.length - (intOf iv).toNat)
      case atStart => exact ⟨0, by omega, rfl, hm⟩
      case round =>
       clear hm hkW f1 f2 hlk
       obtain ⟨k, hk, rfl, hm⟩ := hrel
       have hkW : Hid (a02 (fun _ => False) W wr) := Hi (by obtain ⟨m, rfl⟩ := hm.out; exact (a02.refl _ _).drewN m)
       have f1 := (hA2.out.keep hkW.out id).cell 14 (.slice p2 keys.length c2) (by rw [hcs.out]; rfl)
       have f2 := (hB2.out.keep hkW.out id).cell 14 (.slice q2 keys.length d2) (by rw [hds.out]; rfl)
       by_cases hlk : k < keys.length
       ·obtain ⟨g, o, rfl, hr1⟩ := a0q.open (a0q.keep hin.out.k (hw2.out.trans hkW.out)) (show 0 < keys.length by omega)
        obtain ⟨g2, o2, rfl, hr2⟩ := a0q.open (a0q.keep hin2.out.k (hw2.out.trans hkW.out)) (show 0 < keys.length by omega)
        obtain ⟨l, hl⟩ : ∃ l, keys[k]? = some l := ⟨_, List.getElem?_eq_getElem hlk⟩
        have r1 := hr1 k l hl
        have r2 := hr2 k l hl
        have hlk2i : (k : Int) < keys.length := by omega
        obtain ⟨v0, v1, v2⟩ := l
        have g10 := r1 0 (.int .i64 v0) rfl
        have g20 := r2 0 (.int .i64 v0) rfl
        have g11 := r1 1 (.int .u32 v1) rfl
        have g21 := r2 1 (.int .u32 v1) rfl
        have g12 := r1 2 (.int .u32 v2) rfl
        have g22 := r2 2 (.int .u32 v2) rfl
        rw [Nat.add_zero] at g10 g20
        clear hr1 hr2 r1 r2 hl
        go_wp2_with fail
        go_quiet (fail)
        go_wp2_with fail
        exact ⟨⟨k + 1, by omega, by go_num, by obtain ⟨m, rfl⟩ := hm.out; exact Hi ⟨m + nq, by rw [World.drewN_drewN]⟩⟩, by simp [intOf]; omega⟩
       ·go_wp2_with fail
        go_loopw [10] (fun iv wr => ∃ k : Nat, k ≤ lsas.length ∧ iv = .int .i64 k ∧ Hid (a02 (fun _ => False) W wr)) (fun iv _ => lsas.length - (intOf iv).toNat)
        case atStart => exact ⟨0, by omega, rfl, hkW⟩
        case round =>
         clear hm hkW f1 f2 hlk
         obtain ⟨k, hk, rfl, hkW⟩ := hrel
         have f1 := (hA2.out.keep hkW.out id).cell 15 (.slice p3 lsas.length c3) (by rw [hcs.out]; rfl)
         have f2 := (hB2.out.keep hkW.out id).cell 15 (.slice q3 lsas.length d3) (by rw [hds.out]; rfl)
         by_cases hlk : k < lsas.length
         ·obtain ⟨ms1, hms1, hrw1, hins1⟩ := hin.out.l
          obtain ⟨ms2, hms2, hrw2, hins2⟩ := hin2.out.l
          have hms1 : ms1.map (fun m => m.d) = lsas := hms1
          have hms2 : ms2.map (fun m => m.d) = lsas := hms2
          have kk := hw2.out.trans hkW.out
          have hml1 : ms1.length = lsas.length := by rw [← hms1, List.length_map]
          have hml2 : ms2.length = lsas.length := by rw [← hms2, List.length_map]
          obtain ⟨m1, hm1⟩ : ∃ m, ms1[k]? = some m := ⟨_, List.getElem?_eq_getElem (by omega)⟩
          obtain ⟨m2, hm2⟩ : ∃ m, ms2[k]? = some m := ⟨_, List.getElem?_eq_getElem (by omega)⟩
          have e1 : lsas[k]? = some m1.d := by rw [← hms1, List.getElem?_map, hm1]; rfl
          have e2 : lsas[k]? = some m2.d := by rw [← hms2, List.getElem?_map, hm2]; rfl
          have hd : m1.d = m2.d := by rw [e1] at e2; injection e2
          have hlok := hok.out.lsas m1.d (List.mem_of_getElem? e1)
          have u1 := ((hins1 m1 (List.mem_of_getElem? hm1)).keep kk).keep ((a02.refl (fun _ => False) wr).drew)
          have u2 := ((hins2 m2 (List.mem_of_getElem? hm2)).keep kk).keep ((a02.refl (fun _ => False) wr).drew)
          obtain ⟨g, o, rfl, hr1⟩ := a0q.open (a0q.keep hrw1 kk) (by omega)
          obtain ⟨g2, o2, rfl, hr2⟩ := a0q.open (a0q.keep hrw2 kk) (by omega)
          have hrw1' := hr1 k m1 hm1
          have hrw2' := hr2 k m2 hm2
          obtain ⟨⟨age, lty, lid, adv, sq, links, mk, routers, cost⟩, a5, h5, a7, h7⟩ := m1
          obtain ⟨dd, e5, i5, e7, i7⟩ := m2
          simp only at hd
          subst hd
          obtain ⟨-, -, -, -, -, hle1, hle2⟩ := hlok
          simp only at hle1 hle2
          have hrow1 : Hid (wr.rangeAt g (o + k * 9) (La' age lty lid adv sq (.slice a5 links.length h5) mk (.slice a7 routers.length h7) cost)) := Hi hrw1'
          have hrow2 : Hid (wr.rangeAt g2 (o2 + k * 9) (La' age lty lid adv sq (.slice e5 links.length i5) mk (.slice e7 routers.length i7) cost)) := Hi hrw2'
          have hL1 := Hi u1.1; have hR1 := Hi u1.2; have hL2 := Hi u2.1; have hR2 := Hi u2.2
          have hA4 := Hi (hA2.out.keep hkW.out id); have hB4 := Hi (hB2.out.keep hkW.out id)
          have hlki : (k : Int) < lsas.length := by omega
          clear hms1 hms2 hrw1 hrw2 hins1 hins2 hm1 hm2 e1 e2 u1 u2 hr1 hr2 hrw1' hrw2' kk hml1 hml2
          go_upto_region 22 with fail
          refine wp_region_noPanic ?_
          refine wp_region_held_drew (S := (fun W' => a02 (fun _ => False) wr W')) (by kernel_rfl) (((a02.refl (fun _ => False) _).drew)) (fun hHeld => ?_)
          refine tk 0 rfl ?_
          refine tkL 1 rfl (a04 (by rfl) 28 (.tmp 194) rfl w.heap.size 15 rfl _ (fun _ s => (hA4.out.keep s id).cell 15 (.slice (some ⟨g, o, none⟩) lsas.length c3) (by rw [hcs.out]; rfl)) (fun w s => e0u w _ _ _ s)) ?_
          refine tk 2 rfl ?_
          refine tk 3 rfl ?_
          refine tkL 4 rfl (yieldsIf_load_mid (by rfl) 80 (.tmp 197) rfl g (o + k * 9) rfl (La' age lty lid adv sq (.slice a5 links.length h5) mk (.slice a7 routers.length h7) cost) _ (fun _ s => s.rangeAt hrow1.out id) Try.underlying80 rfl a0n) ?_
          refine tk 5 rfl ?_
          refine tkL 6 rfl (a04 (by rfl) 28 (.tmp 199) rfl (w.heap.size + 1) 15 rfl _ (fun _ s => (hB4.out.keep s id).cell 15 (.slice (some ⟨g2, o2, none⟩) lsas.length d3) (by rw [hds.out]; rfl)) (fun w s => e0u w _ _ _ s)) ?_
          refine tk 7 rfl ?_
          refine tk 8 rfl ?_
          refine tkL 9 rfl (yieldsIf_load_mid (by rfl) 80 (.tmp 202) rfl g2 (o2 + k * 9) rfl (La' age lty lid adv sq (.slice e5 links.length i5) mk (.slice e7 routers.length i7) cost) _ (fun _ s => s.rangeAt hrow2.out id) Try.underlying80 rfl a0n) ?_
          refine sL 10 rfl fun K hK => ?_
          go_simp
          (refine (m0w age lty sq cost age lty sq cost lid adv mk lid adv mk links links routers routers a5 a7 e5 e7 h5 h7 i5 i7 true _ hle1 hle1 hle2 hle2 hL1 hL2 hR1 hR2 (Hi (o0g _))).mono ?_; rintro e W' ⟨rfl, k'⟩)
          go_wp2_with fail
          refine hK.out _ _ ((hHeld.trans k')) (fun hHeld => ?_)
          clear hK K
          try simp only [Act.put, sA, sZ, sS]
          refine tk 11 rfl ?_
          refine wpAnyH_done (by kernel_rfl) (NoPanic.normal ?_) _
          go_wp2_with fail
          exact ⟨⟨k + 1, by omega, by go_num, Hi (hkW.out.trans hHeld)⟩, by simp [intOf]; omega⟩
         ·obtain rfl : lsas.length = k := by omega
          go_wp2_with fail
          go_ret
          exact ⟨rfl, hw2.out.trans hkW.out⟩
end Go.Proofs.Ytmggbljkehclpaa
