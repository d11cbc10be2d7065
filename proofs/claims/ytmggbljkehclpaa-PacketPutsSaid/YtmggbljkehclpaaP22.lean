/- PK -/
import Derived.Test.YtmggbljkehclpaaP17
set_option linter.unusedVariables false
set_option linter.unusedSimpArgs false
namespace Go.Proofs.Ytmggbljkehclpaa
open Go.RowKit
def PutPost (B : List UInt8) (z : Bool) (w : World) (e : Ending) (w' : World) : Prop :=
 ((z = true → ∃ q d, e = .returned (.tuple #[.slice q B.length d, .int .i64 0]) ∧ OwnB w w' (.slice q B.length d) B) ∧ (z = false → e = .returned (.tuple #[.slice none 0 0, .int .i64 1]))) ∧ a03 (fun _ => False) w w'
set_option maxRecDepth 100000 in
set_option maxHeartbeats 8000000 in
theorem i0c (p : a0m) (pn ph pk pl : Option Addr) (cn ch ck cl : Nat) (cs : List Value) (z : Bool) (w : World)
 (hcs : Hid (cs = a0w p (.slice pn p.nbs.length cn) (.slice ph p.heads.length ch) (.slice pk p.keys.length ck) (.slice pl p.lsas.length cl)))
 (hin : Hid (d0f w p (.slice pn p.nbs.length cn) (.slice ph p.heads.length ch) (.slice pk p.keys.length ck) (.slice pl p.lsas.length cl))) (hok : Hid p.ok) (hz : Hid (okP p = z)) :
 Calls Try.prog 6 #[.agg cs.toArray] w (PutPost (putP p) z w) := by
 obtain ⟨i0, hi0, hz0, hz1, hz2⟩ := info_parts b0v
 have hBx : Hid (c02 w.heap.size cs (w.alloc (.cells cs.toArray 40)) (w.alloc (.cells cs.toArray 40))) := Hi (c0s w cs _)
 have hsz : Hid (w.heap.size < (w.alloc (.cells cs.toArray 40)).heap.size) := Hi (by simp)
 have hwB : Hid (a03 (fun _ => False) w (w.alloc (.cells cs.toArray 40))) := Hi ((a03.refl _ _).alloc _)
 have hcinf : Hid ((Try.prog.info? 40).map (·.size) = some cs.length) := Hi (by rw [a0n, hcs.out]; rfl)
 have hzz := hz.out
 unfold okP at hzz
 obtain ⟨z1, hz1q⟩ : ∃ x, canP p = x := ⟨_, rfl⟩
 obtain ⟨z2, hz2q⟩ : ∃ x, p.lsas.all canB = x := ⟨_, rfl⟩
 rw [hz1q, hz2q] at hzz
 have hz1' := Hi hz1q; have hz2' := Hi hz2q; have hzz' := Hi hzz
 clear hz1q hz2q hzz hz
 go_enter Try.func6, Try.ntmps6
 go_upto_region 1 with fail
 generalize w.alloc (.cells cs.toArray 40) = wB at hBx hsz hwB ⊢
 go_wp2_with ((with_reducible refine a0a 7 ?_); refine wpList_load_mid rfl 40 (.tmp 1) rfl w.heap.size 0 rfl cs _ hBx.out.r Try.underlying40 rfl hcinf.out ?_)
 refine (o03 p pn ph pk pl cn ch ck cl cs z1 _ hcs (Hi (hin.out.keep hwB.out)) hok.out.hl hok.out.kl hz1').mono ?_
 rintro e w2 ⟨rfl, k2⟩
 have hB2 := Hi (hBx.out.next k2)
 have hw2 := Hi (hwB.out.trans k2)
 have hsz2 : Hid (w.heap.size < w2.heap.size) := Hi (Nat.lt_of_lt_of_le hsz.out k2.size)
 clear k2 hBx hwB hsz
 cases z1 with
 | false =>
  have hzf : Hid (z = false) := Hi hzz'.out.symm
  go_wp2_with fail
  go_ret2
  exact ⟨⟨fun e => (by rw [hzf.out] at e; cases e), fun _ => rfl⟩, hw2.out⟩
 | true =>
 obtain ⟨T, hT⟩ : ∃ T, b0x p = T := ⟨_, rfl⟩
 have hT' := Hi hT
 go_wp2_with ((with_reducible refine a0a 11 ?_); refine wpList_load_mid rfl 40 (.tmp 1) rfl w.heap.size 0 rfl cs _ hB2.out.r Try.underlying40 rfl hcinf.out ?_)
 refine (p0s p pn ph pk pl cn ch ck cl cs z2 T _ hcs (Hi (hin.out.keep hw2.out)) hok hz1' hz2' hT').mono ?_
 rintro e w3 ⟨⟨hyes, hno⟩, k3⟩
 have hB3 := Hi (hB2.out.next k3)
 have hw3 := Hi (hw2.out.trans k3)
 have hsz3 : Hid (w.heap.size < w3.heap.size) := Hi (Nat.lt_of_lt_of_le hsz2.out k3.size)
 cases z2 with
 | false =>
  obtain rfl := hno rfl
  have hzf : Hid (z = false) := Hi hzz'.out.symm
  clear hyes hno k3 hT
  go_wp2_with fail
  go_ret2
  exact ⟨⟨fun e => (by rw [hzf.out] at e; cases e), fun _ => rfl⟩, hw3.out⟩
 | true =>
 obtain ⟨pt, ct, rfl, hOt⟩ := hyes rfl
 have hTl : T.length ≤ 10084 := by rw [← hT]; exact g0c (by unfold okP; rw [hz1'.out, hz2'.out]; rfl)
 have hOt3 := Hi hOt.bytes
 clear hyes hno hOt k3 hB2 hw2 hsz2 hT
 have l0 := Hi (show cs[0]? = some (.int .i64 p.type) by rw [hcs.out]; rfl)
 have l1 := Hi (show cs[1]? = some (.int .u32 p.router) by rw [hcs.out]; rfl)
 have l2 := Hi (show cs[2]? = some (.int .u32 p.area) by rw [hcs.out]; rfl)
 obtain ⟨S, hS⟩ : ∃ S : ByteArray, S = ⟨p.auth.toArray⟩ := ⟨_, rfl⟩
 have l3 := Hi (show cs[3]? = some (.string S) by rw [hcs.out, hS]; rfl)
 have hSa : Hid (S.data.toList = p.auth) := Hi (by rw [hS])
 clear hS
 have hput := putP_eq p
 have hbl := r0y p
 have hsx := q0r p
 rw [hT'.out] at hbl
 obtain ⟨base, hbase⟩ : ∃ b, j08 p = b := ⟨_, rfl⟩
 rw [hbase] at hput hbl hsx
 have hbase' : Hid (l0w p T.length ++ [0, 0] ++ (be 2 (d03 p.auth) ++ (key8 p.auth ++ T)) = base) := Hi (by rw [← hbase]; unfold j08; rw [hT'.out])
 obtain ⟨N, hN⟩ : ∃ N, N = 24 + T.length := ⟨_, rfl⟩
 rw [← hN] at hbl
 have hN1 : 24 ≤ N := by omega
 have hN2 : N ≤ 10108 := by omega
 have hTN : (T.length : Int) = (N : Int) - 24 := by omega
 obtain ⟨Sm, hSm⟩ : ∃ s, sumP p = s := ⟨_, rfl⟩
 rw [hSm] at hput hsx
 have lSm : Sm < 65536 := by rw [← hSm]; exact m01 _
 have hputl : (putP p).length = N := by rw [hput]; simp [hbl]
 have hputl' := Hi hputl; have hput' := Hi hput
 have hbl' := Hi hbl; have hsx' := Hi hsx; have hN' := Hi hN; have hTN' := Hi hTN
 have hzt : Hid (z = true) := Hi hzz'.out.symm
 clear hbl hsx hN hTN hput hputl hbase hSm hcinf hcs hin hz1' hz2' hzz'
 obtain ⟨ty, hty⟩ : ∃ t, t = p.type := ⟨_, rfl⟩
 rw [← hty] at l0
 obtain ⟨Y, hY, lY, hYl⟩ := h0i ty
 have hM : Hid (IntKind.i64.wrap (24 + (T.length : Int)) = (N : Int)) := Hi (by have := hN'.out; rw [IntWalk.i64_in _ (by omega)]; omega)
 have hMu : Hid (IntKind.u16.wrap (N : Int) = (N : Int)) := Hi (by rw [h03]; omega)
 have hY2 : Hid (UInt8.ofNat Y = UInt8.ofNat (lo8 p.type)) := Hi (by rw [← hYl.out, hty])
 clear hty hYl
 obtain ⟨b1, hb1⟩ : ∃ b, UInt8.ofNat Y = b := ⟨_, rfl⟩
 have hb1v : bv b1 = .int .u8 (Y : Int) := by rw [← hb1]; exact h0f Y lY
 have hb1' := Hi hb1; have hb1v' := Hi hb1v
 clear hb1 hb1v
 go_upto_region 6 with fail
 refine wp_region_noPanic ?_
 refine wp_region_held_drew (S := (fun W => c02 w.heap.size cs w3 W)) (by kernel_rfl) (c02.next ⟨hB3.out.r, a03.refl _ _⟩ ((a03.refl _ _).drew)) (fun hHeld => ?_)
 refine tk 0 rfl ?_
 refine tkL 1 rfl (a02 (by rfl) 3 (.tmp 17) rfl w.heap.size 0 rfl _ (fun _ s => s.cell 0 (.int .i64 ty) l0.out) (fun w s => a0j w _ _ _ s)) ?_
 refine tk 2 rfl ?_
 refine tk 4 rfl ?_
 refine tk 5 rfl ?_
 refine tk 6 rfl ?_
 refine tk 7 rfl ?_
 rw [hM.out, hMu.out]
 refine b0a [20, 25, 26, 6] [3, 8, 9, 10] (fun L f W =>
  (L 3 = true → L 9 = false → ∃ g, f 20 = .slice (some ⟨g, 0, none⟩) 2 2 ∧ OwnB w3 W (f 20) [2, b1]) ∧
  (L 8 = true → L 9 = false → ∃ p c, f 25 = .slice p 2 c ∧ a0b W (f 25) (be 2 N)) ∧
  (L 9 = true → ∃ p c, f 26 = .slice p 4 c ∧ OwnB w3 W (f 26) ([2, b1] ++ be 2 N)) ∧
  (L 10 = true → L 9 = true ∧ f 6 = f 26)) (by kernel_rfl) (by kernel_rfl) (by kernel_rfl) (by kernel_rfl) (Nat.le_of_ble_eq_true (by kernel_rfl)) hHeld
  (fun L f h => ⟨fun e => absurd (h 3 (by decide)) (by rw [e]; decide), fun e => absurd (h 8 (by decide)) (by rw [e]; decide), fun e => absurd (h 9 (by decide)) (by rw [e]; decide), fun e => absurd (h 10 (by decide)) (by rw [e]; decide)⟩) ?_ ?_
 ·refine a0p.cons (d := 20) rfl rfl (by decide) ?_ (a0p.cons (d := 25) rfl rfl (by decide) ?_ (a0p.cons (d := 26) rfl rfl (by decide) ?_ (a0p.cons (d := 6) rfl rfl (by decide) ?_ a0p.nil)))
  ·intro L f W hG hS hL hdep K hK
   simp only [a0q, List.foldl_cons, List.foldl_nil, Act.put, sA, sZ, sS] at hK ⊢
   rw [if_pos (by rfl)]
   go_simp
   have hk : a03 (fun _ => False) W (W.alloc (.cells #[.int .u8 2, .int .u8 Y] 5)) := (a03.refl _ _).alloc _
   refine hK.out _ _ (hS.next hk) ⟨fun _ _ => ⟨W.heap.size, rfl, ?_⟩, fun e8 e9 => ?_, fun e9 => ?_, fun e10 => hG.2.2.2 e10⟩
   ·have := OwnB.new w3 W hS.k.size [2, b1] (n := 2) rfl (by unfold maxLen; omega)
    rw [List.map_cons, List.map_cons, List.map_nil, hb1v'.out] at this
    exact this
   ·obtain ⟨g, c, h1, h2⟩ := hG.2.1 e8 e9
    exact ⟨g, c, h1, h2.keep hk⟩
   ·obtain ⟨p, c, h1, h2⟩ := hG.2.2.1 e9
    exact ⟨p, c, h1, h2.keep hk (fun _ _ f => f)⟩
  ·intro L f W hG hS hL hdep K hK
   simp only [a0q, List.foldl_cons, List.foldl_nil, Act.put, sA, sZ, sS] at hK ⊢
   rw [if_pos (by rfl)]
   go_simp
   refine (j0t W N (by omega) _ (Nat.le_refl _)).mono ?_
   rintro e W' ⟨p, c, rfl, hO, hk⟩
   go_wp2_with fail
   refine hK.out _ _ (hS.next hk) ⟨fun e8 e9 => ?_, fun _ _ => ⟨p, c, rfl, hO.bytes⟩, fun e9 => ?_, fun e10 => hG.2.2.2 e10⟩
   ·obtain ⟨g, h1, h2⟩ := hG.1 e8 e9
    exact ⟨g, h1, h2.keep hk (fun _ _ f => f)⟩
   ·obtain ⟨p, c, h1, h2⟩ := hG.2.2.1 e9
    exact ⟨p, c, h1, h2.keep hk (fun _ _ f => f)⟩
  ·intro L f W hG hS hL hdep K hK
   simp only [a0q, List.foldl_cons, List.foldl_nil, Act.put, sA, sZ, sS] at hK ⊢
   rw [if_pos (by rfl)]
   have d3 := hdep ⟨3, .data⟩ (by simp) rfl (by decide)
   have d8 := hdep ⟨8, .data⟩ (by simp) rfl (by decide)
   obtain ⟨g7, h7, hO⟩ := hG.1 d3 hL
   obtain ⟨g, c, h12, hB12⟩ := hG.2.1 d8 hL
   refine a0v (.tmp 20) (.tmp 25) 31 rfl i0 Try.underlying31 hi0 hz0 hz1 hz2 w3 (f 20) [2, b1] rfl hO (f 25) rfl (be 2 N) hB12 (by rw [a08]; simp) ?_
   intro p c W' hO' hG'
   have e4 : ([2, b1] : List UInt8).length + (be 2 N).length = 4 := by rw [a08]; rfl
   rw [e4] at hO' hG' ⊢
   exact hK.out _ _ (hS.grow hsz3.out hG' hO.2.1) ⟨fun _ e => absurd (show true = false from e) (by decide), fun _ e => absurd (show true = false from e) (by decide), fun _ => ⟨p, c, rfl, hO'⟩, fun e10 => absurd ((hG.2.2.2 e10).1.symm.trans hL) (by decide)⟩
  ·intro L f W hG hS hL hdep K hK
   simp only [a0q, List.foldl_cons, List.foldl_nil, Act.put, sA, sZ, sS] at hK ⊢
   rw [if_pos (by rfl)]
   go_simp
   have d9 := hdep ⟨9, .data⟩ (by simp) rfl (by decide)
   exact hK.out _ _ hS ⟨fun e3 e9 => hG.1 e3 e9, fun e8 e9 => hG.2.1 e8 e9, fun e9 => hG.2.2.1 e9, fun _ => ⟨d9, rfl⟩⟩
 ·intro f W hG hS
  obtain ⟨p13, c13, h13, hO13⟩ := hG.2.2.1 rfl
  have h3 := (hG.2.2.2 rfl).2
  simp only [a0q, List.foldl_cons, List.foldl_nil, Act.put, sA, sZ, sS]
  rw [h13] at hO13 h3
  rw [h3]
  have hS' := Hi hS
  generalize f 20 = f20
  generalize f 25 = f25
  generalize f 26 = f26
  obtain ⟨X1, hX1⟩ : ∃ X, [2, b1] ++ be 2 N = X := ⟨_, rfl⟩
  have hX1l : X1.length = 4 := by rw [← hX1, List.length_append, a08]; rfl
  rw [hX1] at hO13
  have hO' := Hi hO13; have hX1' := Hi hX1; have hX1l' := Hi hX1l
  clear hG h13 h3 hO13 hS f hX1 hX1l hM hY
  refine NoPanic.normal ?_
  have c1 := hS'.out.cell 1 _ l1.out
  have c2 := hS'.out.cell 2 _ l2.out
  go_wp2_with fail
  have hNm : Hid (a0x (W.alloc (.cells #[.int .u32 p.router, .int .u32 p.area] 22)) (.slice (some ⟨W.heap.size, 0, none⟩) 2 2) [p.router, p.area]) := Hi (a0x.new W [p.router, p.area] rfl)
  refine (c0w w3 _ X1 _ [p.router, p.area] (Hi (by intro n hn; simp at hn; rcases hn with rfl | rfl; exact hok.out.router; exact hok.out.area)) (by rw [hX1l'.out]; simp) _ (hXn hX1l'.out (Hi (hO'.out.keep ((a03.refl (fun _ => False) _).alloc _) (fun _ _ f => f)))) hNm (Hi (fun _ k e => by
   simp only [Value.ownBlock, Option.some.injEq] at e
   subst e
   refine ⟨fun e => ?_, by simp⟩
   have := l05 hO'.out _ e; omega))).mono ?_
  rintro e W2 ⟨p2, d2, rfl, hO2, hg2⟩
  have hS2 := Hi ((hS'.out.next ((a03.refl (fun _ => False) _).alloc (.cells #[.int .u32 p.router, .int .u32 p.area] 22))).grow hsz3.out hg2 hO'.out.2.1)
  obtain ⟨X2, hX2⟩ : ∃ X, X1 ++ bes [p.router, p.area] = X := ⟨_, rfl⟩
  have hb2 : (bes [p.router, p.area]).length = 8 := by rw [e04]; rfl
  have hO2' := c0e hX1l'.out hb2 (show 4 + 8 = 12 from rfl) hX2 (Hi hO2)
  have hX2l : X2.length = 12 := by rw [← hX2, List.length_append, hX1l'.out, hb2]
  rw [show X1.length + (bes [p.router, p.area]).length = 12 by rw [hX1l'.out, hb2]]
  have hX2' := Hi hX2; have hX2l' := Hi hX2l
  clear hX2 hX2l hO2 hg2 hS' hO' hNm c1 c2 hb2
  go_upto_region 8 with fail
  refine wp_region_noPanic ?_
  refine wp_region_held_drew (S := (fun W => c02 w.heap.size cs w3 W)) (by kernel_rfl) (hS2.out.next ((a03.refl _ _).drew)) (fun hHeld => ?_)
  refine tk 0 rfl ?_
  refine tk 2 rfl ?_
  refine tkL 3 rfl (a02 (by rfl) 9 (.tmp 36) rfl w.heap.size 3 rfl _ (fun _ s => s.cell 3 (.string S) l3.out) (fun w s => g01 w _ _ _ s)) ?_
  have hO3 := Hi (hO2'.out.keep ((a03.refl (fun _ => False) _).drew) (fun _ _ f => f))
  refine sL 1 rfl fun K hK => ?_
  go_simp
  (refine (c0n w3 _ X2 0 (by omega) (by rw [hX2l'.out]; omega) _ (hXn hX2l'.out hO3)).mono ?_; rintro e W4 ⟨p4, d4, rfl, hO4, hg4⟩)
  go_wp2_with fail
  refine hK.out _ _ (hHeld.grow hsz3.out hg4 hO3.out.2.1) (fun hHeld => ?_)
  clear hK K
  try simp only [Act.put, sA, sZ, sS]
  obtain ⟨X3, hX3⟩ : ∃ X, X2 ++ be 2 0 = X := ⟨_, rfl⟩
  have hO4' := c0e hX2l'.out (a08 2 0) (show 12 + 2 = 14 from rfl) hX3 (Hi hO4)
  have hX3l : X3.length = 14 := by rw [← hX3, List.length_append, hX2l'.out, a08]
  rw [show X2.length + (be 2 0).length = 14 by rw [hX2l'.out, a08]]
  have hX3' := Hi hX3; have hX3l' := Hi hX3l
  clear hX3 hX3l hO4 hg4 hO3
  refine sL 4 rfl fun K hK => ?_
  go_simp
  (refine (g0k S p.auth hSa.out _).mono ?_; rintro e W4' ⟨rfl, rfl⟩)
  go_wp2_with fail
  refine hK.out _ _ (hHeld) (fun hHeld => ?_)
  clear hK K
  try simp only [Act.put, sA, sZ, sS]
  obtain ⟨kd, hkd⟩ : ∃ k, d03 p.auth = k := ⟨_, rfl⟩
  have lkd : kd < 65536 := by rw [← hkd]; unfold d03; split <;> omega
  have hkd' := Hi hkd
  rw [hkd]
  clear hkd
  refine sL 5 rfl fun K hK => ?_
  go_simp
  (refine (c0n w3 _ X3 kd lkd (by rw [hX3l'.out]; omega) _ (hXn hX3l'.out hO4')).mono ?_; rintro e W5 ⟨p5, d5, rfl, hO5, hg5⟩)
  go_wp2_with fail
  refine hK.out _ _ (hHeld.grow hsz3.out hg5 hO4'.out.2.1) (fun hHeld => ?_)
  clear hK K
  try simp only [Act.put, sA, sZ, sS]
  refine tk 6 rfl ?_
  refine wpAnyH_done (by kernel_rfl) (NoPanic.normal ?_) _
  obtain ⟨X5, hX5⟩ : ∃ X, X3 ++ be 2 kd = X := ⟨_, rfl⟩
  have hO5' := c0e hX3l'.out (a08 2 kd) (show 14 + 2 = 16 from rfl) hX5 (Hi hO5)
  have hX5l : X5.length = 16 := by rw [← hX5, List.length_append, hX3l'.out, a08]
  rw [show X3.length + (be 2 kd).length = 16 by rw [hX3l'.out, a08]]
  have hX5' := Hi hX5; have hX5l' := Hi hX5l; have hS5 := Hi hHeld
  clear hX5 hX5l hO5 hg5 hO4' hHeld hS2 hO2'
  have c3 := hS5.out.cell 3 _ l3.out
  go_wp2_with fail
  refine (h0n S p.auth hSa.out _).mono ?_
  rintro e W6 ⟨gk, rfl, -, hBk, k6⟩
  obtain ⟨ky, hky⟩ : ∃ k, key8 p.auth = k := ⟨_, rfl⟩
  have hkyl : ky.length = 8 := by rw [← hky]; exact d0k _
  rw [hky] at hBk
  have hky' := Hi hky; have hkyl' := Hi hkyl
  have hksrc : Hid (a0b W6 (.slice (some ⟨gk, 0, none⟩) 8 8) ky) := Hi (a0b.of hkyl (Nat.le_refl _) hBk.range)
  have hO6 := Hi (hO5'.out.keep k6 (fun _ _ f => f))
  have hS6 := Hi (hS5.out.next k6)
  clear hky hkyl hBk k6 hS5 hO5' c3
  have hOt6 := Hi (hOt3.out.keep hS6.out.k)
  go_upto_region 10 with (first | ((with_reducible refine a0a 44 ?_); go_must (refine a0h rfl (.tmp 40) (.tmp 43) 31 rfl i0 Try.underlying31 hi0 hz0 hz1 hz2 w3 _ X5 rfl (hXn hX5l'.out hO6).out _ rfl ky hksrc.out (by rw [hX5l'.out, hkyl'.out]; omega) ?_; intro q7 d7 W7 hO7 hg7; have hO7' := c0e hX5l'.out hkyl'.out (show 16 + 8 = 24 from rfl) rfl hO7; have hS7 := Hi (hS6.out.grow hsz3.out hg7.out hO6.out.2.1); have hOt7 := Hi (hOt3.out.keep hS7.out.k); rw [show X5.length + ky.length = 24 by rw [hX5l'.out, hkyl'.out]]; clear hO7 hg7 hO6 hS6 hOt6 hksrc)) | ((with_reducible refine a0a 46 ?_); go_must (refine a0h rfl (.tmp 44) (.tmp 45) 31 rfl i0 Try.underlying31 hi0 hz0 hz1 hz2 w3 _ (X5 ++ ky) rfl (hXn (by rw [List.length_append, hX5l'.out, hkyl'.out]) hO7').out _ rfl T hOt7.out (by rw [List.length_append, hX5l'.out, hkyl'.out]; omega) ?_; intro q8 d8 W8 hO8 hg8; rw [show (X5 ++ ky).length + T.length = N by rw [List.length_append, hX5l'.out, hkyl'.out]; exact hN'.out.symm])))
  have hfin : Hid (X5 ++ ky ++ T = base) := Hi (by
   rw [← hbase'.out, ← hX5'.out, ← hX3'.out, ← hX2'.out, ← hX1'.out, hkd'.out, hky'.out, i0p]
   unfold l0w
   rw [← hY2.out, hb1'.out, ← hN'.out]
   simp only [bes, List.flatMap_cons, List.flatMap_nil, List.append_nil, List.append_assoc]
   )
  have hO8' := c0e (show (X5 ++ ky).length = 24 by rw [List.length_append, hX5l'.out, hkyl'.out]) rfl hN'.out.symm hfin.out hO8
  have hS8 := Hi (hS7.out.grow hsz3.out hg8.out hO7'.out.2.1)
  obtain ⟨g, hq, hra, -, hcap, hg0⟩ := hO8'.out.at (by rw [hbl'.out]; omega)
  subst hq
  have hra' := Hi hra; have hg0' := Hi hg0
  clear hO8 hg8 hS7 hOt7 hO7' hra hg0
  have i12 : (12 : Int) ≤ d8 := by omega
  have i14 : (14 : Int) ≤ d8 := by omega
  have j12 : ¬ d8 = 12 := by omega
  have hO9 := Hi (hO8'.out.keep ((a03.refl (fun _ => False) _).drew) (fun _ _ f => f))
  have hra9 := Hi (((a03.refl (fun _ => False) W8).drew).rangeAt hra'.out id)
  refine wp_region_noPanic ?_
  refine wp_region_held_drew (S := (fun W => c02 w.heap.size cs w3 W)) (by kernel_rfl) (hS8.out.next ((a03.refl _ _).drew)) (fun hHeld => ?_)
  refine tk 0 rfl ?_
  refine tk 1 rfl ?_
  refine tk 2 rfl ?_
  refine sL 3 rfl fun K hK => ?_
  go_simp
  (refine (r02 g d8 base N Sm hbl' hN1 (by omega) hcap _ hra9 hsx').mono ?_; rintro e W9 ⟨rfl, k9⟩)
  go_wp2_with fail
  refine hK.out _ _ (hHeld.next k9) (fun hHeld => ?_)
  clear hK K
  try simp only [Act.put, sA, sZ, sS]
  have hO10 := Hi (hO9.out.keep k9 (fun _ _ f => f))
  clear k9
  refine sL 4 rfl fun K hK => ?_
  go_simp
  (refine (j0t W9 Sm lSm _ (Nat.le_refl _)).mono ?_; rintro e W10 ⟨p10, d10, rfl, hO11, k11⟩)
  go_wp2_with fail
  refine hK.out _ _ (hHeld.next k11) (fun hHeld => ?_)
  clear hK K
  try simp only [Act.put, sA, sZ, sS]
  have hO12 := Hi (hO10.out.keep k11 (fun _ _ f => f))
  obtain ⟨gs, hq, hras, -, -, -⟩ := hO11.at (by rw [a08]; omega)
  subst hq
  rw [be2] at hras
  have hras' := Hi hras
  clear hO11 k11 hras
  refine sL 5 rfl fun K hK => ?_
  rw [if_pos (by rfl)]
  (refine n0p (.tmp 48) (.tmp 51) 31 31 rfl 5 Try.underlying31 o0p w3 g N d8 base hO12.out 12 (d8 - 12) gs 0 d10 rfl rfl (UInt8.ofNat (Sm / 256)) (UInt8.ofNat Sm) hras'.out (by rw [hbl'.out]; omega) ?_; intro hO13 k13; generalize W10.setCells g 12 ([UInt8.ofNat (Sm / 256), UInt8.ofNat Sm].map bv) = W13 at hO13 k13 ⊢)
  refine hK.out _ _ ((⟨k13.rangeAt hHeld.r (fun e => by have := hg0'.out; have := hsz3.out; omega), hHeld.k.trans' k13 (fun i e => .inr (by rw [e]; exact hg0'.out))⟩)) (fun hHeld => ?_)
  clear hK K
  try simp only [Act.put, sA, sZ, sS]
  refine wpAnyH_done (by kernel_rfl) (NoPanic.normal ?_) _
  have hO13' := Hi hO13; have hS13 := Hi hHeld
  clear hO13 k13 hHeld hO9 hra9 hO10 hO12 hras'
  go_wp2_with fail
  go_ret2
  exact ⟨⟨fun _ => ⟨some ⟨g, 0, none⟩, d8, by rw [hputl'.out]; rfl, by rw [hputl'.out, hput'.out]; exact hO13'.out.older hw3.out.size⟩, fun e => (by have := hzt.out; rw [this] at e; cases e)⟩, hw3.out.trans hS13.out.k⟩
end Go.Proofs.Ytmggbljkehclpaa
