/- QB -/
import Derived.Test.YtmggbljkehclpaaG17
import Derived.Test.YtmggbljkehclpaaG20
import Derived.Test.YtmggbljkehclpaaG26
import Derived.Test.YtmggbljkehclpaaG31
import Derived.Deep.CutBlock
set_option linter.unusedVariables false
set_option linter.unusedSimpArgs false
namespace Go.Proofs.Ytmggbljkehclpaa
open Go.RowKit
theorem a0l : (Try.prog.info? 30).map (·.size) = some 16 := by kernel_rfl
def q0y (B : List UInt8) (z : Bool) (w : World) (e : Ending) (w' : World) : Prop :=
 ((z = true → ∃ q d, e = .returned (.tuple #[.slice q B.length d, .bool true]) ∧ OwnB w w' (.slice q B.length d) B) ∧ (z = false → e = .returned (.tuple #[.slice none 0 0, .bool false]))) ∧ a02 (fun _ => False) w w'
theorem OwnB.set_pair {w0 w : World} {g n c : Nat} {xs : List UInt8} (h : OwnB w0 w (.slice (some ⟨g, 0, none⟩) n c) xs) (k : Nat) (x y : UInt8) (hk : k + 1 < xs.length) :
 OwnB w0 ((w.setCell ⟨g, k, none⟩ (bv x)).setCell ⟨g, k + 1, none⟩ (bv y)) (.slice (some ⟨g, 0, none⟩) n c) ((xs.set k x).set (k + 1) y) := by
 obtain ⟨g', e', -, -, hset⟩ := h.writes (by omega)
 injection e' with e'; injection e' with e'; subst e'
 obtain ⟨g2, e2, -, -, hset2⟩ := (hset k x).writes (by simp; omega)
 injection e2 with e2; injection e2 with e2; subst e2
 exact hset2 (k + 1) y
theorem d0g {n : Nat} (h : n < 4294967296) : IntKind.u64.wrap (n : Int) = (n : Int) := IntWalk.u64_in _ (by omega)
theorem be_lo16 (n : Int) : be 2 (lo64 n) = be 2 (lo16 n) := m0f 2 _ _ (by unfold lo64 lo16; omega)
theorem q0p (n : Int) : be 4 (lo64 n) = be 4 (lo32 n) := m0f 4 _ _ (by unfold lo64 lo32; omega)
set_option maxRecDepth 100000 in
set_option maxHeartbeats 16000000 in
theorem i04 (p : a0x) (pn ph pk pl : Option Addr) (cn ch ck cl : Nat) (cs : List Value) (z : Bool) (w : World)
 (hcs : Hid (cs = b05 p (.slice pn p.nbs.length cn) (.slice ph p.heads.length ch) (.slice pk p.keys.length ck) (.slice pl p.lsas.length cl)))
 (hin : Hid (e04 w p (.slice pn p.nbs.length cn) (.slice ph p.heads.length ch) (.slice pk p.keys.length ck) (.slice pl p.lsas.length cl))) (hok : Hid p.ok) (hal : p.auth.length ≤ 9223372036854775807) (hz : Hid (okP p = z)) :
 Calls Try.prog 8 #[.agg cs.toArray] w (q0y (putP p) z w) := by
 obtain ⟨j0, hj0, hj1, hj2, hj3⟩ := info_parts b0g
 have hBx : Hid (b0v w.heap.size cs (w.alloc (.cells cs.toArray 30)) (w.alloc (.cells cs.toArray 30))) := Hi (c0f w cs _)
 have hsz : Hid (w.heap.size < (w.alloc (.cells cs.toArray 30)).heap.size) := Hi (by simp)
 have hwB : Hid (a02 (fun _ => False) w (w.alloc (.cells cs.toArray 30))) := Hi ((a02.refl _ _).alloc _)
 have hcinf : Hid ((Try.prog.info? 30).map (·.size) = some cs.length) := Hi (by rw [a0l, hcs.out]; rfl)
 have hlk : Hid (∀ l ∈ p.lsas, l.links.length ≤ 9223372036854775807 ∧ l.routers.length ≤ 9223372036854775807) := Hi (fun l hl => ⟨(hok.out.lsas l hl).ll, (hok.out.lsas l hl).rl⟩)
 go_enter Try.func8, Try.ntmps8
 go_upto_region 1 with fail
 generalize w.alloc (.cells cs.toArray 30) = wB at hBx hsz hwB ⊢
 go_wp2_with ((with_reducible refine a09 16 ?_); refine wpList_load_mid rfl 30 (.tmp 1) rfl w.heap.size 0 rfl cs _ hBx.out.r Try.underlying30 rfl hcinf.out ?_)
 refine (l0r p pn ph pk pl cn ch ck cl cs z _ hcs (Hi (hin.out.keep hwB.out)) hal hok.out.hl hok.out.kl hok.out.ll hlk hz).mono ?_
 rintro e w2 ⟨rfl, k2⟩
 have hB2 := Hi (b0v.older (hBx.out.next k2) (a02.refl _ _))
 have hB2' : Hid (w2.rangeAt w.heap.size 0 cs) := Hi hB2.out.r
 have hw2 := Hi (hwB.out.trans k2)
 have hsz2 : Hid (w.heap.size < w2.heap.size) := Hi (Nat.lt_of_lt_of_le hsz.out k2.size)
 have hin2 := Hi (hin.out.keep hw2.out)
 clear k2 hBx hwB hsz hB2 hlk hin
 have hrA : Hid (∀ W, a02 (fun _ => False) w2 W → W.rangeAt w.heap.size 0 cs) := Hi (fun W k => k.rangeAt hB2'.out id)
 cases z with
 | false =>
  go_wp2_with fail
  go_ret2
  exact ⟨⟨fun e => (by cases e), fun _ => rfl⟩, hw2.out⟩
 | true =>
 have hzz := hz.out
 unfold okP at hzz
 rw [Bool.and_eq_true] at hzz
 obtain ⟨hcan, hall⟩ := hzz
 have hways := Hi (m0e hcan)
 obtain ⟨ln, lh, lk, ll, la⟩ := q0m hcan
 have hTB := Hi (l0e hcan)
 have hbl := q0n hz.out
 have hpl := Hi (putP_set p)
 have hcan' := Hi hcan; have hall' := Hi hall
 clear hcan hall
 obtain ⟨ty, hty⟩ : ∃ t, p.type = t := ⟨_, rfl⟩
 rw [hty] at hways
 obtain ⟨nb, hnb⟩ : ∃ n, p.nbs.length = n := ⟨_, rfl⟩
 obtain ⟨nh, hnh⟩ : ∃ n, p.heads.length = n := ⟨_, rfl⟩
 obtain ⟨nk, hnk⟩ : ∃ n, p.keys.length = n := ⟨_, rfl⟩
 obtain ⟨nl, hnl⟩ : ∃ n, p.lsas.length = n := ⟨_, rfl⟩
 obtain ⟨rt, hrt⟩ : ∃ n, p.router = n := ⟨_, rfl⟩
 obtain ⟨ar, har⟩ : ∃ n, p.area = n := ⟨_, rfl⟩
 obtain ⟨S, hS0⟩ : ∃ S : ByteArray, S = ⟨p.auth.toArray⟩ := ⟨_, rfl⟩
 have hSa : Hid (S.data.toList = p.auth) := Hi (by rw [hS0])
 rw [hnb] at ln hcs hin2; rw [hnh] at lh hcs hin2; rw [hnk] at lk hcs hin2; rw [hnl] at ll hcs hin2
 have l0 := Hi (show cs[0]? = some (.int .i64 ty) by rw [hcs.out, ← hty]; rfl)
 have l1 := Hi (show cs[1]? = some (.int .u32 rt) by rw [hcs.out, ← hrt]; rfl)
 have l2 := Hi (show cs[2]? = some (.int .u32 ar) by rw [hcs.out, ← har]; rfl)
 have l3 := Hi (show cs[3]? = some (.string S) by rw [hcs.out, hS0]; rfl)
 have l13 := Hi (show cs[13]? = some (.slice ph nh ch) by rw [hcs.out]; rfl)
 have l14 := Hi (show cs[14]? = some (.slice pk nk ck) by rw [hcs.out]; rfl)
 have l15 := Hi (show cs[15]? = some (.slice pl nl cl) by rw [hcs.out]; rfl)
 have hrt1 : rt < 4294967296 := by rw [← hrt]; exact hok.out.router
 have har1 : ar < 4294967296 := by rw [← har]; exact hok.out.area
 have hwid := Hi (show ∀ W, a02 (fun _ => False) w2 W → ∀ (j : Nat) v, cs[j]? = some v → W.cell? ⟨w.heap.size, j, none⟩ = some v from fun W k j v h => a01 (hrA.out W k) j v h)
 obtain ⟨BD, hBD⟩ : ∃ b, h0v p = b := ⟨_, rfl⟩
 rw [hBD] at hbl hTB
 obtain ⟨NB, hNB⟩ : ∃ n, BD.length = n := ⟨_, rfl⟩
 rw [hNB] at hbl
 have hBD' := Hi hBD; have hNB' := Hi hNB; have hty' := Hi hty; have hnb' := Hi hnb; have hnh' := Hi hnh; have hnk' := Hi hnk; have hnl' := Hi hnl; have hrt' := Hi hrt; have har' := Hi har; have hS0' := Hi hS0
 clear hBD hNB hty hnb hnh hnk hnl hrt har hS0 hal
 have b0 := hwid.out _ (a02.refl _ _) 0 _ l0.out
 go_upto_block 0 with fail
 clear b0
 go_cut [4] (fun bw wx => (∃ q d, bw = .slice q NB d ∧ Hid (OwnB w2 wx (.slice q NB d) BD)) ∧ Hid (a02 (fun _ => False) w2 wx))
 case first =>
  go_upto_if 21 with fail
  rcases hways.out with rfl | rfl | rfl | rfl | rfl
  ·skip
   obtain ⟨mk, hmk⟩ : ∃ f, p.mask = f := ⟨_, rfl⟩
   obtain ⟨iv, hiv⟩ : ∃ f, p.interval = f := ⟨_, rfl⟩
   obtain ⟨dd, hdd⟩ : ∃ f, p.dead = f := ⟨_, rfl⟩
   obtain ⟨pr, hpr⟩ : ∃ f, p.priority = f := ⟨_, rfl⟩
   obtain ⟨dr, hdr⟩ : ∃ f, p.dr = f := ⟨_, rfl⟩
   obtain ⟨bdr, hbdr⟩ : ∃ f, p.bdr = f := ⟨_, rfl⟩
   have lG : Hid ((cs.drop 4).take 7 = (Ga' mk iv dd pr dr bdr (.slice pn nb cn))) := Hi (by rw [hcs.out, ← hmk, ← hiv, ← hdd, ← hpr, ← hdr, ← hbdr]; rfl)
   have hG2 : Hid (w2.rangeAt w.heap.size 4 (Ga' mk iv dd pr dr bdr (.slice pn nb cn))) := Hi (c07 hB2'.out 4 7 lG.out)
   have hBG : Hid (a06 (w2.alloc (.cells (Ga mk iv dd pr dr bdr (.slice pn nb cn)) 25)) w2.heap.size 25 (Ga' mk iv dd pr dr bdr (.slice pn nb cn))) := Hi (a06.new w2 _ _)
   have hkG : Hid (a02 (fun _ => False) w2 (w2.alloc (.cells (Ga mk iv dd pr dr bdr (.slice pn nb cn)) 25))) := Hi ((a02.refl _ _).alloc _)
   have hbody : Hid (BD = be 4 mk ++ be 2 (lo16 iv) ++ [2, UInt8.ofNat (lo8 pr)] ++ be 4 (lo32 dd) ++ be 4 dr ++ be 4 bdr ++ bes p.nbs) := Hi (by rw [← hBD'.out, bodyP_1 hty'.out, ← hmk, ← hiv, ← hdd, ← hpr, ← hdr, ← hbdr]; rfl)
   have hmk1 : mk < 4294967296 := by rw [← hmk]; exact hok.out.mask
   have hdr1 : dr < 4294967296 := by rw [← hdr]; exact hok.out.dr
   have hbdr1 : bdr < 4294967296 := by rw [← hbdr]; exact hok.out.bdr
   have hnbs : Hid (a0u w2 (.slice pn nb cn) p.nbs) := Hi hin2.out.n
   clear hmk hiv hdd hpr hdr hbdr
   go_upto_region 7 with (first | ((with_reducible refine a09 24 ?_); go_must (refine wpList_load_mid rfl 25 (.tmp 23) rfl w.heap.size 4 rfl _ _ hG2.out Try.underlying25 rfl b01 ?_)) | ((with_reducible refine a08 5 ?_); go_must (refine a07 rfl 25 (.tmp 5) (.tmp 24) rfl _ (Ga mk iv dd pr dr bdr (.slice pn nb cn)) rfl rfl b01 rfl (b0t _ _ _ _ _ _ _ (a03 _ _ _)) ?_)))
   generalize w2.alloc (.cells (Ga mk iv dd pr dr bdr (.slice pn nb cn)) 25) = wG at hBG hkG ⊢
   obtain ⟨U, hU, lU, hUl⟩ := f0q iv
   obtain ⟨D, hD, lD, hDl⟩ := f0q dd
   obtain ⟨P8, hP8, lP8, hP8l⟩ := f0p pr
   obtain ⟨pb, hpb⟩ : ∃ b, UInt8.ofNat P8 = b := ⟨_, rfl⟩
   have hpbv : bv pb = .int .u8 (P8 : Int) := by rw [← hpb]; exact g0m P8 lP8
   have wmk := d0g hmk1
   have wdr := d0g hdr1
   have wbdr := d0g hbdr1
   obtain ⟨X7, hX7⟩ : ∃ X, be 4 mk ++ be 2 U ++ [2, pb] ++ be 4 D = X := ⟨_, rfl⟩
   have hX7l : X7.length = 12 := by rw [← hX7]; simp [a0b]
   obtain ⟨X8, hX8⟩ : ∃ X, X7 ++ be 4 dr ++ be 4 bdr = X := ⟨_, rfl⟩
   have hX8l : X8.length = 20 := by rw [← hX8]; simp [a0b, hX7l]
   have hbody8 : Hid (BD = X8 ++ bes p.nbs) := Hi (by rw [hbody.out, ← hX8, ← hX7, ← be_lo16, ← q0p, hUl.out, hDl.out, hP8l.out, hpb])
   have hX7' := Hi hX7; have hX7l' := Hi hX7l; have hX8' := Hi hX8; have hX8l' := Hi hX8l; have hpb' := Hi hpb; have hpbv' := Hi hpbv
   clear hX7 hX7l hX8 hX8l hpb hpbv hbody hG2 lG
   refine wp_region_noPanic ?_
   refine wp_region_held_drew (S := (fun W => a02 (fun _ => False) wG W)) (by kernel_rfl) ((a02.refl (fun _ => False) _).drew) (fun hHeld => ?_)
   refine tk 0 rfl ?_
   refine tkL 1 rfl (a04 (by rfl) 22 (.tmp 25) rfl w2.heap.size 0 rfl _ (fun _ s => (hBG.out.keep s id).cell 0 _ rfl) (fun w s => b08 w _ _ _ s)) ?_
   refine tk 2 rfl ?_
   refine tk 4 rfl ?_
   refine tkL 5 rfl (a04 (by rfl) 3 (.tmp 29) rfl w2.heap.size 1 rfl _ (fun _ s => (hBG.out.keep s id).cell 1 _ rfl) (fun w s => a0t w _ _ _ s)) ?_
   refine tk 6 rfl ?_
   refine tk 9 rfl ?_
   refine tkL 10 rfl (a04 (by rfl) 3 (.tmp 34) rfl w2.heap.size 3 rfl _ (fun _ s => (hBG.out.keep s id).cell 3 _ rfl) (fun w s => a0t w _ _ _ s)) ?_
   refine tk 11 rfl ?_
   refine tk 14 rfl ?_
   refine tkL 15 rfl (a04 (by rfl) 3 (.tmp 39) rfl w2.heap.size 2 rfl _ (fun _ s => (hBG.out.keep s id).cell 2 _ rfl) (fun w s => a0t w _ _ _ s)) ?_
   refine tk 16 rfl ?_
   try rw [hU]
   try rw [hP8]
   try rw [hD]
   rw [← hpbv'.out]
   refine e0c [(⟨some 3, some 8, 28⟩, rsB wG (be 4 mk)), (⟨some 7, some 8, 32⟩, rsB wG (be 2 U)), (⟨some 8, some 13, 33⟩, rsB wG (be 4 mk ++ be 2 U)), (⟨some 12, some 13, 37⟩, rsB wG ([2, pb])), (⟨some 13, some 18, 38⟩, rsB wG (be 4 mk ++ be 2 U ++ [2, pb])), (⟨some 17, some 18, 42⟩, rsB wG (be 4 D)), (⟨some 18, some 19, 43⟩, rsB wG (X7)), (⟨some 19, none, 4⟩, rsB wG (X7))] [28, 32, 33, 37, 38, 42, 43, 4] [3, 7, 8, 12, 13, 17, 18, 19] (fun r => (([(8, [0, 1]), (13, [2, 3]), (18, [4, 5]), (19, [6])] : List (Nat × List Nat)).lookup r).getD []) (by kernel_rfl) (by kernel_rfl) (by kernel_rfl) (by kernel_rfl) (Nat.le_of_ble_eq_true (by kernel_rfl)) hHeld (by kernel_rfl) (ini0 (by kernel_rfl)) (p03 (by kernel_rfl)) ?_ ?_
   ·refine (RSts.cons (r := 3) (d := 28) rfl rfl (by decide) ?_ (RSts.cons (r := 7) (d := 32) rfl rfl (by decide) ?_ (RSts.cons (r := 8) (d := 33) rfl rfl (by decide) ?_ (RSts.cons (r := 12) (d := 37) rfl rfl (by decide) ?_ (RSts.cons (r := 13) (d := 38) rfl rfl (by decide) ?_ (RSts.cons (r := 17) (d := 42) rfl rfl (by decide) ?_ (RSts.cons (r := 18) (d := 43) rfl rfl (by decide) ?_ (RSts.cons (r := 19) (d := 4) rfl rfl (by decide) ?_ RSts.nil))))))))
    ·exact f0l (a := 27) (n := mk) (k := 4) rfl rfl (by decide) (by kernel_rfl) (by decide) rfl (be 4 mk) rfl (some 8) rfl (by omega) (by omega)
    ·exact f0l (a := 31) (n := U) (k := 2) rfl rfl (by decide) (by kernel_rfl) (by decide) rfl (be 2 U) rfl (some 8) rfl lU (by omega)
    ·exact f03 (a := 28) (b := 32) rfl rfl (by decide) j0 Try.underlying31 hj0 hj1 hj2 hj3 (by kernel_rfl) (by kernel_rfl) 0 1 (some 3) (some 7) (some 8) (some 13) (be 4 mk) (be 2 U) (be 4 mk ++ be 2 U) rfl rfl (by decide) (by decide) rfl (rfl) (by simp [a0b])
    ·exact l0h (b := 36) 2 pb rfl rfl rfl (by decide) (by kernel_rfl) (by decide) rfl (some 13) rfl
    ·exact f03 (a := 33) (b := 37) rfl rfl (by decide) j0 Try.underlying31 hj0 hj1 hj2 hj3 (by kernel_rfl) (by kernel_rfl) 2 3 (some 8) (some 12) (some 13) (some 18) (be 4 mk ++ be 2 U) ([2, pb]) (be 4 mk ++ be 2 U ++ [2, pb]) rfl rfl (by decide) (by decide) rfl (rfl) (by simp [a0b])
    ·exact f0l (a := 41) (n := D) (k := 4) rfl rfl (by decide) (by kernel_rfl) (by decide) rfl (be 4 D) rfl (some 18) rfl lD (by omega)
    ·exact f03 (a := 38) (b := 42) rfl rfl (by decide) j0 Try.underlying31 hj0 hj1 hj2 hj3 (by kernel_rfl) (by kernel_rfl) 4 5 (some 13) (some 17) (some 18) (some 19) (be 4 mk ++ be 2 U ++ [2, pb]) (be 4 D) (X7) rfl rfl (by decide) (by decide) rfl (hX7'.out) (by rw [hX7l'.out]; omega)
    ·exact k03 (a := 43) rfl rfl (by decide) (by kernel_rfl) 6 (some 18) none _ rfl (by decide) rfl
   ·intro f W hS hfin hsep
    have hO : OwnB wG W (f 4) X7 := hfin 7 _ rfl rfl
    obtain ⟨q, d, h4⟩ := hO.slice
    rw [hX7l'.out] at h4
    simp only [a0r, List.foldl_cons, List.foldl_nil, Act.put, sA, sZ, sS]
    rw [h4] at hO ⊢
    have hO7 := Hi hO; have hS7 := Hi hS
    generalize f 28 = f28
    generalize f 32 = f32
    generalize f 33 = f33
    generalize f 37 = f37
    generalize f 38 = f38
    generalize f 42 = f42
    generalize f 43 = f43
    clear hO hS hfin hsep h4 hHeld hU hD hP8
    refine NoPanic.normal ?_
    go_upto_region 8 with fail
    have hO7d : Hid (OwnB wG W.drew (.slice q 12 d) X7) := Hi (hO7.out.keep ((a02.refl (fun _ => False) _).drew) (fun _ _ f => f))
    refine wp_region_noPanic ?_
    refine wp_region_held_drew (S := (fun W => a02 (fun _ => False) wG W)) (by kernel_rfl) (hS7.out.drew) (fun hHeld => ?_)
    refine tk 0 rfl ?_
    refine tk 1 rfl ?_
    refine tkL 2 rfl (a04 (by rfl) 22 (.tmp 45) rfl w2.heap.size 4 rfl _ (fun _ s => (hBG.out.keep s id).cell 4 _ rfl) (fun w s => b08 w _ _ _ s)) ?_
    refine tk 3 rfl ?_
    refine tk 6 rfl ?_
    refine tkL 7 rfl (a04 (by rfl) 22 (.tmp 50) rfl w2.heap.size 5 rfl _ (fun _ s => (hBG.out.keep s id).cell 5 _ rfl) (fun w s => b08 w _ _ _ s)) ?_
    refine tk 8 rfl ?_
    refine e0c [(⟨none, some 5, 44⟩, rsB wG (X7)), (⟨some 4, some 5, 48⟩, rsB wG (be 4 dr)), (⟨some 5, some 10, 49⟩, rsB wG (X7 ++ be 4 dr)), (⟨some 9, some 10, 53⟩, rsB wG (be 4 bdr)), (⟨some 10, some 11, 54⟩, rsB wG (X8)), (⟨some 11, none, 4⟩, rsB wG (X8))] [48, 49, 53, 54, 4] [4, 5, 9, 10, 11] (fun r => (([(5, [0, 1]), (10, [2, 3]), (11, [4])] : List (Nat × List Nat)).lookup r).getD []) (by kernel_rfl) (by kernel_rfl) (by kernel_rfl) (by kernel_rfl) (Nat.le_of_ble_eq_true (by kernel_rfl)) hHeld (by kernel_rfl) (iniC (hO7d.out) (ini0 (by kernel_rfl))) (n0e (sepN (by kernel_rfl)) (p03 (by kernel_rfl))) ?_ ?_
    ·refine (RSts.cons (r := 4) (d := 48) rfl rfl (by decide) ?_ (RSts.cons (r := 5) (d := 49) rfl rfl (by decide) ?_ (RSts.cons (r := 9) (d := 53) rfl rfl (by decide) ?_ (RSts.cons (r := 10) (d := 54) rfl rfl (by decide) ?_ (RSts.cons (r := 11) (d := 4) rfl rfl (by decide) ?_ RSts.nil)))))
     ·exact f0l (a := 47) (n := dr) (k := 4) rfl rfl (by decide) (by kernel_rfl) (by decide) rfl (be 4 dr) rfl (some 5) rfl (by omega) (by omega)
     ·exact f03 (a := 44) (b := 48) rfl rfl (by decide) j0 Try.underlying31 hj0 hj1 hj2 hj3 (by kernel_rfl) (by kernel_rfl) 0 1 none (some 4) (some 5) (some 10) (X7) (be 4 dr) (X7 ++ be 4 dr) rfl rfl (by decide) (by decide) rfl (rfl) (by simp [a0b, hX7l'.out])
     ·exact f0l (a := 52) (n := bdr) (k := 4) rfl rfl (by decide) (by kernel_rfl) (by decide) rfl (be 4 bdr) rfl (some 10) rfl (by omega) (by omega)
     ·exact f03 (a := 49) (b := 53) rfl rfl (by decide) j0 Try.underlying31 hj0 hj1 hj2 hj3 (by kernel_rfl) (by kernel_rfl) 2 3 (some 5) (some 9) (some 10) (some 11) (X7 ++ be 4 dr) (be 4 bdr) (X8) rfl rfl (by decide) (by decide) rfl (hX8'.out) (by rw [hX8l'.out]; omega)
     ·exact k03 (a := 54) rfl rfl (by decide) (by kernel_rfl) 4 (some 10) none _ rfl (by decide) rfl
    ·intro f W hS hfin hsep
     have hO : OwnB wG W (f 4) X8 := hfin 5 _ rfl rfl
     obtain ⟨q, d, h4⟩ := hO.slice
     rw [hX8l'.out] at h4
     simp only [a0r, List.foldl_cons, List.foldl_nil, Act.put, sA, sZ, sS]
     rw [h4] at hO ⊢
     have hO8 := Hi hO; have hS8 := Hi hS
     generalize f 48 = f48
     generalize f 49 = f49
     generalize f 53 = f53
     generalize f 54 = f54
     clear hO hS hfin hsep h4 hHeld hO7 hS7 hO7d
     refine NoPanic.normal ?_
     go_wp2_with fail
     go_loopw [4, 6] (fun bw iv wr => ∃ (k : Nat) (q : Option Addr) (N d : Nat), k ≤ nb ∧ N = 20 + 4 * k ∧ iv = .int .i64 k ∧ bw = .slice q N d ∧ Hid (OwnB wG wr (.slice q N d) (X8 ++ bes (p.nbs.take k)) ∧ a02 (fun _ => False) wG wr)) (fun _ iv _ => nb - (intOf iv).toNat)
     case atStart => exact ⟨0, q, 20, d, by omega, by omega, rfl, rfl, Hi ⟨by simpa [bes] using hO8.out, hS8.out⟩⟩
     case round =>
      obtain ⟨k, q, N, d, hk, hN, rfl, rfl, hinv⟩ := hrel
      have g6 := (hBG.out.keep hinv.out.2 id).cell 6 (.slice pn nb cn) rfl
      have hN' := Hi hN
      clear hN
      by_cases hkn : k < nb
      ·obtain ⟨x, hx⟩ : ∃ x, p.nbs[k]? = some x := ⟨_, List.getElem?_eq_getElem (by rw [hnb'.out]; exact hkn)⟩
       obtain ⟨g, o, rfl, hrows⟩ := a0u.open (by rw [hnb'.out]; exact hnbs.out) (by rw [hnb'.out]; omega)
       have hcx : wr.cell? ⟨g, o + k, none⟩ = some (.int .u32 x) := by
        have := (hkG.out.trans hinv.out.2).rangeAt hrows id
        exact this k _ (by rw [List.getElem?_map, hx]; rfl)
       have hx1 : x < 4294967296 := hok.out.nbs x (List.mem_of_getElem? hx)
       have wx := d0g hx1
       have htk : Hid (p.nbs.take (k + 1) = p.nbs.take k ++ [x]) := Hi (by
        obtain ⟨hk2, e⟩ := List.getElem?_eq_some_iff.1 hx
        rw [List.take_succ_eq_append_getElem hk2, e])
       have hx' := Hi hx
       clear hx hrows
       go_wp2_with fail
       refine (i03 x 4 (by omega) (by omega) _).mono ?_
       rintro e w3 ⟨q3, c3, rfl, hO3, k3⟩
       rw [a0b] at hO3 ⊢
       have hb3 := Hi hO3.bytes
       have hO4 := Hi (hinv.out.1.keep k3 (fun _ _ f => f))
       have hk4 := Hi (hinv.out.2.trans k3)
       have hlen : (X8 ++ bes (p.nbs.take k)).length = N := by rw [List.length_append, hX8l'.out, d0u, List.length_take, hnb'.out, hN'.out]; omega
       have hlen' := Hi hlen
       obtain ⟨Y, hY⟩ : ∃ Y, X8 ++ bes (p.nbs.take k) = Y := ⟨_, rfl⟩
       rw [hY] at hO4 hlen'
       have hY' := Hi hY
       clear hO3 k3 hinv g6 hcx hlen hY
       go_wp2_with ((with_reducible refine a09 70 ?_); go_must (refine a0f rfl (.tmp 62) (.tmp 69) 31 rfl j0 Try.underlying31 hj0 hj1 hj2 hj3 wG _ Y rfl hO4.out _ rfl (be 4 x) hb3.out (by rw [a0b, hlen'.out, hN'.out]; omega) ?_; intro q5 d5 w5 hO5 hg5))
       have hk5 := Hi (hO4.out.keeps hk4.out hg5.out)
       refine ⟨⟨k + 1, q5, Y.length + (be 4 x).length, d5, by omega, by rw [a0b, hlen'.out, hN'.out]; omega, by go_num, rfl, Hi ⟨?_, hk5.out⟩⟩, by simp [intOf]; omega⟩
       rw [htk.out, l09, ← List.append_assoc, hY'.out]
       exact hO5.out
      ·obtain rfl : k = nb := by omega
       have hfinal : Hid (OwnB w2 wr (.slice q N d) BD) := Hi (by
        have := hinv.out.1
        rw [List.take_of_length_le (by rw [hnb'.out]; exact Nat.le_refl _), ← hbody8.out] at this
        exact this.older hkG.out.size)
       have hNe : Hid (N = NB) := Hi (by
        have h1 := hfinal.out.1.1
        obtain ⟨q', c', e⟩ := hfinal.out.slice
        injection e with e1 e2 e3
        rw [e2, hNB'.out])
       have hkw := Hi (hkG.out.trans hinv.out.2)
       clear hinv hN' 
       go_wp2_with fail
       go_meet
       case rel => exact ⟨⟨q, d, by rw [hNe.out], by rw [← hNe.out]; exact hfinal⟩, hkw⟩
  ·skip
   obtain ⟨fl, hfl⟩ : ∃ f, p.flags = f := ⟨_, rfl⟩
   obtain ⟨sq, hsq⟩ : ∃ f, p.seq = f := ⟨_, rfl⟩
   have l11 := Hi (show cs[11]? = some (.int .i64 fl) by rw [hcs.out, ← hfl]; rfl)
   have l12 := Hi (show cs[12]? = some (.int .u32 sq) by rw [hcs.out, ← hsq]; rfl)
   have hsq1 : sq < 4294967296 := by rw [← hsq]; exact hok.out.seq
   obtain ⟨P8, hP8, lP8, hP8l⟩ := f0p fl
   obtain ⟨fb, hfb⟩ : ∃ b, UInt8.ofNat P8 = b := ⟨_, rfl⟩
   have hfbv : bv fb = .int .u8 (P8 : Int) := by rw [← hfb]; exact g0m P8 lP8
   have hfbv' := Hi hfbv
   have hbody : Hid ([5, 220, 2, fb] ++ be 4 sq = BD) := Hi (by rw [← hBD'.out, bodyP_2 hty'.out, hfl, hsq, ← hfb, ← hP8l.out])
   have hBl : Hid (BD.length ≤ 10084) := Hi (by rw [hNB'.out]; exact hbl)
   clear hfl hsq hfb hfbv
   have wsq := d0g hsq1
   go_upto_region 14 with fail
   refine wp_region_noPanic ?_
   refine wp_region_held_drew (S := (fun W => a02 (fun _ => False) w2 W)) (by kernel_rfl) ((a02.refl (fun _ => False) _).drew) (fun hHeld => ?_)
   refine tk 0 rfl ?_
   refine tkL 1 rfl (a04 (by rfl) 3 (.tmp 73) rfl w.heap.size 11 rfl _ (fun _ s => hwid.out _ s 11 _ l11.out) (fun w s => a0t w _ _ _ s)) ?_
   refine tk 2 rfl ?_
   refine tk 4 rfl ?_
   refine tkL 5 rfl (a04 (by rfl) 22 (.tmp 77) rfl w.heap.size 12 rfl _ (fun _ s => hwid.out _ s 12 _ l12.out) (fun w s => b08 w _ _ _ s)) ?_
   refine tk 6 rfl ?_
   try rw [hP8]
   rw [← hfbv'.out]
   refine e0c [(⟨some 3, some 8, 76⟩, rsB w2 ([5, 220, 2, fb])), (⟨some 7, some 8, 80⟩, rsB w2 (be 4 sq)), (⟨some 8, some 9, 81⟩, rsB w2 (BD)), (⟨some 9, none, 4⟩, rsB w2 (BD))] [76, 80, 81, 4] [3, 7, 8, 9] (fun r => (([(8, [0, 1]), (9, [2])] : List (Nat × List Nat)).lookup r).getD []) (by kernel_rfl) (by kernel_rfl) (by kernel_rfl) (by kernel_rfl) (Nat.le_of_ble_eq_true (by kernel_rfl)) hHeld (by kernel_rfl) (ini0 (by kernel_rfl)) (p03 (by kernel_rfl)) ?_ ?_
   ·refine (RSts.cons (r := 3) (d := 76) rfl rfl (by decide) ?_ (RSts.cons (r := 7) (d := 80) rfl rfl (by decide) ?_ (RSts.cons (r := 8) (d := 81) rfl rfl (by decide) ?_ (RSts.cons (r := 9) (d := 4) rfl rfl (by decide) ?_ RSts.nil))))
    ·exact l0g (b := 75) 5 220 2 fb rfl rfl rfl (by decide) (by kernel_rfl) (by decide) rfl (some 8) rfl
    ·exact f0l (a := 79) (n := sq) (k := 4) rfl rfl (by decide) (by kernel_rfl) (by decide) rfl (be 4 sq) rfl (some 8) rfl (by omega) (by omega)
    ·exact f03 (a := 76) (b := 80) rfl rfl (by decide) j0 Try.underlying31 hj0 hj1 hj2 hj3 (by kernel_rfl) (by kernel_rfl) 0 1 (some 3) (some 7) (some 8) (some 9) ([5, 220, 2, fb]) (be 4 sq) (BD) rfl rfl (by decide) (by decide) rfl (hbody.out) (Nat.le_trans hBl.out (by omega))
    ·exact k03 (a := 81) rfl rfl (by decide) (by kernel_rfl) 2 (some 8) none _ rfl (by decide) rfl
   ·intro f W hS hfin hsep
    have hO : OwnB w2 W (f 4) BD := hfin 3 _ rfl rfl
    obtain ⟨q, d, h4⟩ := hO.slice
    rw [hNB'.out] at h4
    simp only [a0r, List.foldl_cons, List.foldl_nil, Act.put, sA, sZ, sS]
    rw [h4] at hO ⊢
    have hO8 := Hi hO; have hS8 := Hi hS
    generalize f 76 = f76
    generalize f 80 = f80
    generalize f 81 = f81
    clear hO hS hfin hsep h4 hHeld hP8 wsq
    refine NoPanic.normal ?_
    go_wp2_with fail
    go_meet
    case rel => exact ⟨⟨q, d, rfl, hO8⟩, hS8⟩
  ·skip
   have hks : Hid (h0z w2 (.slice pk nk ck) p.keys) := Hi hin2.out.k
   have hbody : Hid (f0m p.keys = BD) := Hi (by rw [← hBD'.out, bodyP_3 hty'.out])
   go_wp2_with fail
   go_loopw [4, 7] (fun bw iv wr => ∃ (k : Nat) (q : Option Addr) (N d : Nat), k ≤ nk ∧ N = 12 * k ∧ iv = .int .i64 k ∧ bw = .slice q N d ∧ Hid (OwnB w2 wr (.slice q N d) (f0m (p.keys.take k)) ∧ a02 (fun _ => False) w2 wr)) (fun _ iv _ => nk - (intOf iv).toNat)
   case atStart => exact ⟨0, none, 0, 0, by omega, by omega, rfl, rfl, Hi ⟨by simpa [f0m] using OwnB.nil w2 w2 (Nat.le_refl _), a02.refl _ _⟩⟩
   case round =>
    obtain ⟨k, q, N, d, hk, hN, rfl, rfl, hinv⟩ := hrel
    have g14 := hwid.out _ hinv.out.2 14 _ l14.out
    have hN' := Hi hN
    clear hN
    by_cases hkn : k < nk
    ·have hkni : (k : Int) < nk := by omega
     obtain ⟨x, hx⟩ : ∃ x, p.keys[k]? = some x := ⟨_, List.getElem?_eq_getElem (by rw [hnk'.out]; exact hkn)⟩
     obtain ⟨g, o, rfl, hrows⟩ := a0q.open hks.out (by rw [hnk'.out]; omega)
     have hrow := hrows k x hx
     have hxok := hok.out.keys x (List.mem_of_getElem? hx)
     have htk : p.keys.take (k + 1) = p.keys.take k ++ [x] := by
      obtain ⟨hk2, e⟩ := List.getElem?_eq_some_iff.1 hx
      rw [List.take_succ_eq_append_getElem hk2, e]
     obtain ⟨kt, ki, ka⟩ := x
     obtain ⟨hki, hka⟩ := hxok
     simp only at hki hka
     have hrow : Hid (w2.rangeAt g (o + k * 3) [.int .i64 kt, .int .u32 ki, .int .u32 ka]) := Hi hrow
     obtain ⟨T, hT, lT, hTl⟩ := f0q kt
     have wki := d0g hki
     have wka := d0g hka
     obtain ⟨Y, hY⟩ : ∃ Y, f0m (p.keys.take k) = Y := ⟨_, rfl⟩
     have hYl : Y.length = 12 * k := by rw [← hY, g06, List.length_take, hnk'.out]; omega
     obtain ⟨Z, hZ⟩ : ∃ Z, f0m (p.keys.take (k + 1)) = Z := ⟨_, rfl⟩
     have hZl : Z.length = 12 * k + 12 := by rw [← hZ, g06, List.length_take, hnk'.out]; omega
     have hYZ : Hid (Y ++ be 4 T ++ be 4 ki ++ be 4 ka = Z) := Hi (by
      rw [← hZ, htk, k0f, hY]
      unfold keyB
      rw [← q0p, hTl.out]; simp)
     have hOk : Hid (OwnB w2 wr.drew (.slice q N d) Y) := Hi (by rw [← hY]; exact hinv.out.1.keep ((a02.refl (fun _ => False) _).drew) (fun _ _ f => f))
     have hkw := Hi hinv.out.2
     have hYl' := Hi hYl; have hZl' := Hi hZl; have hZ' := Hi hZ
     clear hx hrows hinv hYl hZl hY hZ htk
     go_upto_region 19 with fail
     clear g14
     refine wp_region_noPanic ?_
     refine wp_region_held_drew (S := (fun W => a02 (fun _ => False) w2 W)) (by kernel_rfl) (hkw.out.drew) (fun hHeld => ?_)
     refine tk 0 rfl ?_
     refine tk 1 rfl ?_
     refine tkL 2 rfl (a04 (by rfl) 27 (.tmp 92) rfl w.heap.size 14 rfl _ (fun _ s => hwid.out _ s 14 _ l14.out) (fun w s => d0z w _ _ _ s)) ?_
     refine tk 3 rfl ?_
     refine tk 4 rfl ?_
     refine tk 5 rfl ?_
     refine tkL 6 rfl (a04 (by rfl) 3 (.tmp 96) rfl g (o + k * 3) rfl _ (fun _ s => (s.rangeAt hrow.out id) 0 (.int .i64 kt) rfl) (fun w s => a0t w _ _ _ s)) ?_
     refine tk 7 rfl ?_
     refine tk 10 rfl ?_
     refine tkL 11 rfl (a04 (by rfl) 27 (.tmp 101) rfl w.heap.size 14 rfl _ (fun _ s => hwid.out _ s 14 _ l14.out) (fun w s => d0z w _ _ _ s)) ?_
     refine tk 12 rfl ?_
     refine tk 13 rfl ?_
     refine tk 14 rfl ?_
     refine tkL 15 rfl (a04 (by rfl) 22 (.tmp 105) rfl g (o + k * 3 + 1) rfl _ (fun _ s => (s.rangeAt hrow.out id) 1 (.int .u32 ki) rfl) (fun w s => b08 w _ _ _ s)) ?_
     refine tk 16 rfl ?_
     refine tk 19 rfl ?_
     refine tkL 20 rfl (a04 (by rfl) 27 (.tmp 110) rfl w.heap.size 14 rfl _ (fun _ s => hwid.out _ s 14 _ l14.out) (fun w s => d0z w _ _ _ s)) ?_
     refine tk 21 rfl ?_
     refine tk 22 rfl ?_
     refine tk 23 rfl ?_
     refine tkL 24 rfl (a04 (by rfl) 22 (.tmp 114) rfl g (o + k * 3 + 2) rfl _ (fun _ s => (s.rangeAt hrow.out id) 2 (.int .u32 ka) rfl) (fun w s => b08 w _ _ _ s)) ?_
     refine tk 25 rfl ?_
     try rw [hT]
     refine e0c [(⟨none, some 9, 91⟩, rsB w2 (Y)), (⟨some 8, some 9, 99⟩, rsB w2 (be 4 T)), (⟨some 9, some 18, 100⟩, rsB w2 (Y ++ be 4 T)), (⟨some 17, some 18, 108⟩, rsB w2 (be 4 ki)), (⟨some 18, some 27, 109⟩, rsB w2 (Y ++ be 4 T ++ be 4 ki)), (⟨some 26, some 27, 117⟩, rsB w2 (be 4 ka)), (⟨some 27, some 28, 118⟩, rsB w2 (Z)), (⟨some 28, none, 4⟩, rsB w2 (Z))] [99, 100, 108, 109, 117, 118, 4] [8, 9, 17, 18, 26, 27, 28] (fun r => (([(9, [0, 1]), (18, [2, 3]), (27, [4, 5]), (28, [6])] : List (Nat × List Nat)).lookup r).getD []) (by kernel_rfl) (by kernel_rfl) (by kernel_rfl) (by kernel_rfl) (Nat.le_of_ble_eq_true (by kernel_rfl)) hHeld (by kernel_rfl) (iniC (hOk.out) (ini0 (by kernel_rfl))) (n0e (sepN (by kernel_rfl)) (p03 (by kernel_rfl))) ?_ ?_
     ·refine (RSts.cons (r := 8) (d := 99) rfl rfl (by decide) ?_ (RSts.cons (r := 9) (d := 100) rfl rfl (by decide) ?_ (RSts.cons (r := 17) (d := 108) rfl rfl (by decide) ?_ (RSts.cons (r := 18) (d := 109) rfl rfl (by decide) ?_ (RSts.cons (r := 26) (d := 117) rfl rfl (by decide) ?_ (RSts.cons (r := 27) (d := 118) rfl rfl (by decide) ?_ (RSts.cons (r := 28) (d := 4) rfl rfl (by decide) ?_ RSts.nil)))))))
      ·exact f0l (a := 98) (n := T) (k := 4) rfl rfl (by decide) (by kernel_rfl) (by decide) rfl (be 4 T) rfl (some 9) rfl lT (by omega)
      ·exact f03 (a := 91) (b := 99) rfl rfl (by decide) j0 Try.underlying31 hj0 hj1 hj2 hj3 (by kernel_rfl) (by kernel_rfl) 0 1 none (some 8) (some 9) (some 18) (Y) (be 4 T) (Y ++ be 4 T) rfl rfl (by decide) (by decide) rfl (rfl) (by simp [a0b, hYl'.out]; omega)
      ·exact f0l (a := 107) (n := ki) (k := 4) rfl rfl (by decide) (by kernel_rfl) (by decide) rfl (be 4 ki) rfl (some 18) rfl (by omega) (by omega)
      ·exact f03 (a := 100) (b := 108) rfl rfl (by decide) j0 Try.underlying31 hj0 hj1 hj2 hj3 (by kernel_rfl) (by kernel_rfl) 2 3 (some 9) (some 17) (some 18) (some 27) (Y ++ be 4 T) (be 4 ki) (Y ++ be 4 T ++ be 4 ki) rfl rfl (by decide) (by decide) rfl (rfl) (by simp [a0b, hYl'.out]; omega)
      ·exact f0l (a := 116) (n := ka) (k := 4) rfl rfl (by decide) (by kernel_rfl) (by decide) rfl (be 4 ka) rfl (some 27) rfl (by omega) (by omega)
      ·exact f03 (a := 109) (b := 117) rfl rfl (by decide) j0 Try.underlying31 hj0 hj1 hj2 hj3 (by kernel_rfl) (by kernel_rfl) 4 5 (some 18) (some 26) (some 27) (some 28) (Y ++ be 4 T ++ be 4 ki) (be 4 ka) (Z) rfl rfl (by decide) (by decide) rfl (hYZ.out) (by rw [hZl'.out]; omega)
      ·exact k03 (a := 118) rfl rfl (by decide) (by kernel_rfl) 6 (some 27) none _ rfl (by decide) rfl
     ·intro f W hS hfin hsep
      have hO : OwnB w2 W (f 4) Z := hfin 7 _ rfl rfl
      obtain ⟨q5, d5, h4⟩ := hO.slice
      simp only [a0r, List.foldl_cons, List.foldl_nil, Act.put, sA, sZ, sS]
      rw [h4] at hO ⊢
      have hO8 := Hi hO; have hS8 := Hi hS
      generalize f 99 = f99
      generalize f 100 = f100
      generalize f 108 = f108
      generalize f 109 = f109
      generalize f 117 = f117
      generalize f 118 = f118
      clear hO hS hfin hsep h4 hHeld hT wki wka hOk
      refine NoPanic.normal ?_
      go_wp2_with fail
      refine ⟨⟨k + 1, q5, Z.length, d5, by omega, by rw [hZl'.out]; omega, by go_num, rfl, Hi ⟨?_, hS8.out⟩⟩, by simp [intOf]; omega⟩
      rw [hZ'.out]; exact hO8.out
    ·obtain rfl : k = nk := by omega
     have hfinal : Hid (OwnB w2 wr (.slice q N d) BD) := Hi (by
      have := hinv.out.1
      rw [List.take_of_length_le (by rw [hnk'.out]; exact Nat.le_refl _), hbody.out] at this
      exact this)
     have hNe : Hid (N = NB) := Hi (by
      obtain ⟨q', c', e⟩ := hfinal.out.slice
      injection e with e1 e2 e3
      rw [e2, hNB'.out])
     have hkw := Hi hinv.out.2
     clear hinv hN'
     go_wp2_with fail
     go_meet
     case rel => exact ⟨⟨q, d, by rw [hNe.out], by rw [← hNe.out]; exact hfinal⟩, hkw⟩
  ·skip
   have hbody : Hid (be 4 nl ++ d0r p.lsas = BD) := Hi (by rw [← hBD'.out, bodyP_4 hty'.out, hnl'.out])
   obtain ⟨ms, hms, hrL, hins⟩ := hin2.out.l
   have hms' := Hi hms; have hrL' := Hi hrL; have hins' := Hi hins
   have hml' : Hid (ms.length = nl) := Hi (by rw [← hnl'.out, ← hms, List.length_map])
   have g15 := hwid.out _ (a02.refl _ _) 15 _ l15.out
   have wnl : IntKind.u64.wrap (nl : Int) = (nl : Int) := IntWalk.u64_in _ (by omega)
   clear hms hrL hins
   go_wp2_with fail
   refine (i03 nl 4 (by omega) (by omega) _).mono ?_
   rintro e w3 ⟨q3, c3, rfl, hO3, k3⟩
   rw [a0b] at hO3 ⊢
   have hO3' := Hi hO3; have k3' := Hi k3
   clear hO3 k3 g15 wnl
   go_wp2_with fail
   go_loopw [4, 8] (fun bw iv wr => ∃ (k : Nat) (q : Option Addr) (N d : Nat), k ≤ nl ∧ iv = .int .i64 k ∧ bw = .slice q N d ∧ Hid (N ≤ 10084 ∧ (be 4 nl ++ d0r (p.lsas.take k)).length = N ∧ OwnB w2 wr (.slice q N d) (be 4 nl ++ d0r (p.lsas.take k)) ∧ a02 (fun _ => False) w2 wr)) (fun _ iv _ => nl - (intOf iv).toNat)
   case atStart => exact ⟨0, q3, 4, c3, by omega, rfl, rfl, Hi ⟨by omega, by simp [d0r, a0b], by simpa [d0r] using hO3'.out.older (Nat.le_refl _), k3'.out⟩⟩
   case round =>
    obtain ⟨k, q, N, d, hk, rfl, rfl, hinv⟩ := hrel
    have g15 := hwid.out _ hinv.out.2.2.2 15 _ l15.out
    by_cases hkn : k < nl
    ·have hkni : (k : Int) < nl := by omega
     obtain ⟨m, hll⟩ : ∃ m, ms[k]? = some m := ⟨_, List.getElem?_eq_getElem (by rw [hml'.out]; exact hkn)⟩
     have hin1 := (hins'.out m (List.mem_of_getElem? hll)).keep hinv.out.2.2.2
     have hdl : p.lsas[k]? = some m.d := by rw [← hms'.out, List.getElem?_map, hll]; rfl
     have hlok := hok.out.lsas m.d (List.mem_of_getElem? hdl)
     have hcm : canB m.d = true := List.all_eq_true.1 hall'.out m.d (List.mem_of_getElem? hdl)
     obtain ⟨g, o, rfl, hrows⟩ := a0q.open (a0q.keep (by rw [← hml'.out] at hrL'; exact hrL'.out) hinv.out.2.2.2) (by rw [hml'.out]; omega)
     have hrow := hrows k m hll
     have htk : p.lsas.take (k + 1) = p.lsas.take k ++ [m.d] := by
      obtain ⟨hk2, e⟩ := List.getElem?_eq_some_iff.1 hdl
      rw [List.take_succ_eq_append_getElem hk2, e]
     have hsn : Hid (be 4 nl ++ d0r (p.lsas.take (k + 1)) = be 4 nl ++ d0r (p.lsas.take k) ++ putB m.d) := Hi (by rw [htk, k0d, List.append_assoc])
     have hbnd : Hid ((be 4 nl ++ d0r (p.lsas.take (k + 1))).length ≤ 10084) := Hi (by
      have := k0e (p.lsas.take (k + 1)) (fun l hl => List.all_eq_true.1 hall'.out l (List.mem_of_mem_take hl)) 20 (by rw [List.length_take]; omega)
      rw [List.length_append, a0b]; omega)
     clear hll hdl htk hrows
     obtain ⟨⟨age, type, lid, adv, seq, links, mask, routers, cost⟩, p5, c5, p7, c7⟩ := m
     obtain ⟨o1, o2, o3, o4, o5, o6, o7⟩ := hlok
     obtain ⟨hl1, hl2⟩ := hin1
     simp only at o1 o2 o3 o4 o5 o6 o7 hl1 hl2
     have o1' := Hi o1; have o2' := Hi o2; have hl1' := Hi hl1; have hl2' := Hi hl2; have hcm' := Hi hcm
     have hrow : Hid (wr.rangeAt g (o + k * 9) (La' age type lid adv seq (.slice p5 links.length c5) mask (.slice p7 routers.length c7) cost)) := Hi hrow
     obtain ⟨Y, hY⟩ : ∃ Y, be 4 nl ++ d0r (p.lsas.take k) = Y := ⟨_, rfl⟩
     rw [hY] at hinv hsn
     obtain ⟨Z, hZ⟩ : ∃ Z, putB ⟨age, type, lid, adv, seq, links, mask, routers, cost⟩ = Z := ⟨_, rfl⟩
     have hZ' := Hi hZ
     have hsn : Hid (be 4 nl ++ d0r (p.lsas.take (k + 1)) = Y ++ Z) := Hi (by rw [← hZ]; exact hsn.out)
     have hZl := m0y hcm
     rw [hZ] at hZl
     clear o1 o2 hl1 hl2 hcm hY hZ
     go_wp2_with ((with_reducible refine a09 138 ?_); go_must (refine wpList_load_mid rfl 80 (.tmp 137) rfl g (o + k * 9) rfl _ _ hrow.out Try.underlying80 rfl a0n ?_))
     refine (d0p age type seq cost lid adv mask links routers p5 p7 c5 c7 _ hl1' hl2' o1' o2' o3 o4 o5 hcm').mono ?_
     rintro e w5 ⟨q5, c5', rfl, hO5, k5⟩
     rw [hZ'.out] at hO5 ⊢
     have hb5 := Hi hO5.bytes
     have hO6 := Hi (hinv.out.2.2.1.keep k5 (fun _ _ f => f))
     have hk6 := Hi (hinv.out.2.2.2.trans k5)
     have hYl := Hi hinv.out.2.1
     have hN1 : N ≤ 10084 := hinv.out.1
     clear hO5 k5 hinv g15 hrow hl1' hl2'
     go_wp2_with ((with_reducible refine a09 144 ?_); go_must (refine a0f rfl (.tmp 142) (.tmp 143) 31 rfl j0 Try.underlying31 hj0 hj1 hj2 hj3 w2 _ Y rfl hO6.out _ rfl Z hb5.out (by rw [hYl.out]; omega) ?_; intro q7 d7 w7 hO7 hg7))
     have hk7 := Hi (hO6.out.keeps hk6.out hg7.out)
     refine ⟨⟨k + 1, q7, Y.length + Z.length, d7, by omega, by go_num, rfl, Hi ⟨?_, ?_, ?_, hk7.out⟩⟩, by simp [intOf]; omega⟩
     ·have := hbnd.out; rw [hsn.out, List.length_append] at this; exact this
     ·rw [hsn.out, List.length_append]
     ·rw [hsn.out]; exact hO7.out
    ·obtain rfl : k = nl := by omega
     have hfinal : Hid (OwnB w2 wr (.slice q N d) BD) := Hi (by
      have := hinv.out.2.2.1
      rw [List.take_of_length_le (by rw [hnl'.out]; exact Nat.le_refl _), hbody.out] at this
      exact this)
     have hNe : Hid (N = NB) := Hi (by
      obtain ⟨q', c', e⟩ := hfinal.out.slice
      injection e with e1 e2 e3
      rw [e2, hNB'.out])
     have hkw := Hi hinv.out.2.2.2
     clear hinv
     go_wp2_with fail
     go_meet
     case rel => exact ⟨⟨q, d, by rw [hNe.out], by rw [← hNe.out]; exact hfinal⟩, hkw⟩
  ·skip
   have hbody : Hid (BD = []) := Hi (by rw [← hBD'.out, bodyP_5 hty'.out])
   have hNe : Hid (NB = 0) := Hi (by rw [← hNB'.out, hbody.out]; rfl)
   have hOe : Hid (OwnB w2 w2 (.slice none NB 0) BD) := Hi (by rw [hNe.out, hbody.out]; exact OwnB.nil _ _ (Nat.le_refl _))
   go_wp2_with fail
   go_meet
   case rel => exact ⟨⟨none, 0, by rw [hNe.out], hOe⟩, Hi (a02.refl _ _)⟩
 case rest =>
  obtain ⟨⟨q, d, rfl, hO⟩, hk⟩ := hcut
  have hhs : Hid (g0b w2 (.slice ph nh ch) p.heads) := Hi hin2.out.h
  go_wp2_with fail
  go_loopw [4, 11] (fun bw iv wr => ∃ (k : Nat) (q : Option Addr) (N d : Nat), k ≤ nh ∧ N = NB + 20 * k ∧ iv = .int .i64 k ∧ bw = .slice q N d ∧ Hid (OwnB w2 wr (.slice q N d) (BD ++ c0u (p.heads.take k)) ∧ a02 (fun _ => False) w2 wr)) (fun _ iv _ => nh - (intOf iv).toNat)
  case atStart => exact ⟨0, q, NB, d, by omega, by omega, rfl, rfl, Hi ⟨by simpa [c0u] using hO.out, hk.out⟩⟩
  case round =>
   obtain ⟨k, q, N, d, hkh, hN, rfl, rfl, hinv⟩ := hrel
   have g13 := hwid.out _ hinv.out.2 13 _ l13.out
   have hN' := Hi hN
   by_cases hkn : k < nh
   ·have hNle : N ≤ 20000 := by omega
    clear hN
    have hkni : (k : Int) < nh := by omega
    obtain ⟨x, hx⟩ : ∃ x, p.heads[k]? = some x := ⟨_, List.getElem?_eq_getElem (by rw [hnh'.out]; exact hkn)⟩
    obtain ⟨g, o, rfl, hrows⟩ := a0q.open (a0q.keep hhs.out hinv.out.2) (by rw [hnh'.out]; omega)
    have hrow := hrows k x hx
    have hxok := hok.out.heads x (List.mem_of_getElem? hx)
    have htk : p.heads.take (k + 1) = p.heads.take k ++ [x] := by
     obtain ⟨hk2, e⟩ := List.getElem?_eq_some_iff.1 hx
     rw [List.take_succ_eq_append_getElem hk2, e]
    obtain ⟨age, type, lid, adv, seq, sum, len⟩ := x
    obtain ⟨hki, hka, hks⟩ := hxok
    simp only at hki hka hks
    have hrow : Hid (wr.rangeAt g (o + k * 7) (Ha' age type lid adv seq sum len)) := Hi hrow
    obtain ⟨Y, hY⟩ : ∃ Y, BD ++ c0u (p.heads.take k) = Y := ⟨_, rfl⟩
    obtain ⟨X, hX⟩ : ∃ X, e09 ⟨age, type, lid, adv, seq, sum, len⟩ = X := ⟨_, rfl⟩
    have hXl : X.length = 20 := by rw [← hX]; exact c0x _
    have hYl : Y.length = N := by
     have := hinv.out.1
     rw [hY] at this
     obtain ⟨q', c', e⟩ := this.slice
     injection e with e1 e2 e3; exact e2.symm
    have hYZ : Hid (BD ++ c0u (p.heads.take (k + 1)) = Y ++ X) := Hi (by rw [htk, j0l, ← List.append_assoc, hY, hX])
    rw [hY] at hinv
    have hX' := Hi hX; have hXl' := Hi hXl; have hYl' := Hi hYl
    clear hx hrows htk hY hX hXl hYl
    go_wp2_with ((with_reducible refine a09 157 ?_); go_must (refine wpList_load_mid rfl 73 (.tmp 156) rfl g (o + k * 7) rfl _ _ hrow.out Try.underlying73 rfl g08 ?_))
    refine (d01 age type seq len lid adv sum hki hka hks _).mono ?_
    rintro e w5 ⟨q5, c5', rfl, hO5, k5⟩
    rw [hX'.out, hXl'.out] at hO5
    rw [hX'.out, hXl'.out]
    have hb5 := Hi hO5.bytes
    have hO6 := Hi (hinv.out.1.keep k5 (fun _ _ f => f))
    have hk6 := Hi (hinv.out.2.trans k5)
    clear hO5 k5 hinv g13 hrow
    go_wp2_with ((with_reducible refine a09 159 ?_); go_must (refine a0f rfl (.tmp 152) (.tmp 158) 31 rfl j0 Try.underlying31 hj0 hj1 hj2 hj3 w2 _ Y rfl hO6.out _ rfl X hb5.out (by rw [hYl'.out, hXl'.out]; omega) ?_; intro q7 d7 w7 hO7 hg7))
    have hk7 := Hi (hO6.out.keeps hk6.out hg7.out)
    refine ⟨⟨k + 1, q7, Y.length + X.length, d7, by omega, by rw [hYl'.out, hXl'.out, hN'.out]; omega, by go_num, rfl, Hi ⟨?_, hk7.out⟩⟩, by simp [intOf]; omega⟩
    rw [hYZ.out]; exact hO7.out
   ·obtain rfl : k = nh := by omega
    obtain ⟨T, hT⟩ : ∃ T, e05 p = T := ⟨_, rfl⟩
    have hTl : T.length ≤ 10084 := by rw [← hT]; exact h09 hz.out
    have hOT : OwnB w2 wr (.slice q N d) T := by
     have := hinv.out.1
     rw [List.take_of_length_le (by rw [hnh'.out]; exact Nat.le_refl _), ← hTB.out, hT] at this
     exact this
    have hTN : T.length = N := by
     obtain ⟨q', c', e⟩ := hOT.slice
     injection e with e1 e2 e3; exact e2.symm
    have hNle : N ≤ 10084 := by omega
    rw [hT] at hpl
    have hOT' := Hi hOT; have hkw := Hi hinv.out.2; have hT' := Hi hT; have hTN' := Hi hTN
    clear hinv hN' hN hOT hT hTN hTl hhs hO hk hways hTB
    obtain ⟨y8, hy8⟩ : ∃ y, y = p.auth.take 8 := ⟨_, rfl⟩
    have hk8 : Hid (h0i (d0q 8) 0 y8 = key8 p.auth) := Hi (by rw [hy8]; rfl)
    have ht8 : Hid (S.data.toList.take 8 = y8) := Hi (by rw [hSa.out, hy8])
    have hl8 : Hid (y8.length ≤ 8) := Hi (by rw [hy8, List.length_take]; omega)
    have hj3' := Hi hj3
    clear hy8
    go_upto_region 32 with (at_make; go_must (refine wpList_make_full _ rfl (.const (.int .i64 8)) (.const (.int .i64 8)) 31 rfl 0 5 j0 (.int .u8 0) 1 Try.underlying31 hj0 hj1 hj2 .i64 .i64 8 8 8 rfl rfl rfl rfl ?c1 ?c2 ?c3 ?_); rotate_right; intro w5 ho5 hg5; have hB5 := Hi (g02 ho5); clear ho5; have hK5 := Hi (a02.grown (a02.refl (fun _ => False) _) hg5 (fun k e => by cases e)); clear hg5)
    case c1 => have := hj3'.out; omega
    case c2 => decide
    case c3 => exact Nat.zero_le _
    have c3w := hwid.out _ (hkw.out.trans hK5.out) 3 _ l3.out
    clear g13
    go_upto_region 33 with ((with_reducible refine a09 164 ?_); refine d03 rfl (.tmp 161) (.tmp 163) 31 9 rfl 5 Try.underlying31 n0p wr.heap.size 0 8 8 _ rfl rfl (d0q 8) y8 ht8.out hB5.out (by have := hl8.out; rw [e0k]; omega) ?_; intro w6 hL6)
    have c3x := (hL6.out.2.cell (p := ⟨w.heap.size, 3, none⟩) (World.block_lt_of_cell? _ _ c3w) (by have h1 := hsz2.out; have h2 := hkw.out.size; show ¬ w.heap.size = wr.heap.size; omega)).trans c3w
    clear c3w
    go_upto_if 167 with fail
    have hK8 : Hid (OwnB w2 w6 (.slice (some ⟨wr.heap.size, 0, none⟩) 8 8) (key8 p.auth)) := Hi (by
     have h1 := hL6.out.1
     rw [hk8.out] at h1
     exact OwnB.buf h1 (d0v _) (by omega) hkw.out.size)
    have hkw6 : Hid (a02 (fun _ => False) wr w6) := Hi (hK5.out.laid hL6.out (Nat.le_refl _))
    have hT6 := Hi (hOT'.out.keep hkw6.out (fun _ _ f => f))
    have hsTK : Hid (∀ i, (Value.slice q N d).ownBlock = some i → (Value.slice (some ⟨wr.heap.size, 0, none⟩) 8 8).ownBlock = some i → False) := Hi (fun i e f => by
     have h1 := hOT'.out.lt i e
     simp only [Value.ownBlock, Option.some.injEq] at f
     omega)
    have hk26 := Hi (hkw.out.trans hkw6.out)
    obtain ⟨g8, hg8⟩ : ∃ g, g = wr.heap.size := ⟨_, rfl⟩
    rw [← hg8] at hK8 hsTK ⊢
    clear hB5 hK5 hL6 hOT' hkw hkw6 hk8 ht8 hl8 hj3' hg8 c3x
    go_cut [13] (fun kv wx => kv = .int .u8 (e01 p.auth) ∧ wx = w6)
    case first =>
     cases ha : p.auth with
     | nil =>
      have hkd : Hid (e01 p.auth = 0) := Hi (by rw [ha]; rfl)
      have h0 : S.toList.isEmpty = true := by rw [Lib.toList_data, hSa.out, ha]; rfl
      clear ha
      rw [h0]
      clear h0
      go_wp2_with fail
      go_meet
      case rel => exact ⟨by rw [hkd.out]; rfl, rfl⟩
     | cons a r =>
      have hkd : Hid (e01 p.auth = 1) := Hi (by rw [ha]; rfl)
      have h0 : S.toList.isEmpty = false := by rw [Lib.toList_data, hSa.out, ha]; rfl
      clear ha
      rw [h0]
      clear h0
      go_wp2_with fail
      go_meet
      case rel => exact ⟨by rw [hkd.out]; rfl, rfl⟩
    case rest =>
     obtain ⟨rfl, rfl⟩ := hcut
     obtain ⟨P8, hP8, lP8, hP8l⟩ := f0p ty
     obtain ⟨tb, htb⟩ : ∃ b, UInt8.ofNat P8 = b := ⟨_, rfl⟩
     have htbv : bv tb = .int .u8 (P8 : Int) := by rw [← htb]; exact g0m P8 lP8
     obtain ⟨kb, hkb⟩ : ∃ b, UInt8.ofNat (e01 p.auth) = b := ⟨_, rfl⟩
     have hkb1 : e01 p.auth < 256 := by unfold e01; split <;> omega
     have hkbv : bv kb = .int .u8 (e01 p.auth : Int) := by rw [← hkb]; exact g0m _ hkb1
     obtain ⟨NN, hNN⟩ : ∃ n, n = 24 + N := ⟨_, rfl⟩
     have hM : IntKind.i64.wrap (24 + (N : Int)) = (NN : Int) := by rw [IntWalk.i64_in _ (by omega)]; omega
     have hMu : IntKind.u64.wrap (NN : Int) = (NN : Int) := IntWalk.u64_in _ (by omega)
     have hNN1 : NN < 18446744073709551616 := by omega
     obtain ⟨H4, hH4⟩ : ∃ H, [2, tb] ++ be 2 NN = H := ⟨_, rfl⟩
     have hH4l : H4.length = 4 := by rw [← hH4]; simp [a0b]
     obtain ⟨H16, hH16⟩ : ∃ H, H4 ++ be 4 rt ++ be 4 ar ++ [0, 0, 0, kb] = H := ⟨_, rfl⟩
     have hH16l : H16.length = 16 := by rw [← hH16]; simp [a0b, hH4l]
     have hHead : Hid (H16 = i0r p T.length 0) := Hi (by
      rw [← hH16, ← hH4, ← p04, hrt'.out, har'.out, hTN'.out, ← hNN, hty'.out, hP8l.out, htb, hkb])
     have htbv' := Hi htbv; have hkbv' := Hi hkbv; have hNN' := Hi hNN; have hH4' := Hi hH4; have hH4l' := Hi hH4l; have hH16' := Hi hH16; have hH16l' := Hi hH16l
     clear htb htbv hkb hkbv hNN hH4 hH4l hH16 hH16l hkb1
     have hT6d := Hi (hT6.out.keep ((a02.refl (fun _ => False) _).drew) (fun _ _ f => f))
     have hK8d := Hi (hK8.out.keep ((a02.refl (fun _ => False) _).drew) (fun _ _ f => f))
     go_upto_region 36 with fail
     refine wp_region_noPanic ?_
     refine wp_region_held_drew (S := (fun W => a02 (fun _ => False) w2 W)) (by kernel_rfl) (hk26.out.drew) (fun hHeld => ?_)
     refine tk 0 rfl ?_
     refine tkL 1 rfl (a04 (by rfl) 3 (.tmp 168) rfl w.heap.size 0 rfl _ (fun _ s => hwid.out _ s 0 _ l0.out) (fun w s => a0t w _ _ _ s)) ?_
     refine tk 2 rfl ?_
     refine tk 4 rfl ?_
     refine tk 5 rfl ?_
     refine tk 6 rfl ?_
     refine tk 7 rfl ?_
     try rw [hP8]
     rw [← htbv'.out]
     refine e0c [(⟨none, none, 4⟩, rsB w2 (T)), (⟨none, none, 12⟩, rsB w2 (key8 p.auth)), (⟨some 3, some 9, 171⟩, rsB w2 ([2, tb])), (⟨some 8, some 9, 176⟩, rsB w2 (be 2 NN)), (⟨some 9, some 10, 177⟩, rsB w2 (H4)), (⟨some 10, none, 14⟩, rsB w2 (H4))] [171, 176, 177, 14] [3, 8, 9, 10] (fun r => (([(9, [2, 3]), (10, [4])] : List (Nat × List Nat)).lookup r).getD []) (by kernel_rfl) (by kernel_rfl) (by kernel_rfl) (by kernel_rfl) (Nat.le_of_ble_eq_true (by kernel_rfl)) hHeld (by kernel_rfl) (iniC (hT6d.out) (iniC (hK8d.out) (ini0 (by kernel_rfl)))) (n0e (sepC (hsTK.out) (sepN (by kernel_rfl))) (n0e (sepN (by kernel_rfl)) (p03 (by kernel_rfl)))) ?_ ?_
     ·refine (RSts.cons (r := 3) (d := 171) rfl rfl (by decide) ?_ (RSts.cons (r := 8) (d := 176) rfl rfl (by decide) ?_ (RSts.cons (r := 9) (d := 177) rfl rfl (by decide) ?_ (RSts.cons (r := 10) (d := 14) rfl rfl (by decide) ?_ RSts.nil))))
      ·exact l0h (b := 170) 2 tb rfl rfl rfl (by decide) (by kernel_rfl) (by decide) rfl (some 9) rfl
      ·exact f0l (a := 175) (n := NN) (k := 2) rfl rfl (by decide) (by kernel_rfl) (by decide) rfl (be 2 NN) rfl (some 9) rfl hNN1 (by omega)
      ·exact f03 (a := 171) (b := 176) rfl rfl (by decide) j0 Try.underlying31 hj0 hj1 hj2 hj3 (by kernel_rfl) (by kernel_rfl) 2 3 (some 3) (some 8) (some 9) (some 10) ([2, tb]) (be 2 NN) (H4) rfl rfl (by decide) (by decide) rfl (hH4'.out) (by rw [hH4l'.out]; omega)
      ·exact k03 (a := 177) rfl rfl (by decide) (by kernel_rfl) 4 (some 9) none _ rfl (by decide) rfl
     ·intro f W hS hfin hsep
      have hT7 : OwnB w2 W (.slice q N d) T := hfin 0 _ rfl rfl
      have hK7 : OwnB w2 W (.slice (some ⟨g8, 0, none⟩) 8 8) (key8 p.auth) := hfin 1 _ rfl rfl
      have hO : OwnB w2 W (f 14) H4 := hfin 5 _ rfl rfl
      have s1 : ∀ i, (Value.slice q N d).ownBlock = some i → (f 14).ownBlock = some i → False := hsep 0 5 _ _ (by decide) rfl rfl rfl rfl
      have s2 : ∀ i, (Value.slice (some ⟨g8, 0, none⟩) 8 8).ownBlock = some i → (f 14).ownBlock = some i → False := hsep 1 5 _ _ (by decide) rfl rfl rfl rfl
      obtain ⟨q1, d1, h14⟩ := hO.slice
      rw [hH4l'.out] at h14
      simp only [a0r, List.foldl_cons, List.foldl_nil, Act.put, sA, sZ, sS]
      rw [h14] at hO s1 s2 ⊢
      have hO8 := Hi hO; have hS8 := Hi hS; have hT8 := Hi hT7; have hK9 := Hi hK7; have s1' := Hi s1; have s2' := Hi s2
      generalize f 171 = f171
      generalize f 176 = f176
      generalize f 177 = f177
      clear hO hS hfin hsep h14 hHeld hT7 hK7 s1 s2 hT6 hK8 hT6d hK8d hM hMu hP8 hk26
      refine NoPanic.normal ?_
      have wrt := d0g hrt1
      have war := d0g har1
      have hT8d := Hi (hT8.out.keep ((a02.refl (fun _ => False) _).drew) (fun _ _ f => f))
      have hK9d := Hi (hK9.out.keep ((a02.refl (fun _ => False) _).drew) (fun _ _ f => f))
      have hO8d := Hi (hO8.out.keep ((a02.refl (fun _ => False) _).drew) (fun _ _ f => f))
      go_upto_region 37 with fail
      refine wp_region_noPanic ?_
      refine wp_region_held_drew (S := (fun W => a02 (fun _ => False) w2 W)) (by kernel_rfl) (hS8.out.drew) (fun hHeld => ?_)
      refine tk 0 rfl ?_
      refine tk 1 rfl ?_
      refine tkL 2 rfl (a04 (by rfl) 22 (.tmp 179) rfl w.heap.size 1 rfl _ (fun _ s => hwid.out _ s 1 _ l1.out) (fun w s => b08 w _ _ _ s)) ?_
      refine tk 3 rfl ?_
      refine tk 6 rfl ?_
      refine tkL 7 rfl (a04 (by rfl) 22 (.tmp 184) rfl w.heap.size 2 rfl _ (fun _ s => hwid.out _ s 2 _ l2.out) (fun w s => b08 w _ _ _ s)) ?_
      refine tk 8 rfl ?_
      refine tk 11 rfl ?_
      rw [← hkbv'.out]
      refine e0c [(⟨none, none, 4⟩, rsB w2 (T)), (⟨none, none, 12⟩, rsB w2 (key8 p.auth)), (⟨none, some 5, 178⟩, rsB w2 (H4)), (⟨some 4, some 5, 182⟩, rsB w2 (be 4 rt)), (⟨some 5, some 10, 183⟩, rsB w2 (H4 ++ be 4 rt)), (⟨some 9, some 10, 187⟩, rsB w2 (be 4 ar)), (⟨some 10, some 13, 188⟩, rsB w2 (H4 ++ be 4 rt ++ be 4 ar)), (⟨some 12, some 13, 190⟩, rsB w2 ([0, 0, 0, kb])), (⟨some 13, some 14, 191⟩, rsB w2 (H16)), (⟨some 14, none, 14⟩, rsB w2 (H16))] [182, 183, 187, 188, 190, 191, 14] [4, 5, 9, 10, 12, 13, 14] (fun r => (([(5, [2, 3]), (10, [4, 5]), (13, [6, 7]), (14, [8])] : List (Nat × List Nat)).lookup r).getD []) (by kernel_rfl) (by kernel_rfl) (by kernel_rfl) (by kernel_rfl) (Nat.le_of_ble_eq_true (by kernel_rfl)) hHeld (by kernel_rfl) (iniC (hT8d.out) (iniC (hK9d.out) (iniC (hO8d.out) (ini0 (by kernel_rfl))))) (n0e (sepC (hsTK.out) (sepC (s1'.out) (sepN (by kernel_rfl)))) (n0e (sepC (s2'.out) (sepN (by kernel_rfl))) (n0e (sepN (by kernel_rfl)) (p03 (by kernel_rfl))))) ?_ ?_
      ·refine (RSts.cons (r := 4) (d := 182) rfl rfl (by decide) ?_ (RSts.cons (r := 5) (d := 183) rfl rfl (by decide) ?_ (RSts.cons (r := 9) (d := 187) rfl rfl (by decide) ?_ (RSts.cons (r := 10) (d := 188) rfl rfl (by decide) ?_ (RSts.cons (r := 12) (d := 190) rfl rfl (by decide) ?_ (RSts.cons (r := 13) (d := 191) rfl rfl (by decide) ?_ (RSts.cons (r := 14) (d := 14) rfl rfl (by decide) ?_ RSts.nil)))))))
       ·exact f0l (a := 181) (n := rt) (k := 4) rfl rfl (by decide) (by kernel_rfl) (by decide) rfl (be 4 rt) rfl (some 5) rfl (by omega) (by omega)
       ·exact f03 (a := 178) (b := 182) rfl rfl (by decide) j0 Try.underlying31 hj0 hj1 hj2 hj3 (by kernel_rfl) (by kernel_rfl) 2 3 none (some 4) (some 5) (some 10) (H4) (be 4 rt) (H4 ++ be 4 rt) rfl rfl (by decide) (by decide) rfl (rfl) (by simp [a0b, hH4l'.out])
       ·exact f0l (a := 186) (n := ar) (k := 4) rfl rfl (by decide) (by kernel_rfl) (by decide) rfl (be 4 ar) rfl (some 10) rfl (by omega) (by omega)
       ·exact f03 (a := 183) (b := 187) rfl rfl (by decide) j0 Try.underlying31 hj0 hj1 hj2 hj3 (by kernel_rfl) (by kernel_rfl) 4 5 (some 5) (some 9) (some 10) (some 13) (H4 ++ be 4 rt) (be 4 ar) (H4 ++ be 4 rt ++ be 4 ar) rfl rfl (by decide) (by decide) rfl (rfl) (by simp [a0b, hH4l'.out])
       ·exact l0g (b := 189) 0 0 0 kb rfl rfl rfl (by decide) (by kernel_rfl) (by decide) rfl (some 13) rfl
       ·exact f03 (a := 188) (b := 190) rfl rfl (by decide) j0 Try.underlying31 hj0 hj1 hj2 hj3 (by kernel_rfl) (by kernel_rfl) 6 7 (some 10) (some 12) (some 13) (some 14) (H4 ++ be 4 rt ++ be 4 ar) ([0, 0, 0, kb]) (H16) rfl rfl (by decide) (by decide) rfl (hH16'.out) (by rw [hH16l'.out]; omega)
       ·exact k03 (a := 191) rfl rfl (by decide) (by kernel_rfl) 8 (some 13) none _ rfl (by decide) rfl
      ·intro f W hS hfin hsep
       have hT7 : OwnB w2 W (.slice q N d) T := hfin 0 _ rfl rfl
       have hK7 : OwnB w2 W (.slice (some ⟨g8, 0, none⟩) 8 8) (key8 p.auth) := hfin 1 _ rfl rfl
       have hO : OwnB w2 W (f 14) H16 := hfin 9 _ rfl rfl
       have s1 : ∀ i, (Value.slice q N d).ownBlock = some i → (f 14).ownBlock = some i → False := hsep 0 9 _ _ (by decide) rfl rfl rfl rfl
       have s2 : ∀ i, (Value.slice (some ⟨g8, 0, none⟩) 8 8).ownBlock = some i → (f 14).ownBlock = some i → False := hsep 1 9 _ _ (by decide) rfl rfl rfl rfl
       obtain ⟨q2, d2, h14⟩ := hO.slice
       rw [hH16l'.out] at h14
       obtain ⟨gh, rfl, -, -, -⟩ := (show OwnB w2 W (.slice q2 16 d2) H16 by rw [← h14]; exact hO).writes (by rw [hH16l'.out]; omega)
       simp only [a0r, List.foldl_cons, List.foldl_nil, Act.put, sA, sZ, sS]
       rw [h14] at hO s1 s2 ⊢
       have hO9 := Hi hO; have hS9 := Hi hS; have hT9 := Hi hT7; have hKa := Hi hK7; have t1 := Hi s1; have t2 := Hi s2
       generalize f 182 = f182
       generalize f 183 = f183
       generalize f 187 = f187
       generalize f 188 = f188
       generalize f 190 = f190
       generalize f 191 = f191
       clear hO hS hfin hsep h14 hHeld hT7 hK7 s1 s2 hT8 hK9 hT8d hK9d hO8 hO8d wrt war hS8 s1' s2'
       refine NoPanic.normal ?_
       have hTa := Hi (hT9.out.keep ((a02.refl (fun _ => False) _).alloc (.cells #[] 5)) (fun _ _ f => f))
       have hOa := Hi (hO9.out.keep ((a02.refl (fun _ => False) _).alloc (.cells #[] 5)) (fun _ _ f => f))
       have hOab := Hi hOa.out.bytes
       have hEa : Hid (OwnB W (W.alloc (.cells #[] 5)) (.slice (some ⟨W.heap.size, 0, none⟩) 0 0) []) := Hi (OwnB.empty W W (Nat.le_refl _))
       go_upto_region 39 with (first | ((with_reducible refine a09 194 ?_); go_must (refine a0f rfl (.tmp 192) (.tmp 193) 31 rfl j0 Try.underlying31 hj0 hj1 hj2 hj3 W _ [] rfl hEa.out _ rfl H16 hOab.out (by simp [hH16l'.out]) ?_; intro qa da wa hOA0 hga; have hOA : Hid (OwnB W wa (.slice qa H16.length da) H16) := Hi (by simpa using hOA0.out); clear hOA0; have hkA := Hi (hEa.out.keeps ((a02.refl _ _).alloc _) hga.out); have hTA := Hi (hT9.out.keep hkA.out (fun _ _ f => f)).bytes)) | ((with_reducible refine a09 196 ?_); go_must (refine a0f rfl (.tmp 194) (.tmp 195) 31 rfl j0 Try.underlying31 hj0 hj1 hj2 hj3 W _ H16 rfl hOA.out _ rfl T hTA.out (by simp [hH16l'.out, hTN'.out]; omega) ?_; intro qb db wb hOB hgb; have hkB := Hi (hOA.out.keeps hkA.out hgb.out); have hBB := Hi hOB.out.bytes)))
       refine (e0y _ (H16 ++ T) (by rw [List.length_append, hH16l'.out, hTN'.out]; omega) _ hBB).mono ?_
       rintro e w' ⟨rfl, rfl⟩
       go_upto_region 39 with fail
       have hsum : inet (H16 ++ T) = sumP p := by unfold sumP; rw [hT'.out, hHead.out]
       obtain ⟨Sm, hSm⟩ : ∃ s, sumP p = s := ⟨_, rfl⟩
       have hSml : Sm < 65536 := by rw [← hSm]; exact n0f _
       rw [hSm] at hsum hpl
       rw [hsum]
       have hsum' := Hi hsum; have hSm' := Hi hSm
       clear hsum hSm
       have hKb := Hi (hKa.out.keep hkB.out (fun _ _ f => f)); have hTb := Hi (hT9.out.keep hkB.out (fun _ _ f => f)); have hOb := Hi (hO9.out.keep hkB.out (fun _ _ f => f))
       have hSb := Hi (hS9.out.trans hkB.out)
       obtain ⟨gh', egh, hgh0, hcell, hset⟩ := hOb.out.writes (by rw [hH16l'.out]; omega)
       injection egh with egh; injection egh with egh; subst egh
       have c12 := (hcell 12 (by rw [hH16l'.out]; omega)).1
       have f12 := (hcell 12 (by rw [hH16l'.out]; omega)).2
       have c13 := (hcell 13 (by rw [hH16l'.out]; omega)).1
       have f13 := (hcell 13 (by rw [hH16l'.out]; omega)).2
       clear hcell hset
       go_upto_region 40 with fail
       have v12 : Value.int .u8 ((Sm : Int) / 256) = bv (UInt8.ofNat (Sm / 256)) := by rw [g0m (Sm / 256) (by omega)]; rfl
       have v13 : Value.int .u8 ((Sm : Int) % 256) = bv (UInt8.ofNat Sm) := o0a Sm
       rw [v12, v13]
       have hs8 : Hid (a02 (fun i => i = gh) wb ((wb.setCell ⟨gh, 12, none⟩ (bv (UInt8.ofNat (Sm / 256)))).setCell ⟨gh, 13, none⟩ (bv (UInt8.ofNat Sm)))) := Hi (((a02.refl (fun i => i = gh) _).setCell (p := ⟨gh, 12, none⟩) (.inl rfl) _).setCell (p := ⟨gh, 13, none⟩) (.inl rfl) _)
       have hH8 : Hid (OwnB w2 ((wb.setCell ⟨gh, 12, none⟩ (bv (UInt8.ofNat (Sm / 256)))).setCell ⟨gh, 13, none⟩ (bv (UInt8.ofNat Sm))) (.slice (some ⟨gh, 0, none⟩) 16 d2) ((H16.set 12 (UInt8.ofNat (Sm / 256))).set 13 (UInt8.ofNat Sm))) := Hi (hOb.out.set_pair 12 (UInt8.ofNat (Sm / 256)) (UInt8.ofNat Sm) (by rw [hH16l'.out]; omega))
       clear v12 v13 c12 f12 c13 f13
       generalize (wb.setCell ⟨gh, 12, none⟩ (bv (UInt8.ofNat (Sm / 256)))).setCell ⟨gh, 13, none⟩ (bv (UInt8.ofNat Sm)) = w8 at hs8 hH8 ⊢
       obtain ⟨H8, hH8e⟩ : ∃ H, (H16.set 12 (UInt8.ofNat (Sm / 256))).set 13 (UInt8.ofNat Sm) = H := ⟨_, rfl⟩
       have hH8l : H8.length = 16 := by rw [← hH8e]; simp [hH16l'.out]
       rw [hH8e] at hH8
       obtain ⟨K8, hK8e⟩ : ∃ K, key8 p.auth = K := ⟨_, rfl⟩
       have hK8l : K8.length = 8 := by rw [← hK8e]; exact d0v _
       rw [hK8e] at hKb hpl
       have hput : Hid (putP p = H8 ++ K8 ++ T) := Hi (by rw [hpl.out, ← hHead.out, hH8e])
       have hT8 := Hi (hTb.out.keep hs8.out (fun i e h => t1.out i e (by simp only [Value.ownBlock, Option.some.injEq]; exact h.symm)))
       have hK8w := Hi (hKb.out.keep hs8.out (fun i e h => t2.out i e (by simp only [Value.ownBlock, Option.some.injEq]; exact h.symm))).bytes
       have hk8w := Hi (hSb.out.trans' hs8.out (fun i e => .inr (by have h1 := hO9.out.2.1 i (by simp only [Value.ownBlock, Option.some.injEq]; exact e.symm); exact h1)))
       have hH8l' := Hi hH8l; have hK8l' := Hi hK8l
       clear hH8e hH8l hK8e hK8l hKb hTb hOb hs8
       go_wp2_with (first | ((with_reducible refine a09 209 ?_); go_must (refine a0f rfl (.tmp 207) (.tmp 208) 31 rfl j0 Try.underlying31 hj0 hj1 hj2 hj3 w2 _ H8 rfl hH8.out _ rfl K8 hK8w.out (by rw [hH8l'.out, hK8l'.out]; omega) ?_; intro qc dc wc2 hOC hgc; have hTC := Hi (hT8.out.keep hgc.out.k (fun i e h => t1.out i e h)).bytes; have hkC := Hi (hH8.out.keeps hk8w.out hgc.out))) | ((with_reducible refine a09 211 ?_); go_must (refine a0f rfl (.tmp 209) (.tmp 210) 31 rfl j0 Try.underlying31 hj0 hj1 hj2 hj3 w2 _ (H8 ++ K8) rfl hOC.out _ rfl T hTC.out (by rw [List.length_append, hH8l'.out, hK8l'.out, hTN'.out]; omega) ?_; intro qd dd wd hOD hgd; have hkD := Hi (hOC.out.keeps hkC.out hgd.out))))
       go_ret2
       refine ⟨⟨fun _ => ⟨qd, dd, ?_, ?_⟩, fun e => (by cases e)⟩, hw2.out.trans hkD.out⟩
       ·rw [hput.out, List.length_append, List.length_append]; rfl
       ·rw [hput.out, List.length_append]
        exact hOD.out.older (Nat.le_of_lt hsz2.out)
end Go.Proofs.Ytmggbljkehclpaa
