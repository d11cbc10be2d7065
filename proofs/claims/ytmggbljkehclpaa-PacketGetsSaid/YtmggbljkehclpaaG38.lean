/- QFf QFl QFz -/
import Derived.Test.YtmggbljkehclpaaG37
set_option linter.unusedVariables false
set_option linter.unusedSimpArgs false
namespace Go.Proofs.Ytmggbljkehclpaa
open Go.RowKit
set_option maxRecDepth 100000 in
set_option maxHeartbeats 4000000 in
theorem n0y (age type seq cost : Int) (id adv mask : Nat) (links : List b09) (routers : List Nat) (p5 p7 : Option Addr) (c5 c7 : Nat) (w : World)
 (hl : Hid (b02 w (.slice p5 links.length c5) links)) (hr : Hid (a0u w (.slice p7 routers.length c7) routers)) (hll : links.length * 24 ≤ 140737488351232) (hrl : routers.length * 4 ≤ 140737488351232) :
 Calls Try.prog 36 #[.agg (La age type id adv seq (.slice p5 links.length c5) mask (.slice p7 routers.length c7) cost)] w (fun e w' => (∃ p5 c5 p7 c7, e = .returned (.agg (La age type id adv seq (.slice p5 links.length c5) mask (.slice p7 routers.length c7) cost)) ∧ b02 w' (.slice p5 links.length c5) links ∧ a0u w' (.slice p7 routers.length c7) routers ∧ (∀ i n c, (Value.slice p5 n c).ownBlock = some i → w.heap.size ≤ i) ∧ (∀ i n c, (Value.slice p7 n c).ownBlock = some i → w.heap.size ≤ i)) ∧ a02 (fun _ => False) w w') := by
 have hA : Hid (b0v w.heap.size (La' age type id adv seq (.slice p5 links.length c5) mask (.slice p7 routers.length c7) cost) w ((w.alloc (.cells (La age type id adv seq (.slice p5 links.length c5) mask (.slice p7 routers.length c7) cost) 76)).alloc (.cells Zl 80))) := Hi ((f0a w _ _).next ((a02.refl _ _).alloc _))
 have hL := Hi (hl.out.keep hA.out.k)
 have hR := Hi (hr.out.keep hA.out.k)
 clear hl hr
 go_enter Try.func36, Try.ntmps36
 go_upto_region 1 with fail
 refine wp_region_noPanic ?_
 refine wp_region_held_drew (S := (fun W => a02 (fun _ => False) ((w.alloc (.cells (La age type id adv seq (.slice p5 links.length c5) mask (.slice p7 routers.length c7) cost) 76)).alloc (.cells Zl 80)) W)) (by kernel_rfl) (((a02.refl (fun _ => False) _).drew)) (fun hHeld => ?_)
 refine tk 0 rfl ?_
 refine tkL 1 rfl (a04 (by rfl) 3 (.tmp 5) rfl w.heap.size 0 rfl _ (fun _ s => (hA.out.next s).cell 0 (.int .i64 age) rfl) (fun w s => a0t w _ _ _ s)) ?_
 refine tk 2 rfl ?_
 refine tk 3 rfl ?_
 refine tkL 4 rfl (a04 (by rfl) 3 (.tmp 8) rfl w.heap.size 1 rfl _ (fun _ s => (hA.out.next s).cell 1 (.int .i64 type) rfl) (fun w s => a0t w _ _ _ s)) ?_
 refine tk 5 rfl ?_
 refine tk 6 rfl ?_
 refine tkL 7 rfl (a04 (by rfl) 22 (.tmp 11) rfl w.heap.size 2 rfl _ (fun _ s => (hA.out.next s).cell 2 (.int .u32 id) rfl) (fun w s => b08 w _ _ _ s)) ?_
 refine tk 8 rfl ?_
 refine tk 9 rfl ?_
 refine tkL 10 rfl (a04 (by rfl) 22 (.tmp 14) rfl w.heap.size 3 rfl _ (fun _ s => (hA.out.next s).cell 3 (.int .u32 adv) rfl) (fun w s => b08 w _ _ _ s)) ?_
 refine tk 11 rfl ?_
 refine tk 12 rfl ?_
 refine tkL 13 rfl (a04 (by rfl) 3 (.tmp 17) rfl w.heap.size 4 rfl _ (fun _ s => (hA.out.next s).cell 4 (.int .i64 seq) rfl) (fun w s => a0t w _ _ _ s)) ?_
 refine tk 14 rfl ?_
 refine tkL 15 rfl (a04 (by rfl) 22 (.tmp 19) rfl w.heap.size 6 rfl _ (fun _ s => (hA.out.next s).cell 6 (.int .u32 mask) rfl) (fun w s => b08 w _ _ _ s)) ?_
 refine tk 17 rfl ?_
 refine tkL 18 rfl (a04 (by rfl) 23 (.tmp 22) rfl w.heap.size 7 rfl _ (fun _ s => (hA.out.next s).cell 7 (.slice p7 routers.length c7) rfl) (fun w s => j0e w _ _ _ s)) ?_
 refine tk 20 rfl ?_
 refine tkL 21 rfl (a04 (by rfl) 3 (.tmp 25) rfl w.heap.size 8 rfl _ (fun _ s => (hA.out.next s).cell 8 (.int .i64 cost) rfl) (fun w s => a0t w _ _ _ s)) ?_
 obtain ⟨i0, hi0, hz0, hz1, hz2⟩ := info_parts f02
 refine b0a [21, 24, 27, 3] [16, 19, 22, 23, 24] (fun L f W =>
  (L 16 = true → L 19 = false → OwnN ((w.alloc (.cells (La age type id adv seq (.slice p5 links.length c5) mask (.slice p7 routers.length c7) cost) 76)).alloc (.cells Zl 80)) W (f 21) []) ∧
  (L 19 = true → L 24 = false → L 16 = true ∧ ∃ p c, f 24 = .slice p routers.length c ∧ OwnN ((w.alloc (.cells (La age type id adv seq (.slice p5 links.length c5) mask (.slice p7 routers.length c7) cost) 76)).alloc (.cells Zl 80)) W (.slice p routers.length c) routers) ∧
  (L 22 = true → L 24 = false → L 19 = true ∧ ∀ p c, f 24 = .slice p routers.length c → f 27 = .agg (La age type id adv seq Sn mask (.slice p routers.length c) cost)) ∧
  (L 23 = true → L 24 = false → ∃ B, f 3 = .pointer (some ⟨B, 0, none⟩) ∧ ((w.alloc (.cells (La age type id adv seq (.slice p5 links.length c5) mask (.slice p7 routers.length c7) cost) 76)).alloc (.cells Zl 80)).heap.size ≤ B ∧ a06 W B 80 Zm) ∧
  (L 24 = true → L 16 = true ∧ L 19 = true ∧ L 22 = true ∧ L 23 = true ∧ ∃ B p c, f 3 = .pointer (some ⟨B, 0, none⟩) ∧ ((w.alloc (.cells (La age type id adv seq (.slice p5 links.length c5) mask (.slice p7 routers.length c7) cost) 76)).alloc (.cells Zl 80)).heap.size ≤ B ∧ a06 W B 80 (La' age type id adv seq Sn mask (.slice p routers.length c) cost) ∧ OwnN ((w.alloc (.cells (La age type id adv seq (.slice p5 links.length c5) mask (.slice p7 routers.length c7) cost) 76)).alloc (.cells Zl 80)) W (.slice p routers.length c) routers)) (by kernel_rfl) (by kernel_rfl) (by kernel_rfl) (by kernel_rfl) (Nat.le_of_ble_eq_true (by kernel_rfl)) hHeld
  (fun L f h => ⟨fun e => absurd (h 16 (by decide)) (by rw [e]; decide), fun e => absurd (h 19 (by decide)) (by rw [e]; decide), fun e => absurd (h 22 (by decide)) (by rw [e]; decide), fun e => absurd (h 23 (by decide)) (by rw [e]; decide), fun e => absurd (h 24 (by decide)) (by rw [e]; decide)⟩) ?_ ?_
 ·refine a0v.cons (d := 21) rfl rfl (by decide) ?_ (a0v.cons (d := 24) rfl rfl (by decide) ?_ (a0v.cons (d := 27) rfl rfl (by decide) ?_ (a0v.cons (d := 3) rfl rfl (by decide) ?_ (a0v.cons0 rfl rfl ?_ a0v.nil))))
  ·intro L f W hG hS hL hdep K hK
   simp only [a0r, List.foldl_cons, List.foldl_nil, Act.put, sA, sZ, sS] at hK ⊢
   rw [if_pos (by rfl)]
   go_simp
   have n24 : L 24 = false := by cases h : L 24 with
    | false => rfl
    | true => exact absurd ((hG.2.2.2.2 h).1.symm.trans hL) (by decide)
   have hk' : a02 (fun _ => False) W (W.alloc (.cells #[] 22)) := (a02.refl _ _).alloc _
   refine hK.out _ _ (hS.trans hk') ⟨fun _ _ => OwnN.new _ _ hS.size [] rfl (by unfold maxLen; omega), fun e19 _ => absurd ((hG.2.1 e19 n24).1.symm.trans hL) (by decide), hG.2.2.1, fun e23 _ => ?_, fun e24 => absurd (n24.symm.trans e24) (by decide)⟩
   obtain ⟨B, h1, h2, h3⟩ := hG.2.2.2.1 e23 n24
   exact ⟨B, h1, h2, h3.keep hk' (fun f => f)⟩
  ·intro L f W hG hS hL hdep K hK
   simp only [a0r, List.foldl_cons, List.foldl_nil, Act.put, sA, sZ, sS] at hK ⊢
   rw [if_pos (by rfl)]
   have d16 := hdep ⟨16, .data⟩ (by simp) rfl (by decide)
   have n24 : L 24 = false := by cases h : L 24 with
    | false => rfl
    | true => exact absurd ((hG.2.2.2.2 h).2.1.symm.trans hL) (by decide)
   have ho := hG.1 d16 hL
   refine d0f (.tmp 21) (.tmp 23) 23 rfl i0 Try.underlying23 hi0 hz0 hz1 hz2 ((w.alloc (.cells (La age type id adv seq (.slice p5 links.length c5) mask (.slice p7 routers.length c7) cost) 76)).alloc (.cells Zl 80)) (f 21) 0 [] rfl rfl ho _ rfl routers (hR.out.keep hS) (by omega) ?_
   intro p c w' ho' hg
   rw [Nat.zero_add, List.nil_append] at ho'
   rw [Nat.zero_add]
   refine hK.out _ _ (hS.trans' hg.k (fun i e => .inr (ho.2.1 i e))) ⟨fun _ e => absurd (show true = false from e) (by decide), fun _ _ => ⟨d16, p, c, rfl, ho'⟩, fun e22 _ => absurd ((hG.2.2.1 e22 n24).1.symm.trans hL) (by decide), fun e23 _ => ?_, fun e24 => absurd (n24.symm.trans e24) (by decide)⟩
   obtain ⟨B, h1, h2, h3⟩ := hG.2.2.2.1 e23 n24
   exact ⟨B, h1, h2, h3.keep hg.k (fun e => ho.ne_blkR h3 B e rfl)⟩
  ·intro L f W hG hS hL hdep K hK
   have d19 := hdep ⟨19, .data⟩ (by simp) rfl (by decide)
   have n24 : L 24 = false := by cases h : L 24 with
    | false => rfl
    | true => exact absurd ((hG.2.2.2.2 h).2.2.1.symm.trans hL) (by decide)
   obtain ⟨d16, p, c, h24, ho⟩ := hG.2.1 d19 n24
   simp only [a0r, List.foldl_cons, List.foldl_nil, Act.put, sA, sZ, sS] at hK ⊢
   rw [if_pos (by rfl)]
   rw [h24] at hK ⊢
   go_simp
   refine hK.out _ _ hS ⟨hG.1, hG.2.1, fun _ _ => ⟨d19, fun p' c' e => ?_⟩, hG.2.2.2.1, fun e24 => absurd (n24.symm.trans e24) (by decide)⟩
   have e2 := h24.symm.trans e
   injection e2 with e3 e4 e5
   subst e3; subst e5
   rfl
  ·intro L f W hG hS hL hdep K hK
   simp only [a0r, List.foldl_cons, List.foldl_nil, Act.put, sA, sZ, sS] at hK ⊢
   rw [if_pos (by rfl)]
   go_simp
   have n24 : L 24 = false := by cases h : L 24 with
    | false => rfl
    | true => exact absurd ((hG.2.2.2.2 h).2.2.2.1.symm.trans hL) (by decide)
   have hk' : a02 (fun _ => False) W (W.alloc (.cells Zl 80)) := (a02.refl _ _).alloc _
   refine hK.out _ _ (hS.trans hk') ⟨fun e16 e19 => (hG.1 e16 e19).keep hk' (fun _ _ f => f), fun e19 e24 => ?_, hG.2.2.1, fun _ _ => ⟨W.heap.size, rfl, hS.size, a06.new W _ _⟩, fun e24 => absurd (n24.symm.trans e24) (by decide)⟩
   obtain ⟨d16, p, c, h24, ho⟩ := hG.2.1 e19 n24
   exact ⟨d16, p, c, h24, ho.keep hk' (fun _ _ f => f)⟩
  ·intro L f W hG hS hL hdep K hK
   have d22 := hdep ⟨22, .data⟩ (by simp) rfl (by decide)
   have d23 := hdep ⟨23, .data⟩ (by simp) rfl (by decide)
   obtain ⟨d19, h27⟩ := hG.2.2.1 d22 hL
   obtain ⟨d16, p, c, h24, ho⟩ := hG.2.1 d19 hL
   have h27 := h27 p c h24
   obtain ⟨B, h3, hlo, hblk⟩ := hG.2.2.2.1 d23 hL
   simp only [a0r, List.foldl_cons, List.foldl_nil, Act.put, sA, sZ, sS] at hK ⊢
   rw [if_pos (by rfl)]
   refine wp_store_mid 80 (.tmp 3) (.tmp 27) rfl B 0 (La age type id adv seq Sn mask (.slice p routers.length c) cost) h3 h27 (hblk.there 0 9 (Nat.le_refl 9)) a0n (a0z _ _ _ _ _ _ _ _ _ (a03 _ _ _) (a03 _ _ _)) ?_
   have hs9 : a02 (fun i => i = B) W (W.setCells B 0 (La' age type id adv seq Sn mask (.slice p routers.length c) cost)) := a02.setCells (F := fun i => i = B) (.inl rfl) _ _ _ (a02.refl _ _)
   refine hK.out _ (hS.trans' hs9 (fun i e => .inr (by subst e; exact hlo))) ⟨fun _ e => absurd (d19.symm.trans e) (by decide), fun _ e => absurd (show true = false from e) (by decide), fun _ e => absurd (show true = false from e) (by decide), fun _ e => absurd (show true = false from e) (by decide), fun _ => ⟨d16, d19, d22, d23, B, p, c, h3, hlo, ?_, ho.keep hs9 (fun i e h => ho.ne_blkR hblk i e h)⟩⟩
   exact (((((((((hblk.put 0 (.int .i64 age)).put 1 (.int .i64 type)).put 2 (.int .u32 id)).put 3 (.int .u32 adv)).put 4 (.int .i64 seq)).put 5 (.slice none 0 0)).put 6 (.int .u32 mask)).put 7 (.slice p routers.length c)).put 8 (.int .i64 cost))
 ·intro f W hG hS
  obtain ⟨-, -, -, -, B, p, c, h3, hlo, hblk, hown⟩ := hG.2.2.2.2 rfl
  simp only [a0r, List.foldl_cons, List.foldl_nil, Act.put, sA, sZ, sS]
  rw [h3]
  generalize f 21 = f21
  generalize f 24 = f24
  generalize f 27 = f27
  obtain ⟨W1, hW1⟩ : ∃ W1, W1 = (w.alloc (.cells (La age type id adv seq (.slice p5 links.length c5) mask (.slice p7 routers.length c7) cost) 76)).alloc (.cells Zl 80) := ⟨_, rfl⟩
  have hRes : Hid (a06 W1 (w.heap.size + 1) 80 Zm) := Hi (by
   have := a06.new (w.alloc (.cells (La age type id adv seq (.slice p5 links.length c5) mask (.slice p7 routers.length c7) cost) 76)) 80 Zm
   rw [hW1]; simpa using this)
  rw [← hW1] at hS hlo hown hA hL hR
  have hS' := Hi hS; have hblk' := Hi hblk; have hown' := Hi hown; have hlo' := Hi hlo
  have hz1 : Hid (c0z W1 W (.slice none 0 0) []) := Hi (c0z.nil _ _ hS.size)
  obtain ⟨ii, hii, hiz, hisz, hiby⟩ := info_parts i0j
  obtain ⟨n, hn⟩ : ∃ n, links.length = n := ⟨_, rfl⟩
  have hA1 := Hi (show b0v w.heap.size (La' age type id adv seq (.slice p5 n c5) mask (.slice p7 routers.length c7) cost) w W1 by rw [← hn]; exact hA.out)
  have hL1 : Hid (b02 W1 (.slice p5 n c5) links) := Hi (by rw [← hn]; exact hL.out)
  have hn' := Hi hn
  rw [hn] at hll ⊢
  clear hG h3 hS hblk hown hlo f hW1 hA hL hn
  refine NoPanic.normal ?_
  go_wp2_with fail
  go_loopw [4] (fun iv wr => ∃ (k : Nat) (q : Option Addr) (d : Nat), k ≤ n ∧ iv = .int .i64 k ∧ Hid (a06 wr B 80 (La' age type id adv seq (.slice q k d) mask (.slice p routers.length c) cost) ∧ c0z W1 wr (.slice q k d) (links.take k) ∧ OwnN W1 wr (.slice p routers.length c) routers ∧ a02 (fun _ => False) W1 wr)) (fun iv _ => n - (intOf iv).toNat)
  case atStart => exact ⟨0, none, 0, by omega, rfl, Hi ⟨hblk'.out, hz1.out, hown'.out, hS'.out⟩⟩
  case round =>
   obtain ⟨k, q, d, hk, rfl, hinv⟩ := hrel
   have ha5 := (hA1.out.next hinv.out.2.2.2).cell 5 (.slice p5 n c5) rfl
   by_cases hkn : k < n
   ·have hkni : (k : Int) < n := by omega
    obtain ⟨g5, o5, rfl, hrows⟩ := (show ∃ g o, p5 = some ⟨g, o, none⟩ ∧ ∀ i l, links[i]? = some l → W1.rangeAt g (o + i * 4) (b0l l) from by
     obtain ⟨p', c', e, -, -, hr⟩ := hL1.out
     injection e with e1 e2 e3
     subst e1
     exact hr (by rw [hn'.out]; omega))
    obtain ⟨l, hll2⟩ : ∃ l, links[k]? = some l := ⟨_, List.getElem?_eq_getElem (by rw [hn'.out]; exact hkn)⟩
    have htk : Hid (links.take (k + 1) = links.take k ++ [l]) := Hi (by
     obtain ⟨hk2, e⟩ := List.getElem?_eq_some_iff.1 hll2
     rw [List.take_succ_eq_append_getElem hk2, e])
    have hrow := Hi (hrows k l hll2)
    obtain ⟨lid, ldata, ltype, lcost⟩ := l
    clear hrows hll2
    go_upto_region 5 with fail
    refine wp_region_noPanic ?_
    refine wp_region_held_drew (S := (fun W => a02 (fun _ => False) W1 W)) (by kernel_rfl) (hinv.out.2.2.2.drew) (fun hHeld => ?_)
    refine tk 0 rfl ?_
    refine tk 2 rfl ?_
    refine tkL 3 rfl (a04 (by rfl) 74 (.tmp 37) rfl w.heap.size 5 rfl _ (fun _ s => (hA1.out.next s).cell 5 (.slice (some ⟨g5, o5, none⟩) n c5) rfl) (fun w s => g0i w _ _ _ s)) ?_
    refine tk 4 rfl ?_
    refine tk 5 rfl ?_
    refine tk 6 rfl ?_
    refine tkL 7 rfl (a04 (by rfl) 22 (.tmp 41) rfl g5 (o5 + k * 4) rfl _ (fun _ s => (s.rangeAt hrow.out (fun f => f)) 0 (.int .u32 lid) rfl) (fun w s => b08 w _ _ _ s)) ?_
    refine tk 8 rfl ?_
    refine tkL 9 rfl (a04 (by rfl) 74 (.tmp 43) rfl w.heap.size 5 rfl _ (fun _ s => (hA1.out.next s).cell 5 (.slice (some ⟨g5, o5, none⟩) n c5) rfl) (fun w s => g0i w _ _ _ s)) ?_
    refine tk 10 rfl ?_
    refine tk 11 rfl ?_
    refine tk 12 rfl ?_
    refine tkL 13 rfl (a04 (by rfl) 22 (.tmp 47) rfl g5 (o5 + k * 4 + 1) rfl _ (fun _ s => (s.rangeAt hrow.out (fun f => f)) 1 (.int .u32 ldata) rfl) (fun w s => b08 w _ _ _ s)) ?_
    refine tk 14 rfl ?_
    refine tkL 15 rfl (a04 (by rfl) 74 (.tmp 49) rfl w.heap.size 5 rfl _ (fun _ s => (hA1.out.next s).cell 5 (.slice (some ⟨g5, o5, none⟩) n c5) rfl) (fun w s => g0i w _ _ _ s)) ?_
    refine tk 16 rfl ?_
    refine tk 17 rfl ?_
    refine tk 18 rfl ?_
    refine tkL 19 rfl (a04 (by rfl) 3 (.tmp 53) rfl g5 (o5 + k * 4 + 2) rfl _ (fun _ s => (s.rangeAt hrow.out (fun f => f)) 2 (.int .i64 ltype) rfl) (fun w s => a0t w _ _ _ s)) ?_
    refine tk 20 rfl ?_
    refine tkL 21 rfl (a04 (by rfl) 74 (.tmp 55) rfl w.heap.size 5 rfl _ (fun _ s => (hA1.out.next s).cell 5 (.slice (some ⟨g5, o5, none⟩) n c5) rfl) (fun w s => g0i w _ _ _ s)) ?_
    refine tk 22 rfl ?_
    refine tk 23 rfl ?_
    refine tk 24 rfl ?_
    refine tkL 25 rfl (a04 (by rfl) 3 (.tmp 59) rfl g5 (o5 + k * 4 + 3) rfl _ (fun _ s => (s.rangeAt hrow.out (fun f => f)) 3 (.int .i64 lcost) rfl) (fun w s => a0t w _ _ _ s)) ?_
    refine tk 26 rfl ?_
    refine b0a [36, 62, 63, 64] [1, 27, 28, 29, 30] (fun L f W =>
     (L 30 = false → a06 W B 80 (La' age type id adv seq (.slice q k d) mask (.slice p routers.length c) cost) ∧ OwnN W1 W (.slice p routers.length c) routers) ∧
     (L 28 = false → c0z W1 W (.slice q k d) (links.take k)) ∧
     (L 1 = true → L 28 = false → f 36 = .slice q k d) ∧
     (L 27 = true → L 28 = false → ∃ nb, f 62 = .slice (some ⟨nb, 0, none⟩) 1 1 ∧ W.rangeAt nb 0 [.int .u32 lid, .int .u32 ldata, .int .i64 ltype, .int .i64 lcost]) ∧
     (L 28 = true → L 1 = true ∧ L 27 = true ∧ (L 30 = false → ∃ q2 d2, f 63 = .slice q2 (k + 1) d2 ∧ c0z W1 W (.slice q2 (k + 1) d2) (links.take k ++ [⟨lid, ldata, ltype, lcost⟩]))) ∧
     (L 29 = true → L 28 = true ∧ f 64 = .pointer (some ⟨B, 5, none⟩)) ∧
     (L 30 = true → L 1 = true ∧ L 27 = true ∧ L 28 = true ∧ L 29 = true ∧ ∃ q2 d2, a06 W B 80 (La' age type id adv seq (.slice q2 (k + 1) d2) mask (.slice p routers.length c) cost) ∧ c0z W1 W (.slice q2 (k + 1) d2) (links.take k ++ [⟨lid, ldata, ltype, lcost⟩]) ∧ OwnN W1 W (.slice p routers.length c) routers)) (by kernel_rfl) (by kernel_rfl) (by kernel_rfl) (by kernel_rfl) (Nat.le_of_ble_eq_true (by kernel_rfl)) hHeld
     (fun L f h => ⟨fun _ => ⟨hinv.out.1, hinv.out.2.2.1⟩, fun _ => hinv.out.2.1, fun e => absurd (h 1 (by decide)) (by rw [e]; decide), fun e => absurd (h 27 (by decide)) (by rw [e]; decide), fun e => absurd (h 28 (by decide)) (by rw [e]; decide), fun e => absurd (h 29 (by decide)) (by rw [e]; decide), fun e => absurd (h 30 (by decide)) (by rw [e]; decide)⟩) ?_ ?_
    ·refine a0v.cons (d := 36) rfl rfl (by decide) ?_ (a0v.cons (d := 62) rfl rfl (by decide) ?_ (a0v.cons (d := 63) rfl rfl (by decide) ?_ (a0v.cons (d := 64) rfl rfl (by decide) ?_ (a0v.cons0 rfl rfl ?_ a0v.nil))))
     ·intro L f W hG hS hL hdep K hK
      have n30 : L 30 = false := f0g (fun e => absurd ((hG.2.2.2.2.2.2 e).1.symm.trans hL) (by decide))
      have n28 : L 28 = false := f0g (fun e => absurd ((hG.2.2.2.2.1 e).1.symm.trans hL) (by decide))
      have n29 : L 29 = false := f0g (fun e => absurd ((hG.2.2.2.2.2.1 e).1.symm.trans n28) (by decide))
      have hc5 := (hG.1 n30).1.cell 5 (.slice q k d) rfl
      simp only [a0r, List.foldl_cons, List.foldl_nil, Act.put, sA, sZ, sS] at hK ⊢
      rw [if_pos (by rfl)]
      go_simp
      exact hK.out _ _ hS ⟨hG.1, hG.2.1, fun _ _ => rfl, hG.2.2.2.1, fun e => absurd (n28.symm.trans e) (by decide), fun e => absurd (n29.symm.trans e) (by decide), fun e => absurd (n30.symm.trans e) (by decide)⟩
     ·intro L f W hG hS hL hdep K hK
      have n30 : L 30 = false := f0g (fun e => absurd ((hG.2.2.2.2.2.2 e).2.1.symm.trans hL) (by decide))
      have n28 : L 28 = false := f0g (fun e => absurd ((hG.2.2.2.2.1 e).2.1.symm.trans hL) (by decide))
      have n29 : L 29 = false := f0g (fun e => absurd ((hG.2.2.2.2.2.1 e).1.symm.trans n28) (by decide))
      simp only [a0r, List.foldl_cons, List.foldl_nil, Act.put, sA, sZ, sS] at hK ⊢
      rw [if_pos (by rfl)]
      go_simp
      have hk' : a02 (fun _ => False) W (W.alloc (.cells #[.int .u32 lid, .int .u32 ldata, .int .i64 ltype, .int .i64 lcost] 107)) := (a02.refl _ _).alloc _
      exact hK.out _ _ (hS.trans hk') ⟨fun _ => ⟨(hG.1 n30).1.keep hk' (fun f => f), (hG.1 n30).2.keep hk' (fun _ _ f => f)⟩, fun _ => (hG.2.1 n28).keep hk' (fun _ _ f => f), hG.2.2.1, fun _ _ => ⟨W.heap.size, rfl, a0o W [.int .u32 lid, .int .u32 ldata, .int .i64 ltype, .int .i64 lcost] 107⟩, fun e => absurd (n28.symm.trans e) (by decide), fun e => absurd (n29.symm.trans e) (by decide), fun e => absurd (n30.symm.trans e) (by decide)⟩
     ·intro L f W hG hS hL hdep K hK
      have d1 := hdep ⟨1, .data⟩ (by simp) rfl (by decide)
      have d27 := hdep ⟨27, .data⟩ (by simp) rfl (by decide)
      have n30 : L 30 = false := f0g (fun e => absurd ((hG.2.2.2.2.2.2 e).2.2.1.symm.trans hL) (by decide))
      have n29 : L 29 = false := f0g (fun e => absurd ((hG.2.2.2.2.2.1 e).1.symm.trans hL) (by decide))
      obtain ⟨nb, h62, hnb⟩ := hG.2.2.2.1 d27 hL
      have h36 := hG.2.2.1 d1 hL
      have ho := hG.2.1 hL
      have hb1 := (hG.1 n30).1
      have hb2 := (hG.1 n30).2
      simp only [a0r, List.foldl_cons, List.foldl_nil, Act.put, sA, sZ, sS] at hK ⊢
      rw [if_pos (by rfl)]
      refine d07 (.tmp 36) (.tmp 62) 78 rfl ii Try.underlying78 hii hiz hisz hiby W1 (.slice q k d) k (links.take k) (by rw [List.length_take, hn'.out]; omega) h36 ho ⟨nb, 0, none⟩ h62 ⟨lid, ldata, ltype, lcost⟩ (fun j u hu => by rw [Addr.add_mid]; exact hnb j u hu) (by omega) ?_
      intro q2 d2 w' ho' hg
      refine hK.out _ _ (hS.trans' hg.k (fun i e => .inr (ho.2.1 i e))) ⟨fun _ => ⟨hb1.keep hg.k (fun e => ho.ne_blkR hb1 B e rfl), hb2.keep hg.k (fun i e1 e2 => ho.ne_nums hb2 i e2 e1)⟩, fun e => absurd (show true = false from e) (by decide), fun _ e => absurd (show true = false from e) (by decide), fun _ e => absurd (show true = false from e) (by decide), fun _ => ⟨d1, d27, fun _ => ⟨q2, d2, rfl, ho'⟩⟩, fun e => absurd (n29.symm.trans e) (by decide), fun e => absurd (n30.symm.trans e) (by decide)⟩
     ·intro L f W hG hS hL hdep K hK
      have d28 := hdep ⟨28, .phase⟩ (by simp) rfl (by decide)
      have n30 : L 30 = false := f0g (fun e => absurd ((hG.2.2.2.2.2.2 e).2.2.2.1.symm.trans hL) (by decide))
      simp only [a0r, List.foldl_cons, List.foldl_nil, Act.put, sA, sZ, sS] at hK ⊢
      rw [if_pos (by rfl)]
      go_simp
      exact hK.out _ _ hS ⟨hG.1, hG.2.1, hG.2.2.1, hG.2.2.2.1, hG.2.2.2.2.1, fun _ => ⟨d28, rfl⟩, fun e => absurd (n30.symm.trans e) (by decide)⟩
     ·intro L f W hG hS hL hdep K hK
      have d28 := hdep ⟨28, .data⟩ (by simp) rfl (by decide)
      have d29 := hdep ⟨29, .data⟩ (by simp) rfl (by decide)
      obtain ⟨e1, e27, hx⟩ := hG.2.2.2.2.1 d28
      obtain ⟨q2, d2, h63, ho⟩ := hx hL
      have h64 := (hG.2.2.2.2.2.1 d29).2
      have hb1 := (hG.1 hL).1
      have hb2 := (hG.1 hL).2
      have hc5 := hb1.cell 5 (.slice q k d) rfl
      have hf5 := hb1.frozen 5
      have hs5 : a02 (fun i => i = B) W (W.setCell ⟨B, 5, none⟩ (.slice q2 (k + 1) d2)) := (a02.refl (fun i => i = B) W).setCell (.inl rfl) _
      simp only [a0r, List.foldl_cons, List.foldl_nil, Act.put, sA, sZ, sS] at hK ⊢
      rw [h63, h64] at hK ⊢
      rw [if_pos (by rfl)]
      go_simp
      refine hK.out _ (hS.trans' hs5 (fun i e => .inr (by rw [e]; exact hlo'.out))) ⟨fun e => absurd (show true = false from e) (by decide), fun e => absurd (d28.symm.trans e) (by decide), fun _ e => absurd (d28.symm.trans e) (by decide), fun _ e => absurd (d28.symm.trans e) (by decide), fun _ => ⟨e1, e27, fun e => absurd (show true = false from e) (by decide)⟩, fun _ => ⟨d28, rfl⟩, fun _ => ⟨e1, e27, d28, d29, q2, d2, hb1.put 5 _, ho.keep hs5 (fun i e h => ho.ne_blkR hb1 i e h), hb2.keep hs5 (fun i e h => hb2.ne_blkR hb1 i e h)⟩⟩
    ·intro f W hG hS
     obtain ⟨-, -, -, -, q2, d2, hb, hol, hon⟩ := hG.2.2.2.2.2.2 rfl
     simp only [a0r, List.foldl_cons, List.foldl_nil, Act.put, sA, sZ, sS]
     generalize f 36 = f36
     generalize f 62 = f62
     generalize f 63 = f63
     generalize f 64 = f64
     have hnew : Hid (a06 W B 80 (La' age type id adv seq (.slice q2 (k + 1) d2) mask (.slice p routers.length c) cost) ∧ c0z W1 W (.slice q2 (k + 1) d2) (links.take (k + 1)) ∧ OwnN W1 W (.slice p routers.length c) routers ∧ a02 (fun _ => False) W1 W) := Hi ⟨hb, by rw [htk.out]; exact hol, hon, hS⟩
     clear hG hS hb hol hon hHeld
     refine NoPanic.normal ?_
     go_wp2_with fail
     exact ⟨⟨k + 1, q2, d2, by omega, by go_num, hnew⟩, by simp [intOf]; omega⟩
   ·obtain rfl : k = n := by omega
    have htk : links.take k = links := List.take_of_length_le (by rw [hn'.out]; omega)
    rw [htk] at hinv
    have hRR := Hi (hRes.out.keep hinv.out.2.2.2 (fun f => f))
    have hBB := Hi hinv.out.1
    have hOL := Hi hinv.out.2.1
    have hON := Hi hinv.out.2.2.1
    have hKK := Hi (hA1.out.k.trans hinv.out.2.2.2)
    clear htk hinv hL1 hz1 hblk' hown'
    go_wp2_with (first | ((with_reducible refine a09 65 ?_); refine wpList_load_mid rfl 80 (.tmp 3) rfl B 0 rfl (La' age type id adv seq (.slice q k d) mask (.slice p routers.length c) cost) _ hBB.out.range Try.underlying80 rfl a0n ?_) | ((with_reducible refine a08 2 ?_); refine a05 rfl 80 (.tmp 2) (.tmp 65) rfl (w.heap.size + 1) (La age type id adv seq (.slice q k d) mask (.slice p routers.length c) cost) rfl rfl (a06.there hRR.out 0 9 (Nat.le_refl 9)) a0n (a0z _ _ _ _ _ _ _ _ _ (a03 _ _ _) (a03 _ _ _)) ?_; intro w9 hr9 hs9))
    have c0 := a01 hr9.out 0 (.int .i64 age) rfl
    have c1 := a01 hr9.out 1 (.int .i64 type) rfl
    have c2 := a01 hr9.out 2 (.int .u32 id) rfl
    have c3 := a01 hr9.out 3 (.int .u32 adv) rfl
    have c4 := a01 hr9.out 4 (.int .i64 seq) rfl
    have c5 := a01 hr9.out 5 (.slice q k d) rfl
    have c6 := a01 hr9.out 6 (.int .u32 mask) rfl
    have c7 := a01 hr9.out 7 (.slice p routers.length c) rfl
    have c8 := a01 hr9.out 8 (.int .i64 cost) rfl
    refine bodyPost_ret (v := .agg (La age type id adv seq (.slice q k d) mask (.slice p routers.length c) cost)) (by simp [results, Try.results36, go_sem, c0, c1, c2, c3, c4, c5, c6, c7, c8]) rfl ?_
    have hfl := (hOL.out.keep hs9.out (fun i e h => hOL.out.ne_blkR hRR.out i e h)).at
    have hfn := (hON.out.keep hs9.out (fun i e h => hON.out.ne_blkR hRR.out i e h)).at
    refine ⟨⟨q, d, p, c, ?_, ?_, hfn, fun i n' c' e => Nat.le_trans hA1.out.k.size (hOL.out.2.1 i (c0d e)), fun i n' c' e => Nat.le_trans hA1.out.k.size (hON.out.2.1 i (c0d e))⟩, hKK.out.trans' hs9.out (fun i e => .inr (by rw [e]; omega))⟩
    ·rw [hn'.out]
    ·rw [hn'.out]; exact hfl
theorem n0a (w : World) (b o : Nat) (v : Value) (h : w.cell? ⟨b, o, none⟩ = some v) : (loadVar 38 ⟨b, o, none⟩).run Try.prog w = .ok v w := by simp [go_sem, h]
def FrE (w : World) (P : a0x) (BP : Nat) (wx : World) : Prop := a06 wx (w.heap.size + 1) 30 Zq ∧ w.heap.size + 1 < BP ∧ a02 (fun _ => False) w wx ∧ ∃ cs2, cs2.length = 16 ∧ a06 wx BP 30 cs2 ∧ j0q w.heap.size wx (.agg cs2.toArray) P (w.heap.size + 1)
set_option maxRecDepth 100000 in
set_option maxHeartbeats 32000000 in
theorem from_l (P : a0x) (pn ph pk pl : Option Addr) (cn ch ck cl : Nat) (cs : List Value) (w : World) (hcs : Hid (cs = b05 P (.slice pn P.nbs.length cn) (.slice ph P.heads.length ch) (.slice pk P.keys.length ck) (.slice pl P.lsas.length cl)))
 (hin : Hid (e04 w P (.slice pn P.nbs.length cn) (.slice ph P.heads.length ch) (.slice pk P.keys.length ck) (.slice pl P.lsas.length cl)))
 (BP nh nk : Nat) (hnh : P.heads.length = nh) (hnk : P.keys.length = nk) (w1 : World) (T : Array Value) (hA : FrA w BP ⟨T, []⟩) (hD : Hid (FrD w P cs BP nh nk w1)) (hhl : P.lsas.length ≤ 1000000) (hls : Hid (∀ l ∈ P.lsas, l.links.length ≤ 1000000 ∧ l.routers.length ≤ 1000000)) (Q : Exit → Act → World → Prop) (hJ : ∀ a' w', FrA w BP a' → FrE w P BP w' → Q .normal a' w') :
 Code.wp Try.prog fromL Q ⟨T, []⟩ w1 := by
 obtain ⟨-, hT, e1, e2, e4⟩ := hA
 change gd T 1 = _ at e1; change gd T 2 = _ at e2; change gd T 4 = _ at e4; change T.size = 127 at hT
 rw [g0j hT]
 rw [e1, e2, e4]
 conv => arg 2; whnf
 clear hT e1 e2 e4
 obtain ⟨il, hil, hlz, hlsz, hlby⟩ := info_parts h0d
 obtain ⟨n, hn⟩ : ∃ n, P.lsas.length = n := ⟨_, rfl⟩
 have hn' := Hi hn; have hnh' := Hi hnh; have hnk' := Hi hnk
 obtain ⟨ms0, hms0, hsrc0, hlin0⟩ : ∃ ms : List LsaM, ms.map (·.d) = P.lsas ∧ a0q 9 d0k w (.slice pl n cl) ms ∧ ∀ m ∈ ms, f0n w m := by rw [← hn]; exact hin.out.l
 have hml0 : ms0.length = n := by rw [← hn, ← hms0, List.length_map]
 have hms' := Hi hms0; have hsrc := Hi hsrc0; have hlin := Hi hlin0; have hml' := Hi hml0
 have hc15 : Hid (cs[15]? = some (.slice pl n cl)) := Hi (by rw [hcs.out, ← hn]; rfl)
 rw [hn] at hhl
 obtain ⟨qn, qh, qk, dn, dh, dk, h1, h2, h3, h4, h5, h6, h7, h8⟩ := hD.out
 have g3 := Hi h3
 have hBW : Hid (BP < w1.heap.size) := Hi (lt_of_block h4)
 have hD0 : Hid (∃ ql dl ms, ms.length = 0 ∧ a06 w1 w.heap.size 40 cs ∧ a06 w1 (w.heap.size + 1) 30 Zq ∧ a06 w1 BP 30 (b05 P (.slice qn P.nbs.length dn) (.slice qh nh dh) (.slice qk nk dk) (.slice ql 0 dl)) ∧ OwnN w w1 (.slice qn P.nbs.length dn) P.nbs ∧ OwnR 73 7 b0q w w1 (.slice qh nh dh) (P.heads.take nh) ∧ OwnR 71 3 b0u w w1 (.slice qk nk dk) (P.keys.take nk) ∧ g0n w1 w1 (.slice ql 0 dl) ms ∧ ms.map (·.d) = P.lsas.take 0 ∧ a02 (fun _ => False) w w1) := Hi ⟨none, 0, [], rfl, h1, h2, h4, h5, h6, h7, g0n.nil _ _ (Nat.le_refl _), rfl, h8⟩
 clear hD hn hnh hnk h1 h2 h3 h4 h5 h6 h7 h8 hms0 hsrc0 hlin0 hml0
 go_wp2_with fail
 go_loopw [8] (fun iv wr => ∃ (k : Nat), k ≤ n ∧ iv = .int .i64 k ∧ Hid (∃ ql dl ms, ms.length = k ∧ a06 wr w.heap.size 40 cs ∧ a06 wr (w.heap.size + 1) 30 Zq ∧ a06 wr BP 30 (b05 P (.slice qn P.nbs.length dn) (.slice qh nh dh) (.slice qk nk dk) (.slice ql k dl)) ∧ OwnN w wr (.slice qn P.nbs.length dn) P.nbs ∧ OwnR 73 7 b0q w wr (.slice qh nh dh) (P.heads.take nh) ∧ OwnR 71 3 b0u w wr (.slice qk nk dk) (P.keys.take nk) ∧ g0n w1 wr (.slice ql k dl) ms ∧ ms.map (·.d) = P.lsas.take k ∧ a02 (fun _ => False) w wr)) (fun iv _ => n - (intOf iv).toNat)
 case atStart => exact ⟨0, Nat.zero_le _, rfl, hD0⟩
 case round =>
  obtain ⟨k, hk, rfl, hrest⟩ := hrel
  obtain ⟨q, d, ms, hml, h1, h2, h4, h5, h6, h7, h9, hmd, h8⟩ := hrest.out
  have hb := h1.cell 15 _ hc15.out
  have g1 := Hi h1; have g2 := Hi h2; have g4 := Hi h4; have g5 := Hi h5; have g6 := Hi h6; have g7 := Hi h7; have g8 := Hi h8; have g9 := Hi h9; have gml := Hi hml; have gmd := Hi hmd
  clear h1 h2 h4 h5 h6 h7 h8 h9 hrest hml hmd
  by_cases hkn : k < n
  ·have hkni : (k : Int) < n := by omega
   obtain ⟨g, o, hpe, hrows⟩ := a0q.open hsrc.out (by rw [hml'.out]; omega)
   subst hpe
   obtain ⟨hd, hhd⟩ : ∃ l, ms0[k]? = some l := ⟨_, List.getElem?_eq_getElem (by rw [hml'.out]; exact hkn)⟩
   have hmem : hd ∈ ms0 := List.mem_of_getElem? hhd
   have hdl : P.lsas[k]? = some hd.d := by rw [← hms'.out, List.getElem?_map, hhd]; rfl
   have htk : Hid (P.lsas.take (k + 1) = P.lsas.take k ++ [hd.d]) := Hi (by
    obtain ⟨hk2, e⟩ := List.getElem?_eq_some_iff.1 hdl
    rw [List.take_succ_eq_append_getElem hk2, e])
   have hbd := hls.out hd.d (List.mem_of_getElem? hdl)
   have hIn := Hi (hlin.out hd hmem)
   obtain ⟨mm, p5, c5, p7, c7⟩ := hd
   have hrow : Hid (w.rangeAt g (o + k * 9) (La' mm.age mm.type mm.id mm.adv mm.seq (.slice p5 mm.links.length c5) mm.mask (.slice p7 mm.routers.length c7) mm.cost)) := Hi (hrows k _ hhd)
   have hb1 : mm.links.length * 24 ≤ 140737488351232 := by have := hbd.1; dsimp only at this; omega
   have hb2 : mm.routers.length * 4 ≤ 140737488351232 := by have := hbd.2; dsimp only at this; omega
   clear hhd hrows hmem hdl hbd
   have kd : a02 (fun _ => False) wr wr.drew := (a02.refl _ _).drew
   have f1 := Hi (g1.out.keep kd id); have f2 := Hi (g2.out.keep kd id); have hBk := Hi (g4.out.keep kd id); have f5 := Hi (g5.out.keep kd (fun _ _ f => f)); have f6 := Hi (g6.out.keep kd (fun _ _ f => f)); have f7 := Hi (g7.out.keep kd (fun _ _ f => f)); have hInv := Hi (g9.out.keep kd); have hKw := Hi (g8.out.trans kd)
   clear kd
   go_upto_region 15 with fail
   refine wp_region_noPanic ?_
   refine wp_region_held_drew (S := (fun W => a02 (fun _ => False) w W ∧ a06 W w.heap.size 40 cs)) (by kernel_rfl) (⟨hKw.out, f1.out⟩) (fun hHeld => ?_)
   refine tk 0 rfl ?_
   refine tk 2 rfl ?_
   refine tkL 3 rfl (a04 (by rfl) 38 (.tmp 117) rfl w.heap.size 15 rfl _ (fun _ s => s.2.cell 15 _ hc15.out) (fun w s => n0a w _ _ _ s)) ?_
   refine tk 4 rfl ?_
   refine tk 5 rfl ?_
   refine tkL 6 rfl (yieldsIf_load_mid (by rfl) 76 (.tmp 120) rfl g (o + k * 9) rfl (La' mm.age mm.type mm.id mm.adv mm.seq (.slice p5 mm.links.length c5) mm.mask (.slice p7 mm.routers.length c7) mm.cost) _ (fun _ s => s.1.rangeAt hrow.out id) Try.underlying76 rfl b04) ?_
   obtain ⟨W0, hW0⟩ : ∃ W0, W0 = wr.drew := ⟨_, rfl⟩
   rw [← hW0] at f1 f2 hBk f5 f6 f7 hInv hKw hHeld ⊢
   clear hW0 hb g1 g2 g4 g5 g6 g7 g8 g9 hrow
   refine c0a 1 7 rfl rfl (by kernel_rfl) (fun K hK => ?_) (fun K hK => ?_)
   focus
    have hcF := hBk.out.cell 15 (.slice q k d) rfl
    go_simp
    refine hK.out _ _ hHeld (fun hHeld => ?_)
    clear hK K hcF
    try simp only [Act.put, sA, sZ, sS]
    refine sL 7 rfl fun K hK => ?_
    go_simp
    refine (n0y mm.age mm.type mm.seq mm.cost mm.id mm.adv mm.mask mm.links mm.routers p5 p7 c5 c7 _ (Hi (hIn.out.1.keep hHeld.1)) (Hi (hIn.out.2.keep hHeld.1)) hb1 hb2).mono ?_
    rintro e W0h ⟨⟨q5, d5, q7, d7, rfl, r1, r2, r3, r4⟩, kh⟩
    go_wp2_with fail
    refine hK.out _ _ ⟨hHeld.1.trans kh, hHeld.2.keep kh id⟩ (fun hHeld => ?_)
    clear hK K
    try simp only [Act.put, sA, sZ, sS]
    have hq5 : Hid (f0n W0h ⟨mm, q5, d5, q7, d7⟩) := Hi ⟨r1, r2⟩
    have hfrm : Hid (g0c w1.heap.size ⟨mm, q5, d5, q7, d7⟩) := Hi ⟨fun i n c e => Nat.le_trans hInv.out.own.2.2 (r3 i n c e), fun i n c e => Nat.le_trans hInv.out.own.2.2 (r4 i n c e)⟩
    have hsep : Hid (SepM (.slice q k d) ⟨mm, q5, d5, q7, d7⟩) := Hi (SepM.new (w0 := w) (fun k e => hInv.out.own.own_lt k e) ⟨r3, r4⟩ rfl)
    have f1 := Hi (f1.out.keep kh id); have f2 := Hi (f2.out.keep kh id); have hBk := Hi (hBk.out.keep kh id); have f5 := Hi (f5.out.keep kh (fun _ _ f => f)); have f6 := Hi (f6.out.keep kh (fun _ _ f => f)); have f7 := Hi (f7.out.keep kh (fun _ _ f => f)); have hInv := Hi (hInv.out.keep kh); have hKw := Hi (hKw.out.trans kh)
    clear kh r1 r2 r3 r4
    obtain ⟨W0, hWh⟩ : ∃ Wz, Wz = W0h := ⟨_, rfl⟩
    subst hWh
    refine sL 8 rfl fun K hK => ?_
    rw [if_pos (by rfl)]
    refine k0n 28 80 (.tmp 122) rfl _ rfl _ (fun W => f04 W _ _ _ _ _ _ _ _ _ _ _ _ _) ?_
    refine hK.out _ _ ⟨hHeld.1.alloc _, hHeld.2.alloc _⟩ (fun hHeld => ?_)
    clear hK K
    try simp only [Act.put, sA, sZ, sS]
    have hka : a02 (fun _ => False) W0 (W0.alloc (.cells (La mm.age mm.type mm.id mm.adv mm.seq (.slice q5 mm.links.length d5) mm.mask (.slice q7 mm.routers.length d7) mm.cost) 80)) := (a02.refl _ _).alloc _
    have hnr : Hid ((W0.alloc (.cells (La mm.age mm.type mm.id mm.adv mm.seq (.slice q5 mm.links.length d5) mm.mask (.slice q7 mm.routers.length d7) mm.cost) 80)).rangeAt W0.heap.size 0 (La' mm.age mm.type mm.id mm.adv mm.seq (.slice q5 mm.links.length d5) mm.mask (.slice q7 mm.routers.length d7) mm.cost)) := Hi (a0o W0 _ 80)
    have f1 := Hi (f1.out.keep hka id); have f2 := Hi (f2.out.keep hka id); have hBk := Hi (hBk.out.keep hka id); have f5 := Hi (f5.out.keep hka (fun _ _ f => f)); have f6 := Hi (f6.out.keep hka (fun _ _ f => f)); have f7 := Hi (f7.out.keep hka (fun _ _ f => f)); have hInv := Hi (hInv.out.keep hka); have hKw := Hi (hKw.out.trans hka)
    have hq5 := Hi (hq5.out.keep hka)
    obtain ⟨nb, hnb⟩ : ∃ nb, nb = W0.heap.size := ⟨_, rfl⟩
    obtain ⟨W0, hWs⟩ : ∃ Wz, Wz = W0.alloc (.cells (La mm.age mm.type mm.id mm.adv mm.seq (.slice q5 mm.links.length d5) mm.mask (.slice q7 mm.routers.length d7) mm.cost) 80) := ⟨_, rfl⟩
    rw [← hWs] at f1 f2 hBk f5 f6 f7 hInv hKw hq5 hnr hHeld ⊢
    rw [← hnb] at hnr ⊢
    clear hka hnb hWs
    refine sL 9 rfl fun K hK => ?_
   rotate_left 1
   focus
    go_simp
    refine (n0y mm.age mm.type mm.seq mm.cost mm.id mm.adv mm.mask mm.links mm.routers p5 p7 c5 c7 _ (Hi (hIn.out.1.keep hHeld.1)) (Hi (hIn.out.2.keep hHeld.1)) hb1 hb2).mono ?_
    rintro e W0h ⟨⟨q5, d5, q7, d7, rfl, r1, r2, r3, r4⟩, kh⟩
    go_wp2_with fail
    refine hK.out _ _ ⟨hHeld.1.trans kh, hHeld.2.keep kh id⟩ (fun hHeld => ?_)
    clear hK K
    try simp only [Act.put, sA, sZ, sS]
    have hq5 : Hid (f0n W0h ⟨mm, q5, d5, q7, d7⟩) := Hi ⟨r1, r2⟩
    have hfrm : Hid (g0c w1.heap.size ⟨mm, q5, d5, q7, d7⟩) := Hi ⟨fun i n c e => Nat.le_trans hInv.out.own.2.2 (r3 i n c e), fun i n c e => Nat.le_trans hInv.out.own.2.2 (r4 i n c e)⟩
    have hsep : Hid (SepM (.slice q k d) ⟨mm, q5, d5, q7, d7⟩) := Hi (SepM.new (w0 := w) (fun k e => hInv.out.own.own_lt k e) ⟨r3, r4⟩ rfl)
    have f1 := Hi (f1.out.keep kh id); have f2 := Hi (f2.out.keep kh id); have hBk := Hi (hBk.out.keep kh id); have f5 := Hi (f5.out.keep kh (fun _ _ f => f)); have f6 := Hi (f6.out.keep kh (fun _ _ f => f)); have f7 := Hi (f7.out.keep kh (fun _ _ f => f)); have hInv := Hi (hInv.out.keep kh); have hKw := Hi (hKw.out.trans kh)
    clear kh r1 r2 r3 r4
    obtain ⟨W0, hWh⟩ : ∃ Wz, Wz = W0h := ⟨_, rfl⟩
    subst hWh
    refine c0a 1 8 rfl rfl (by kernel_rfl) (fun K hK => ?_) (fun K hK => ?_)
    focus
     have hcF := hBk.out.cell 15 (.slice q k d) rfl
     go_simp
     refine hK.out _ _ hHeld (fun hHeld => ?_)
     clear hK K hcF
     try simp only [Act.put, sA, sZ, sS]
     refine sL 8 rfl fun K hK => ?_
     rw [if_pos (by rfl)]
     refine k0n 28 80 (.tmp 122) rfl _ rfl _ (fun W => f04 W _ _ _ _ _ _ _ _ _ _ _ _ _) ?_
     refine hK.out _ _ ⟨hHeld.1.alloc _, hHeld.2.alloc _⟩ (fun hHeld => ?_)
     clear hK K
     try simp only [Act.put, sA, sZ, sS]
     have hka : a02 (fun _ => False) W0 (W0.alloc (.cells (La mm.age mm.type mm.id mm.adv mm.seq (.slice q5 mm.links.length d5) mm.mask (.slice q7 mm.routers.length d7) mm.cost) 80)) := (a02.refl _ _).alloc _
     have hnr : Hid ((W0.alloc (.cells (La mm.age mm.type mm.id mm.adv mm.seq (.slice q5 mm.links.length d5) mm.mask (.slice q7 mm.routers.length d7) mm.cost) 80)).rangeAt W0.heap.size 0 (La' mm.age mm.type mm.id mm.adv mm.seq (.slice q5 mm.links.length d5) mm.mask (.slice q7 mm.routers.length d7) mm.cost)) := Hi (a0o W0 _ 80)
     have f1 := Hi (f1.out.keep hka id); have f2 := Hi (f2.out.keep hka id); have hBk := Hi (hBk.out.keep hka id); have f5 := Hi (f5.out.keep hka (fun _ _ f => f)); have f6 := Hi (f6.out.keep hka (fun _ _ f => f)); have f7 := Hi (f7.out.keep hka (fun _ _ f => f)); have hInv := Hi (hInv.out.keep hka); have hKw := Hi (hKw.out.trans hka)
     have hq5 := Hi (hq5.out.keep hka)
     obtain ⟨nb, hnb⟩ : ∃ nb, nb = W0.heap.size := ⟨_, rfl⟩
     obtain ⟨W0, hWs⟩ : ∃ Wz, Wz = W0.alloc (.cells (La mm.age mm.type mm.id mm.adv mm.seq (.slice q5 mm.links.length d5) mm.mask (.slice q7 mm.routers.length d7) mm.cost) 80) := ⟨_, rfl⟩
     rw [← hWs] at f1 f2 hBk f5 f6 f7 hInv hKw hq5 hnr hHeld ⊢
     rw [← hnb] at hnr ⊢
     clear hka hnb hWs
     refine sL 9 rfl fun K hK => ?_
    rotate_left 1
    focus
     rw [if_pos (by rfl)]
     refine k0n 28 80 (.tmp 122) rfl _ rfl _ (fun W => f04 W _ _ _ _ _ _ _ _ _ _ _ _ _) ?_
     refine hK.out _ _ ⟨hHeld.1.alloc _, hHeld.2.alloc _⟩ (fun hHeld => ?_)
     clear hK K
     try simp only [Act.put, sA, sZ, sS]
     have hka : a02 (fun _ => False) W0 (W0.alloc (.cells (La mm.age mm.type mm.id mm.adv mm.seq (.slice q5 mm.links.length d5) mm.mask (.slice q7 mm.routers.length d7) mm.cost) 80)) := (a02.refl _ _).alloc _
     have hnr : Hid ((W0.alloc (.cells (La mm.age mm.type mm.id mm.adv mm.seq (.slice q5 mm.links.length d5) mm.mask (.slice q7 mm.routers.length d7) mm.cost) 80)).rangeAt W0.heap.size 0 (La' mm.age mm.type mm.id mm.adv mm.seq (.slice q5 mm.links.length d5) mm.mask (.slice q7 mm.routers.length d7) mm.cost)) := Hi (a0o W0 _ 80)
     have f1 := Hi (f1.out.keep hka id); have f2 := Hi (f2.out.keep hka id); have hBk := Hi (hBk.out.keep hka id); have f5 := Hi (f5.out.keep hka (fun _ _ f => f)); have f6 := Hi (f6.out.keep hka (fun _ _ f => f)); have f7 := Hi (f7.out.keep hka (fun _ _ f => f)); have hInv := Hi (hInv.out.keep hka); have hKw := Hi (hKw.out.trans hka)
     have hq5 := Hi (hq5.out.keep hka)
     obtain ⟨nb, hnb⟩ : ∃ nb, nb = W0.heap.size := ⟨_, rfl⟩
     obtain ⟨W0, hWs⟩ : ∃ Wz, Wz = W0.alloc (.cells (La mm.age mm.type mm.id mm.adv mm.seq (.slice q5 mm.links.length d5) mm.mask (.slice q7 mm.routers.length d7) mm.cost) 80) := ⟨_, rfl⟩
     rw [← hWs] at f1 f2 hBk f5 f6 f7 hInv hKw hq5 hnr hHeld ⊢
     rw [← hnb] at hnr ⊢
     clear hka hnb hWs
     refine sL 1 rfl fun K hK => ?_
     have hcF := hBk.out.cell 15 (.slice q k d) rfl
     go_simp
     refine hK.out _ _ hHeld (fun hHeld => ?_)
     clear hK K hcF
     try simp only [Act.put, sA, sZ, sS]
     refine sL 9 rfl fun K hK => ?_
   all_goals
    rw [if_pos (by rfl)]
    refine c0j (.tmp 116) (.tmp 123) 28 80 rfl il (.agg Zl) 96 Try.underlying28 hil hlz hlsz hlby rfl (by decide) (by decide) d0b w1 _ k ms gml.out rfl hInv.out.own ⟨nb, 0, none⟩ rfl ⟨mm, q5, d5, q7, d7⟩ (fun j u hu => by rw [Addr.add_mid]; exact hnr.out j u hu) (i06 _) (by omega) ?_
    intro q2 d2 w' hO2 hG2
    have hlw1 : Hid (w.heap.size ≤ w1.heap.size) := Hi (by have := hBW.out; have := g3.out; omega)
    refine hK.out _ _ ⟨hHeld.1.trans' hG2.k (fun i e => .inr (Nat.le_trans hlw1.out (hInv.out.own.2.1 i e))), hHeld.2.keep hG2.k (fun e => hInv.out.own.ne_blk f1.out (by decide) _ e rfl)⟩ (fun hHeld => ?_)
    clear hK K
    try simp only [Act.put, sA, sZ, sS]
    have e1 := Hi (f1.out.keep hG2.k (fun e => hInv.out.own.ne_blk f1.out (by decide) _ e rfl)); have e2 := Hi (f2.out.keep hG2.k (fun e => hInv.out.own.ne_blk f2.out (by decide) _ e rfl)); have e4 := Hi (hBk.out.keep hG2.k (fun e => hInv.out.own.ne_blk hBk.out (by decide) BP e rfl)); have e5 := Hi (f5.out.keep hG2.k (fun i e h => g0v f5.out hInv.out.own (by decide) i e h)); have e6 := Hi (f6.out.keep hG2.k (fun i e h => h0j f6.out hInv.out.own (by decide) i e h)); have e7 := Hi (f7.out.keep hG2.k (fun i e h => h0j f7.out hInv.out.own (by decide) i e h)); have e8 := Hi (hKw.out.trans' hG2.k (fun i e => .inr (Nat.le_trans hlw1.out (hInv.out.own.2.1 i e))))
    have hcF := e4.out.cell 15 (.slice q k d) rfl
    have hfF := e4.out.frozen 15
    have hsF : a02 (fun i => i = BP) w' (w'.setCell ⟨BP, 15, none⟩ (.slice q2 (k + 1) d2)) := (a02.refl (fun i => i = BP) w').setCell (p := ⟨BP, 15, none⟩) (.inl rfl) _
    have hI8 := Hi (hInv.out.push _ hO2 hG2 hq5.out hfrm.out hsep.out)
    have hI9 := Hi (hI8.out.keepB hsF hBW.out (hI8.out.own.ne_blk e4.out (by decide)))
    clear hO2 hG2 hInv f1 f2 hBk f5 f6 f7 hKw hI8
    refine tk 10 rfl ?_
    refine sL 11 rfl fun K hK => ?_
    go_simp
    refine hK.out _ _ (⟨hHeld.1.trans' hsF (fun i e => .inr (by rw [e]; exact Nat.le_of_lt (by have := g3.out; omega))), hHeld.2.keep hsF (fun e => by have := g3.out; omega)⟩) (fun hHeld => ?_)
    clear hK K
    try simp only [Act.put, sA, sZ, sS]
    refine wpAnyH_done (by kernel_rfl) (NoPanic.normal ?_) _
    clear hcF hfF
    go_wp2_with fail
    refine ⟨⟨k + 1, by omega, by go_num, Hi ⟨q2, d2, ms ++ [⟨mm, q5, d5, q7, d7⟩], by rw [List.length_append, gml.out]; rfl, ?_, ?_, e4.out.put 15 _, ?_, ?_, ?_, hI9.out, by rw [List.map_append, gmd.out, htk.out]; rfl, ?_⟩⟩, by simp [intOf]; omega⟩
    ·exact e1.out.keep hsF (fun e => by have := g3.out; omega)
    ·exact e2.out.keep hsF (fun e => by have := g3.out; omega)
    ·exact e5.out.keep hsF (fun i e h => (OwnN.ne_blkP e5.out e4.out) i e h)
    ·exact e6.out.keep hsF (fun i e h => e6.out.ne_blk e4.out (by decide) i e h)
    ·exact e7.out.keep hsF (fun i e h => e7.out.ne_blk e4.out (by decide) i e h)
    ·exact e8.out.trans' hsF (fun i e => .inr (by rw [e]; exact Nat.le_of_lt (by have := g3.out; omega)))
  ·obtain rfl : k = n := by omega
   have hkni : ¬ (k : Int) < k := by omega
   go_wp2_with fail
   first | refine hJ _ _ ?_ ?_ | skip
   ·exact ⟨rfl, rfl, rfl, rfl, rfl⟩
   ·refine ⟨g2.out, g3.out, g8.out, _, rfl, g4.out, ?_⟩
    have th : P.heads.take nh = P.heads := List.take_of_length_le (by rw [hnh'.out]; exact Nat.le_refl _)
    have tk : P.keys.take nk = P.keys := List.take_of_length_le (by rw [hnk'.out]; exact Nat.le_refl _)
    have tl : P.lsas.take k = P.lsas := List.take_of_length_le (by rw [hn'.out]; exact Nat.le_refl _)
    have h6 := g6.out; have h7 := g7.out; have hmd := gmd.out
    rw [th] at h6; rw [tk] at h7; rw [tl] at hmd
    have hbw := hBW.out; have hg3 := g3.out
    obtain rfl := hnh'.out
    obtain rfl := hnk'.out
    obtain rfl := hn'.out
    have hrow := g9.out.own.at d0b
    refine ⟨qn, dn, qh, dh, qk, dk, q, d, rfl, g5.out.at, h6.at b0r, h7.at c0o, ⟨ms, hmd, hrow, g9.out.in_, fun m hm => ⟨fun i n c e => Nat.le_trans (by omega) ((g9.out.fr m hm).1 i n c e), fun i n c e => Nat.le_trans (by omega) ((g9.out.fr m hm).2 i n c e)⟩, fun i e => Nat.le_trans (by omega) (g9.out.own.2.1 i e), fun m hm => ⟨fun _ i n c e => by have := (g9.out.fr m hm).1 i n c e; omega, fun _ i n c e => by have := (g9.out.fr m hm).2 i n c e; omega⟩⟩, fun i n c e => g5.out.2.1 i (c0d e), fun i n c e => h6.2.1 i (c0d e), fun i n c e => h7.2.1 i (c0d e), fun _ i n c e => OwnN.ne_blkP g5.out g2.out i (c0d e), fun _ i n c e => h6.ne_blk g2.out (by decide) i (c0d e), fun _ i n c e => h7.ne_blk g2.out (by decide) i (c0d e), fun _ i n c e => g9.out.own.ne_blk g2.out (by decide) i (c0d e)⟩
theorem ret_cell {P : Program} {fn : Func} {p : Tmp} {ty : TypeId} (h : fn.results = #[.cell p ty]) (tmps : Array Value) (w : World) (b : Nat) (cs : List Value) (d : TypeDesc) (hp : tmps.getD p undef = .pointer (some ⟨b, 0, none⟩))
 (hc : w.rangeAt b 0 cs) (hu : P.underlying ty = some d) (hd : d.isRow = true) (hi : (P.info? ty).map (·.size) = some cs.length) : (results fn tmps).run P w = .ok (.agg cs.toArray) w := by
 have hl := run_loadVar_mid w b 0 ty cs d hc hu hd hi
 have hp' : tmps[p]?.getD undef = .pointer (some ⟨b, 0, none⟩) := by simpa using hp
 simp only [results, h]
 simp [Sem.run_bind, Result.andThen, hp', asAddr, hl]
theorem f0y {w0 w : World} {v : Value} {xs : List Nat} (h : OwnN w0 w v xs) {B : Nat} {t2 : TypeId} {cs : List Value} (hb : a06 w B t2 cs) (hne : 22 ≠ t2) (e : v.ownBlock = some B) : False := by
 rcases h.1.2 with ⟨e1, -⟩ | ⟨g, cap, cur, e1, -, hg, -⟩
 ·rw [e1] at e; simp [Value.ownBlock] at e
 ·rw [e1] at e
  simp only [Value.ownBlock, Option.some.injEq] at e
  subst e
  have hb2 : w.heap[g]? = _ := hb
  rw [hg] at hb2
  injection hb2 with hb2
  injection hb2 with _ hb2
  exact hne hb2
set_option maxRecDepth 100000 in
set_option maxHeartbeats 32000000 in
theorem from_z (P : a0x) (w : World) (BP : Nat) (wx : World) (T : Array Value) (hA : FrA w BP ⟨T, []⟩) (hE : Hid (FrE w P BP wx)) :
 Code.wp Try.prog fromZ (bodyPost Try.prog Try.f13 (fun e w' => ∃ v, e = .returned v ∧ b0f w.heap.size w' v P ∧ a02 (fun _ => False) w w')) ⟨T, []⟩ wx := by
 obtain ⟨-, hT, e1, e2, e4⟩ := hA
 change gd T 1 = _ at e1; change gd T 2 = _ at e2; change gd T 4 = _ at e4; change T.size = 127 at hT
 rw [g0j hT]
 rw [e1, e2, e4]
 conv => arg 2; whnf
 clear hT e1 e2 e4
 obtain ⟨h1, h2, h3, cs2, h4, h5, h6⟩ := hE.out
 have g1 := Hi h1; have g2 := Hi h2; have g3 := Hi h3; have g4 := Hi h4; have g5 := Hi h5; have g6 := Hi h6
 have hone : Hid (cs2.toArray.all (·.oneCell') = true) := Hi (by
  obtain ⟨cs', e, -, h⟩ := h6.cells
  injection e with e
  rw [e]; exact h)
 have hci : Hid ((Try.prog.info? 30).map (·.size) = some cs2.length) := Hi (by rw [a0l, h4])
 clear h1 h2 h3 h4 h5 h6 hE
 go_wp2_with (first | ((with_reducible refine a09 126 ?_); go_must (refine wpList_load_mid rfl 30 (.tmp 4) rfl BP 0 rfl cs2 _ g5.out.range Try.underlying30 rfl hci.out ?_)) | ((with_reducible refine a08 2 ?_); go_must (refine a05 rfl 30 (.tmp 2) (.tmp 126) rfl (w.heap.size + 1) cs2.toArray rfl rfl (a06.there g1.out 0 _ (by rw [List.size_toArray, g4.out]; exact Nat.le_refl 16)) (by rw [List.size_toArray]; exact hci.out) hone.out ?_; intro w9 hr9 hs9)))
 refine bodyPost_ret (v := .agg cs2.toArray) (ret_cell Try.results13 _ _ (w.heap.size + 1) cs2 _ rfl hr9.out Try.underlying30 rfl hci.out) rfl ⟨_, rfl, g6.out.store hs9.out, g3.out.trans' hs9.out (fun i e => .inr (by omega))⟩
set_option maxRecDepth 100000 in
set_option maxHeartbeats 32000000 in
theorem i0g (P : a0x) (pn ph pk pl : Option Addr) (cn ch ck cl : Nat) (cs : List Value) (w : World) (hcs : Hid (cs = b05 P (.slice pn P.nbs.length cn) (.slice ph P.heads.length ch) (.slice pk P.keys.length ck) (.slice pl P.lsas.length cl)))
 (hin : Hid (e04 w P (.slice pn P.nbs.length cn) (.slice ph P.heads.length ch) (.slice pk P.keys.length ck) (.slice pl P.lsas.length cl)))
 (hal : P.auth.length ≤ 9223372036854775807) (hnl : P.nbs.length * 4 ≤ 140737488351232) (hhl : P.heads.length ≤ 1000000) (hkl : P.keys.length ≤ 1000000) (hll : P.lsas.length ≤ 1000000) (hls : Hid (∀ l ∈ P.lsas, l.links.length ≤ 1000000 ∧ l.routers.length ≤ 1000000)) :
 Calls Try.prog 13 #[.agg cs.toArray] w (fun e w' => ∃ v, e = .returned v ∧ b0f w.heap.size w' v P ∧ a02 (fun _ => False) w w') := by
 obtain ⟨i0, hi0, hz0, hz1, hz2⟩ := info_parts f02
 have hA0 : Hid (a06 ((w.alloc (.cells cs.toArray 40)).alloc (.cells Zp 30)) w.heap.size 40 cs) := Hi ((a06.new w _ _).alloc _)
 have hR0 : Hid (a06 ((w.alloc (.cells cs.toArray 40)).alloc (.cells Zp 30)) (w.heap.size + 1) 30 Zq) := Hi (by
  have := a06.new (w.alloc (.cells cs.toArray 40)) 30 Zq
  simpa using this)
 have hk0 : Hid (a02 (fun _ => False) w ((w.alloc (.cells cs.toArray 40)).alloc (.cells Zp 30))) := Hi (((a02.refl _ _).alloc _).alloc _)
 have hs0 : Hid (((w.alloc (.cells cs.toArray 40)).alloc (.cells Zp 30)).heap.size = w.heap.size + 2) := Hi (by simp)
 go_enter Try.func13, Try.ntmps13
 go_upto_region 1 with fail
 generalize (w.alloc (.cells cs.toArray 40)).alloc (.cells Zp 30) = W1 at hA0 hR0 hk0 hs0 ⊢
 have hG4 : Hid (W1.rangeAt w.heap.size 4 (Ga' P.mask P.interval P.dead P.priority P.dr P.bdr (.slice pn P.nbs.length cn))) := Hi (c07 hA0.out.range 4 7 (by rw [hcs.out]; rfl))
 have kg : a02 (fun _ => False) W1 (W1.alloc (.cells (Ga P.mask P.interval P.dead P.priority P.dr P.bdr (.slice pn P.nbs.length cn)) 35)) := (a02.refl _ _).alloc _
 have hA1 := Hi (hA0.out.keep kg id); have hR1 := Hi (hR0.out.keep kg id); have hk1 := Hi (hk0.out.trans kg); have hkg := Hi kg
 have hG1 : Hid (a06 (W1.alloc (.cells (Ga P.mask P.interval P.dead P.priority P.dr P.bdr (.slice pn P.nbs.length cn)) 35)) W1.heap.size 35 (Ga' P.mask P.interval P.dead P.priority P.dr P.bdr (.slice pn P.nbs.length cn))) := Hi (a06.new W1 _ _)
 clear kg
 go_upto_region 2 with (first | ((with_reducible refine a09 10 ?_); go_must (refine wpList_load_mid rfl 35 (.tmp 9) rfl w.heap.size 4 rfl (Ga' P.mask P.interval P.dead P.priority P.dr P.bdr (.slice pn P.nbs.length cn)) _ hG4.out Try.underlying35 rfl d0l ?_)) | ((with_reducible refine a08 3 ?_); go_must (refine a07 rfl 35 (.tmp 3) (.tmp 10) rfl _ (Ga P.mask P.interval P.dead P.priority P.dr P.bdr (.slice pn P.nbs.length cn)) rfl rfl d0l rfl (h0q _ _ _ _ _ _ _ (a03 _ _ _)) ?_)))
 clear hG4 hA0 hR0 hk0
 generalize W1.alloc (.cells (Ga P.mask P.interval P.dead P.priority P.dr P.bdr (.slice pn P.nbs.length cn)) 35) = W2 at hA1 hR1 hk1 hG1 hkg ⊢
 refine wp_cut (fun A' wx => ∃ BP, FrA w BP A' ∧ FrD w P cs BP 0 0 wx) (fun A' wx hM => ?_) (fun J K' h1 h2 => ?_)
 ·rename_i hKK
  refine hKK _ _ ?_
  obtain ⟨BP, hA, hD⟩ := hM
  obtain ⟨T, D⟩ := A'
  obtain rfl : D = [] := hA.1
  change Code.wp _ (Code.seq fromH (Code.seq fromK (Code.seq fromL fromZ))) _ _ _
  refine wp_seq (from_h P pn ph pk pl cn ch ck cl cs w hcs hin BP wx T hA (Hi hD) hhl _ (fun a1 w1 hA1 hD1 => ?_))
  obtain ⟨T1, D1⟩ := a1
  obtain rfl : D1 = [] := hA1.1
  change Code.wp _ (Code.seq fromK (Code.seq fromL fromZ)) _ _ _
  refine wp_seq (from_k P pn ph pk pl cn ch ck cl cs w hcs hin BP _ w1 T1 hA1 (Hi hD1) hkl _ (fun a2 w2 hA2 hD2 => ?_))
  obtain ⟨T2, D2⟩ := a2
  obtain rfl : D2 = [] := hA2.1
  change Code.wp _ (Code.seq fromL fromZ) _ _ _
  refine wp_seq (from_l P pn ph pk pl cn ch ck cl cs w hcs hin BP _ _ rfl rfl w2 T2 hA2 (Hi hD2) hll hls _ (fun a3 w3 hA3 hD3 => ?_))
  obtain ⟨T3, D3⟩ := a3
  obtain rfl : D3 = [] := hA3.1
  exact from_z P w BP w3 T3 hA3 (Hi hD3)
 ·have hN : Hid (a0u W2 (.slice pn P.nbs.length cn) P.nbs) := Hi (hin.out.n.keep hk1.out)
  refine wp_region_noPanic ?_
  refine wp_region_held_drew (S := (fun W => a02 (fun _ => False) W1 W ∧ a06 W w.heap.size 40 cs ∧ a06 W W1.heap.size 35 (Ga' P.mask P.interval P.dead P.priority P.dr P.bdr (.slice pn P.nbs.length cn)))) (by kernel_rfl) (⟨hkg.out.drew, hA1.out.keep ((a02.refl (fun _ => False) _).drew) id, hG1.out.keep ((a02.refl (fun _ => False) _).drew) id⟩) (fun hHeld => ?_)
  refine tk 0 rfl ?_
  refine tkL 1 rfl (a04 (by rfl) 3 (.tmp 11) rfl w.heap.size 0 rfl _ (fun _ s => s.2.1.cell 0 (.int .i64 P.type) (by rw [hcs.out]; rfl)) (fun w s => a0t w _ _ _ s)) ?_
  refine tk 2 rfl ?_
  refine tkL 3 rfl (a04 (by rfl) 22 (.tmp 13) rfl w.heap.size 1 rfl _ (fun _ s => s.2.1.cell 1 (.int .u32 P.router) (by rw [hcs.out]; rfl)) (fun w s => b08 w _ _ _ s)) ?_
  refine tk 4 rfl ?_
  refine tkL 5 rfl (a04 (by rfl) 22 (.tmp 15) rfl w.heap.size 2 rfl _ (fun _ s => s.2.1.cell 2 (.int .u32 P.area) (by rw [hcs.out]; rfl)) (fun w s => b08 w _ _ _ s)) ?_
  refine tk 6 rfl ?_
  refine tkL 7 rfl (a04 (by rfl) 9 (.tmp 17) rfl w.heap.size 3 rfl _ (fun _ s => s.2.1.cell 3 (.string ⟨P.auth.toArray⟩) (by rw [hcs.out]; rfl)) (fun w s => j0f w _ _ _ s)) ?_
  refine tk 8 rfl ?_
  refine tkL 9 rfl (a04 (by rfl) 22 (.tmp 19) rfl W1.heap.size 0 rfl _ (fun _ s => s.2.2.cell 0 (.int .u32 P.mask) rfl) (fun w s => b08 w _ _ _ s)) ?_
  refine tk 10 rfl ?_
  refine tkL 11 rfl (a04 (by rfl) 3 (.tmp 21) rfl W1.heap.size 1 rfl _ (fun _ s => s.2.2.cell 1 (.int .i64 P.interval) rfl) (fun w s => a0t w _ _ _ s)) ?_
  refine tk 12 rfl ?_
  refine tkL 13 rfl (a04 (by rfl) 3 (.tmp 23) rfl W1.heap.size 2 rfl _ (fun _ s => s.2.2.cell 2 (.int .i64 P.dead) rfl) (fun w s => a0t w _ _ _ s)) ?_
  refine tk 14 rfl ?_
  refine tkL 15 rfl (a04 (by rfl) 3 (.tmp 25) rfl W1.heap.size 3 rfl _ (fun _ s => s.2.2.cell 3 (.int .i64 P.priority) rfl) (fun w s => a0t w _ _ _ s)) ?_
  refine tk 16 rfl ?_
  refine tkL 17 rfl (a04 (by rfl) 22 (.tmp 27) rfl W1.heap.size 4 rfl _ (fun _ s => s.2.2.cell 4 (.int .u32 P.dr) rfl) (fun w s => b08 w _ _ _ s)) ?_
  refine tk 18 rfl ?_
  refine tkL 19 rfl (a04 (by rfl) 22 (.tmp 29) rfl W1.heap.size 5 rfl _ (fun _ s => s.2.2.cell 5 (.int .u32 P.bdr) rfl) (fun w s => b08 w _ _ _ s)) ?_
  refine tk 21 rfl ?_
  refine tkL 22 rfl (a04 (by rfl) 23 (.tmp 32) rfl W1.heap.size 6 rfl _ (fun _ s => s.2.2.cell 6 (.slice pn P.nbs.length cn) rfl) (fun w s => j0e w _ _ _ s)) ?_
  refine tk 25 rfl ?_
  refine tkL 26 rfl (a04 (by rfl) 3 (.tmp 36) rfl w.heap.size 11 rfl _ (fun _ s => s.2.1.cell 11 (.int .i64 P.flags) (by rw [hcs.out]; rfl)) (fun w s => a0t w _ _ _ s)) ?_
  refine tk 27 rfl ?_
  refine tkL 28 rfl (a04 (by rfl) 22 (.tmp 38) rfl w.heap.size 12 rfl _ (fun _ s => s.2.1.cell 12 (.int .u32 P.seq) (by rw [hcs.out]; rfl)) (fun w s => b08 w _ _ _ s)) ?_
  have kd : a02 (fun _ => False) W2 W2.drew := (a02.refl _ _).drew
  have hR := Hi (hR1.out.keep kd id); have hNn := Hi (hN.out.keep kd); have hKw := Hi (hk1.out.trans kd)
  have hlt : Hid (w.heap.size + 1 < W2.drew.heap.size) := Hi (by have := lt_of_block hG1.out; have h := hs0.out; have := kd.size; omega)
  clear kd
  obtain ⟨W0, hW0⟩ : ∃ W0, W0 = W2.drew := ⟨_, rfl⟩
  rw [← hW0] at hR hNn hKw hlt hHeld ⊢
  clear hW0 hA1 hR1 hk1 hN
  refine c0a 20 30 rfl rfl (by kernel_rfl) (fun K hK => ?_) (fun K hK => ?_)
  ·skip
   have hHeld0 := Hi hHeld.1
   go_simp
   have kb : a02 (fun _ => False) W0 (W0.alloc (.cells #[] 22)) := (a02.refl _ _).alloc _
   refine hK.out _ _ ⟨hHeld.1.trans kb, hHeld.2.1.keep kb id, hHeld.2.2.keep kb id⟩ (fun hHeld => ?_)
   clear hK K
   try simp only [Act.put, sA, sZ, sS]
   have hO0 : Hid (OwnN W1 (W0.alloc (.cells #[] 22)) (.slice (some ⟨W0.heap.size, 0, none⟩) 0 0) []) := Hi (OwnN.new W1 W0 hHeld0.out.size [] rfl (by unfold maxLen; omega))
   have hR := Hi (hR.out.keep kb id); have hNn := Hi (hNn.out.keep kb); have hKw := Hi (hKw.out.trans kb)
   obtain ⟨sv, hsv⟩ : ∃ sv, sv = Value.slice (some ⟨W0.heap.size, 0, none⟩) 0 0 := ⟨_, rfl⟩
   obtain ⟨W0b, hW0b⟩ : ∃ Wz, Wz = W0.alloc (.cells #[] 22) := ⟨_, rfl⟩
   rw [← hW0b] at hO0 hR hNn hKw hHeld  ⊢
   rw [← hsv] at hO0 ⊢
   clear kb hW0b hsv hHeld0
   refine c0a 23 30 rfl rfl (by kernel_rfl) (fun K hK => ?_) (fun K hK => ?_)
   ·skip
    rw [if_pos (by rfl)]
    refine d0f (.tmp 31) (.tmp 33) 23 rfl i0 Try.underlying23 hi0 hz0 hz1 hz2 W1 sv 0 [] rfl rfl hO0.out _ rfl P.nbs hNn.out (by omega) ?_
    intro pq cq W0ba hO hG2
    rw [Nat.zero_add, List.nil_append] at hO
    rw [Nat.zero_add]
    refine hK.out _ _ ⟨hHeld.1.trans' hG2.k (fun i e => .inr (hO0.out.2.1 i e)), hHeld.2.1.keep hG2.k (fun e => f0y hO0.out hHeld.2.1 (by decide) e), hHeld.2.2.keep hG2.k (fun e => f0y hO0.out hHeld.2.2 (by decide) e)⟩ (fun hHeld => ?_)
    clear hK K
    try simp only [Act.put, sA, sZ, sS]
    have hR := Hi (hR.out.keep hG2.k (fun e => f0y hO0.out hR.out (by decide) e)); have hKw := Hi (hKw.out.trans' hG2.k (fun i e => .inr (Nat.le_trans (by have := hs0.out; omega) (hO0.out.2.1 i e))))
    have hOn : Hid (OwnN w _ _ _) := Hi ⟨hO.1, fun k e => Nat.le_trans (by have := hs0.out; omega) (hO.2.1 k e), hKw.out.size⟩
    clear hO hG2 hO0 hNn
    refine tk 24 rfl ?_
    refine tk 29 rfl ?_
    refine sL 30 rfl fun K hK => ?_
    have hG9 := Hi hHeld.2.2
    go_simp
    have kz : a02 (fun _ => False) W0ba (W0ba.alloc (.cells Zp 30)) := (a02.refl _ _).alloc _
    refine hK.out _ _ ⟨hHeld.1.trans kz, hHeld.2.1.keep kz id, hHeld.2.2.keep kz id⟩ (fun hHeld => ?_)
    clear hK K
    try simp only [Act.put, sA, sZ, sS]
    have hZ : Hid (a06 (W0ba.alloc (.cells Zp 30)) W0ba.heap.size 30 Zq) := Hi (a06.new W0ba _ _)
    have hBl : Hid (w.heap.size + 1 < W0ba.heap.size ∧ W1.heap.size < W0ba.heap.size) := Hi ⟨by have := lt_of_block hR.out; omega, lt_of_block hG9.out⟩
    have hR := Hi (hR.out.keep kz id); have hKw := Hi (hKw.out.trans kz); have hOn := Hi (hOn.out.keep kz (fun _ _ f => f))
    obtain ⟨BP, hBP⟩ : ∃ B, B = W0ba.heap.size := ⟨_, rfl⟩
    obtain ⟨W0baz, hW0baz⟩ : ∃ Wz, Wz = W0ba.alloc (.cells Zp 30) := ⟨_, rfl⟩
    rw [← hW0baz] at hZ hR hKw hHeld hOn ⊢
    rw [← hBP] at hZ hBl ⊢
    clear kz hW0baz hBP hG9
    have hT := hZ.out.there 0 16 (Nat.le_refl 16)
    refine sL 31 rfl fun K hK => ?_
    rw [if_pos (by rfl)]
    (refine wp_store_mid 30 (.tmp 4) (.tmp 40) rfl BP 0 (Pa P.type P.router P.area ⟨P.auth.toArray⟩ P.mask P.interval P.dead P.priority P.dr P.bdr (.slice pq P.nbs.length cq) P.flags P.seq Sn Sn Sn) rfl rfl hT a0l (a0s _ _ _ _ _ _ _ _ _ _ _ _ _ _ _ _ (a03 _ _ _) (a03 _ _ _) (a03 _ _ _) (a03 _ _ _)) ?_)
    refine hK.out _ _ (⟨hHeld.1.trans' (a02.setCells (F := fun i => i = BP) (.inl rfl) _ _ _ (a02.refl _ _)) (fun i e => .inr (by have := hBl.out.2; omega)), hHeld.2.1.keep (a02.setCells (F := fun i => i = BP) (.inl rfl) _ _ _ (a02.refl _ _)) (fun e => by have := hBl.out.1; omega), hHeld.2.2.keep (a02.setCells (F := fun i => i = BP) (.inl rfl) _ _ _ (a02.refl _ _)) (fun e => by have := hBl.out.2; omega)⟩) (fun hHeld => ?_)
    clear hK K
    try simp only [Act.put, sA, sZ, sS]
    refine wpAnyH_done (by kernel_rfl) (NoPanic.normal ?_) _
    have hsS : a02 (fun i => i = BP) W0baz (W0baz.setCells BP 0 (Pa' P.type P.router P.area ⟨P.auth.toArray⟩ P.mask P.interval P.dead P.priority P.dr P.bdr (.slice pq P.nbs.length cq) P.flags P.seq Sn Sn Sn)) := a02.setCells (F := fun i => i = BP) (.inl rfl) _ _ _ (a02.refl _ _)
    have hfin : FrD w P cs BP 0 0 (W0baz.setCells BP 0 (Pa' P.type P.router P.area ⟨P.auth.toArray⟩ P.mask P.interval P.dead P.priority P.dr P.bdr (.slice pq P.nbs.length cq) P.flags P.seq Sn Sn Sn)) := ⟨pq, none, none, cq, 0, 0, hHeld.2.1, hR.out.keep hsS (fun e => by have := hBl.out.1; omega), hBl.out.1, hZ.out.whole (Pa' P.type P.router P.area ⟨P.auth.toArray⟩ P.mask P.interval P.dead P.priority P.dr P.bdr (.slice pq P.nbs.length cq) P.flags P.seq Sn Sn Sn) rfl, hOn.out.keep hsS (fun i e h => (OwnN.ne_blkP hOn.out hZ.out) i e h), OwnR.nil _ _ (Nat.le_trans hKw.out.size hsS.size), OwnR.nil _ _ (Nat.le_trans hKw.out.size hsS.size), hKw.out.trans' hsS (fun i e => .inr (by rw [e]; have := hBl.out.1; omega))⟩
    have hfin' := Hi hfin
    clear hHeld hT hsS hfin
    go_wp2_with fail
    first | refine h2 _ _ (Met.intro (h1 _ _ ?_)) | refine Met.intro (h1 _ _ ?_) | refine h1 _ _ ?_
    exact ⟨BP, ⟨rfl, rfl, rfl, rfl, rfl⟩, hfin'.out⟩
   ·skip
    have hG9 := Hi hHeld.2.2
    go_simp
    have kz : a02 (fun _ => False) W0b (W0b.alloc (.cells Zp 30)) := (a02.refl _ _).alloc _
    refine hK.out _ _ ⟨hHeld.1.trans kz, hHeld.2.1.keep kz id, hHeld.2.2.keep kz id⟩ (fun hHeld => ?_)
    clear hK K
    try simp only [Act.put, sA, sZ, sS]
    have hZ : Hid (a06 (W0b.alloc (.cells Zp 30)) W0b.heap.size 30 Zq) := Hi (a06.new W0b _ _)
    have hBl : Hid (w.heap.size + 1 < W0b.heap.size ∧ W1.heap.size < W0b.heap.size) := Hi ⟨by have := lt_of_block hR.out; omega, lt_of_block hG9.out⟩
    have hR := Hi (hR.out.keep kz id); have hNn := Hi (hNn.out.keep kz); have hKw := Hi (hKw.out.trans kz)
    have hO0 := Hi (hO0.out.keep kz (fun _ _ f => f))
    obtain ⟨BP, hBP⟩ : ∃ B, B = W0b.heap.size := ⟨_, rfl⟩
    obtain ⟨W0bz, hW0bz⟩ : ∃ Wz, Wz = W0b.alloc (.cells Zp 30) := ⟨_, rfl⟩
    rw [← hW0bz] at hZ hR hKw hHeld hO0 hNn ⊢
    rw [← hBP] at hZ hBl ⊢
    clear kz hW0bz hBP hG9
    refine sL 23 rfl fun K hK => ?_
    rw [if_pos (by rfl)]
    refine d0f (.tmp 31) (.tmp 33) 23 rfl i0 Try.underlying23 hi0 hz0 hz1 hz2 W1 sv 0 [] rfl rfl hO0.out _ rfl P.nbs hNn.out (by omega) ?_
    intro pq cq W0bza hO hG2
    rw [Nat.zero_add, List.nil_append] at hO
    rw [Nat.zero_add]
    refine hK.out _ _ ⟨hHeld.1.trans' hG2.k (fun i e => .inr (hO0.out.2.1 i e)), hHeld.2.1.keep hG2.k (fun e => f0y hO0.out hHeld.2.1 (by decide) e), hHeld.2.2.keep hG2.k (fun e => f0y hO0.out hHeld.2.2 (by decide) e)⟩ (fun hHeld => ?_)
    clear hK K
    try simp only [Act.put, sA, sZ, sS]
    have hR := Hi (hR.out.keep hG2.k (fun e => f0y hO0.out hR.out (by decide) e)); have hKw := Hi (hKw.out.trans' hG2.k (fun i e => .inr (Nat.le_trans (by have := hs0.out; omega) (hO0.out.2.1 i e))))
    have hZ := Hi (hZ.out.keep hG2.k (fun e => f0y hO0.out hZ.out (by decide) e))
    have hOn : Hid (OwnN w _ _ _) := Hi ⟨hO.1, fun k e => Nat.le_trans (by have := hs0.out; omega) (hO.2.1 k e), hKw.out.size⟩
    clear hO hG2 hO0 hNn
    refine tk 24 rfl ?_
    refine tk 29 rfl ?_
    have hT := hZ.out.there 0 16 (Nat.le_refl 16)
    refine sL 31 rfl fun K hK => ?_
    rw [if_pos (by rfl)]
    (refine wp_store_mid 30 (.tmp 4) (.tmp 40) rfl BP 0 (Pa P.type P.router P.area ⟨P.auth.toArray⟩ P.mask P.interval P.dead P.priority P.dr P.bdr (.slice pq P.nbs.length cq) P.flags P.seq Sn Sn Sn) rfl rfl hT a0l (a0s _ _ _ _ _ _ _ _ _ _ _ _ _ _ _ _ (a03 _ _ _) (a03 _ _ _) (a03 _ _ _) (a03 _ _ _)) ?_)
    refine hK.out _ _ (⟨hHeld.1.trans' (a02.setCells (F := fun i => i = BP) (.inl rfl) _ _ _ (a02.refl _ _)) (fun i e => .inr (by have := hBl.out.2; omega)), hHeld.2.1.keep (a02.setCells (F := fun i => i = BP) (.inl rfl) _ _ _ (a02.refl _ _)) (fun e => by have := hBl.out.1; omega), hHeld.2.2.keep (a02.setCells (F := fun i => i = BP) (.inl rfl) _ _ _ (a02.refl _ _)) (fun e => by have := hBl.out.2; omega)⟩) (fun hHeld => ?_)
    clear hK K
    try simp only [Act.put, sA, sZ, sS]
    refine wpAnyH_done (by kernel_rfl) (NoPanic.normal ?_) _
    have hsS : a02 (fun i => i = BP) W0bza (W0bza.setCells BP 0 (Pa' P.type P.router P.area ⟨P.auth.toArray⟩ P.mask P.interval P.dead P.priority P.dr P.bdr (.slice pq P.nbs.length cq) P.flags P.seq Sn Sn Sn)) := a02.setCells (F := fun i => i = BP) (.inl rfl) _ _ _ (a02.refl _ _)
    have hfin : FrD w P cs BP 0 0 (W0bza.setCells BP 0 (Pa' P.type P.router P.area ⟨P.auth.toArray⟩ P.mask P.interval P.dead P.priority P.dr P.bdr (.slice pq P.nbs.length cq) P.flags P.seq Sn Sn Sn)) := ⟨pq, none, none, cq, 0, 0, hHeld.2.1, hR.out.keep hsS (fun e => by have := hBl.out.1; omega), hBl.out.1, hZ.out.whole (Pa' P.type P.router P.area ⟨P.auth.toArray⟩ P.mask P.interval P.dead P.priority P.dr P.bdr (.slice pq P.nbs.length cq) P.flags P.seq Sn Sn Sn) rfl, hOn.out.keep hsS (fun i e h => (OwnN.ne_blkP hOn.out hZ.out) i e h), OwnR.nil _ _ (Nat.le_trans hKw.out.size hsS.size), OwnR.nil _ _ (Nat.le_trans hKw.out.size hsS.size), hKw.out.trans' hsS (fun i e => .inr (by rw [e]; have := hBl.out.1; omega))⟩
    have hfin' := Hi hfin
    clear hHeld hT hsS hfin
    go_wp2_with fail
    first | refine h2 _ _ (Met.intro (h1 _ _ ?_)) | refine Met.intro (h1 _ _ ?_) | refine h1 _ _ ?_
    exact ⟨BP, ⟨rfl, rfl, rfl, rfl, rfl⟩, hfin'.out⟩
  ·skip
   have hG9 := Hi hHeld.2.2
   go_simp
   have kz : a02 (fun _ => False) W0 (W0.alloc (.cells Zp 30)) := (a02.refl _ _).alloc _
   refine hK.out _ _ ⟨hHeld.1.trans kz, hHeld.2.1.keep kz id, hHeld.2.2.keep kz id⟩ (fun hHeld => ?_)
   clear hK K
   try simp only [Act.put, sA, sZ, sS]
   have hZ : Hid (a06 (W0.alloc (.cells Zp 30)) W0.heap.size 30 Zq) := Hi (a06.new W0 _ _)
   have hBl : Hid (w.heap.size + 1 < W0.heap.size ∧ W1.heap.size < W0.heap.size) := Hi ⟨by have := lt_of_block hR.out; omega, lt_of_block hG9.out⟩
   have hR := Hi (hR.out.keep kz id); have hNn := Hi (hNn.out.keep kz); have hKw := Hi (hKw.out.trans kz)
   obtain ⟨BP, hBP⟩ : ∃ B, B = W0.heap.size := ⟨_, rfl⟩
   obtain ⟨W0z, hW0z⟩ : ∃ Wz, Wz = W0.alloc (.cells Zp 30) := ⟨_, rfl⟩
   rw [← hW0z] at hZ hR hKw hHeld hNn ⊢
   rw [← hBP] at hZ hBl ⊢
   clear kz hW0z hBP hG9
   refine sL 20 rfl fun K hK => ?_
   have hHeld0 := Hi hHeld.1
   go_simp
   have kb : a02 (fun _ => False) W0z (W0z.alloc (.cells #[] 22)) := (a02.refl _ _).alloc _
   refine hK.out _ _ ⟨hHeld.1.trans kb, hHeld.2.1.keep kb id, hHeld.2.2.keep kb id⟩ (fun hHeld => ?_)
   clear hK K
   try simp only [Act.put, sA, sZ, sS]
   have hO0 : Hid (OwnN W1 (W0z.alloc (.cells #[] 22)) (.slice (some ⟨W0z.heap.size, 0, none⟩) 0 0) []) := Hi (OwnN.new W1 W0z hHeld0.out.size [] rfl (by unfold maxLen; omega))
   have hR := Hi (hR.out.keep kb id); have hNn := Hi (hNn.out.keep kb); have hKw := Hi (hKw.out.trans kb)
   have hZ := Hi (hZ.out.keep kb id)
   obtain ⟨sv, hsv⟩ : ∃ sv, sv = Value.slice (some ⟨W0z.heap.size, 0, none⟩) 0 0 := ⟨_, rfl⟩
   obtain ⟨W0zb, hW0zb⟩ : ∃ Wz, Wz = W0z.alloc (.cells #[] 22) := ⟨_, rfl⟩
   rw [← hW0zb] at hO0 hR hNn hKw hHeld hZ ⊢
   rw [← hsv] at hO0 ⊢
   clear kb hW0zb hsv hHeld0
   refine sL 23 rfl fun K hK => ?_
   rw [if_pos (by rfl)]
   refine d0f (.tmp 31) (.tmp 33) 23 rfl i0 Try.underlying23 hi0 hz0 hz1 hz2 W1 sv 0 [] rfl rfl hO0.out _ rfl P.nbs hNn.out (by omega) ?_
   intro pq cq W0zba hO hG2
   rw [Nat.zero_add, List.nil_append] at hO
   rw [Nat.zero_add]
   refine hK.out _ _ ⟨hHeld.1.trans' hG2.k (fun i e => .inr (hO0.out.2.1 i e)), hHeld.2.1.keep hG2.k (fun e => f0y hO0.out hHeld.2.1 (by decide) e), hHeld.2.2.keep hG2.k (fun e => f0y hO0.out hHeld.2.2 (by decide) e)⟩ (fun hHeld => ?_)
   clear hK K
   try simp only [Act.put, sA, sZ, sS]
   have hR := Hi (hR.out.keep hG2.k (fun e => f0y hO0.out hR.out (by decide) e)); have hKw := Hi (hKw.out.trans' hG2.k (fun i e => .inr (Nat.le_trans (by have := hs0.out; omega) (hO0.out.2.1 i e))))
   have hZ := Hi (hZ.out.keep hG2.k (fun e => f0y hO0.out hZ.out (by decide) e))
   have hOn : Hid (OwnN w _ _ _) := Hi ⟨hO.1, fun k e => Nat.le_trans (by have := hs0.out; omega) (hO.2.1 k e), hKw.out.size⟩
   clear hO hG2 hO0 hNn
   refine tk 24 rfl ?_
   refine tk 29 rfl ?_
   have hT := hZ.out.there 0 16 (Nat.le_refl 16)
   refine sL 31 rfl fun K hK => ?_
   rw [if_pos (by rfl)]
   (refine wp_store_mid 30 (.tmp 4) (.tmp 40) rfl BP 0 (Pa P.type P.router P.area ⟨P.auth.toArray⟩ P.mask P.interval P.dead P.priority P.dr P.bdr (.slice pq P.nbs.length cq) P.flags P.seq Sn Sn Sn) rfl rfl hT a0l (a0s _ _ _ _ _ _ _ _ _ _ _ _ _ _ _ _ (a03 _ _ _) (a03 _ _ _) (a03 _ _ _) (a03 _ _ _)) ?_)
   refine hK.out _ _ (⟨hHeld.1.trans' (a02.setCells (F := fun i => i = BP) (.inl rfl) _ _ _ (a02.refl _ _)) (fun i e => .inr (by have := hBl.out.2; omega)), hHeld.2.1.keep (a02.setCells (F := fun i => i = BP) (.inl rfl) _ _ _ (a02.refl _ _)) (fun e => by have := hBl.out.1; omega), hHeld.2.2.keep (a02.setCells (F := fun i => i = BP) (.inl rfl) _ _ _ (a02.refl _ _)) (fun e => by have := hBl.out.2; omega)⟩) (fun hHeld => ?_)
   clear hK K
   try simp only [Act.put, sA, sZ, sS]
   refine wpAnyH_done (by kernel_rfl) (NoPanic.normal ?_) _
   have hsS : a02 (fun i => i = BP) W0zba (W0zba.setCells BP 0 (Pa' P.type P.router P.area ⟨P.auth.toArray⟩ P.mask P.interval P.dead P.priority P.dr P.bdr (.slice pq P.nbs.length cq) P.flags P.seq Sn Sn Sn)) := a02.setCells (F := fun i => i = BP) (.inl rfl) _ _ _ (a02.refl _ _)
   have hfin : FrD w P cs BP 0 0 (W0zba.setCells BP 0 (Pa' P.type P.router P.area ⟨P.auth.toArray⟩ P.mask P.interval P.dead P.priority P.dr P.bdr (.slice pq P.nbs.length cq) P.flags P.seq Sn Sn Sn)) := ⟨pq, none, none, cq, 0, 0, hHeld.2.1, hR.out.keep hsS (fun e => by have := hBl.out.1; omega), hBl.out.1, hZ.out.whole (Pa' P.type P.router P.area ⟨P.auth.toArray⟩ P.mask P.interval P.dead P.priority P.dr P.bdr (.slice pq P.nbs.length cq) P.flags P.seq Sn Sn Sn) rfl, hOn.out.keep hsS (fun i e h => (OwnN.ne_blkP hOn.out hZ.out) i e h), OwnR.nil _ _ (Nat.le_trans hKw.out.size hsS.size), OwnR.nil _ _ (Nat.le_trans hKw.out.size hsS.size), hKw.out.trans' hsS (fun i e => .inr (by rw [e]; have := hBl.out.1; omega))⟩
   have hfin' := Hi hfin
   clear hHeld hT hsS hfin
   go_wp2_with fail
   first | refine h2 _ _ (Met.intro (h1 _ _ ?_)) | refine Met.intro (h1 _ _ ?_) | refine h1 _ _ ?_
   exact ⟨BP, ⟨rfl, rfl, rfl, rfl, rfl⟩, hfin'.out⟩
end Go.Proofs.Ytmggbljkehclpaa
