/- QTl QTz -/
import Derived.Test.YtmggbljkehclpaaP44
set_option linter.unusedVariables false
set_option linter.unusedSimpArgs false
namespace Go.Proofs.Ytmggbljkehclpaa
open Go.RowKit
def ToE (w : World) (P : a0m) (BP : Nat) (wx : World) : Prop := a06 wx (w.heap.size + 1) 40 Zq ∧ w.heap.size + 1 < BP ∧ a03 (fun _ => False) w wx ∧ ∃ cs2, cs2.length = 16 ∧ a06 wx BP 40 cs2 ∧ j0l w.heap.size wx (.agg cs2.toArray) P (w.heap.size + 1)
set_option maxRecDepth 100000 in
set_option maxHeartbeats 32000000 in
theorem to_l (P : a0m) (pn ph pk pl : Option Addr) (cn ch ck cl : Nat) (cs : List Value) (w : World) (hcs : Hid (cs = a0w P (.slice pn P.nbs.length cn) (.slice ph P.heads.length ch) (.slice pk P.keys.length ck) (.slice pl P.lsas.length cl)))
 (hin : Hid (d0f w P (.slice pn P.nbs.length cn) (.slice ph P.heads.length ch) (.slice pk P.keys.length ck) (.slice pl P.lsas.length cl)))
 (BP nh nk : Nat) (hnh : P.heads.length = nh) (hnk : P.keys.length = nk) (w1 : World) (T : Array Value) (hA : ToA w BP ⟨T, []⟩) (hD : Hid (ToD w P cs BP nh nk w1)) (hhl : P.lsas.length * 96 ≤ 140737488351232) (hls : Hid (∀ l ∈ P.lsas, l.links.length * 24 ≤ 140737488351232 ∧ l.routers.length * 4 ≤ 140737488351232)) (Q : Exit → Act → World → Prop) (hJ : ∀ a' w', ToA w BP a' → ToE w P BP w' → Q .normal a' w') :
 Code.wp Try.prog toL Q ⟨T, []⟩ w1 := by
 obtain ⟨-, hT, e1, e2, e4⟩ := hA
 change gd T 1 = _ at e1; change gd T 2 = _ at e2; change gd T 4 = _ at e4; change T.size = 108 at hT
 rw [h0d hT]
 rw [e1, e2, e4]
 conv => arg 2; whnf
 clear hT e1 e2 e4
 obtain ⟨il, hil, hlz, hlsz, hlby⟩ := info_parts l09
 obtain ⟨n, hn⟩ : ∃ n, P.lsas.length = n := ⟨_, rfl⟩
 have hn' := Hi hn; have hnh' := Hi hnh; have hnk' := Hi hnk
 obtain ⟨ms0, hms0, hsrc0, hlin0⟩ : ∃ ms : List LsaM, ms.map (·.d) = P.lsas ∧ a0s 9 d0t w (.slice pl n cl) ms ∧ ∀ m ∈ ms, f0j w m := by rw [← hn]; exact hin.out.l
 have hml0 : ms0.length = n := by rw [← hn, ← hms0, List.length_map]
 have hms' := Hi hms0; have hsrc := Hi hsrc0; have hlin := Hi hlin0; have hml' := Hi hml0
 have hc15 : Hid (cs[15]? = some (.slice pl n cl)) := Hi (by rw [hcs.out, ← hn]; rfl)
 rw [hn] at hhl
 obtain ⟨qn, qh, qk, dn, dh, dk, h1, h2, h3, h4, h5, h6, h7, h8⟩ := hD.out
 have g3 := Hi h3
 have hBW : Hid (BP < w1.heap.size) := Hi (lt_of_block h4)
 have hD0 : Hid (∃ ql dl ms, ms.length = 0 ∧ a06 w1 w.heap.size 30 cs ∧ a06 w1 (w.heap.size + 1) 40 Zq ∧ a06 w1 BP 40 (a0w P (.slice qn P.nbs.length dn) (.slice qh nh dh) (.slice qk nk dk) (.slice ql 0 dl)) ∧ OwnN w w1 (.slice qn P.nbs.length dn) P.nbs ∧ OwnR 69 7 b0d w w1 (.slice qh nh dh) (P.heads.take nh) ∧ OwnR 67 3 b0m w w1 (.slice qk nk dk) (P.keys.take nk) ∧ InvL w1 w1 (.slice ql 0 dl) ms ∧ ms.map (·.d) = P.lsas.take 0 ∧ a03 (fun _ => False) w w1) := Hi ⟨none, 0, [], rfl, h1, h2, h4, h5, h6, h7, InvL.nil _ _ (Nat.le_refl _), rfl, h8⟩
 clear hD hn hnh hnk h1 h2 h3 h4 h5 h6 h7 h8 hms0 hsrc0 hlin0 hml0
 go_wp2_with fail
 go_loopw [7] (fun iv wr => ∃ (k : Nat), k ≤ n ∧ iv = .int .i64 k ∧ Hid (∃ ql dl ms, ms.length = k ∧ a06 wr w.heap.size 30 cs ∧ a06 wr (w.heap.size + 1) 40 Zq ∧ a06 wr BP 40 (a0w P (.slice qn P.nbs.length dn) (.slice qh nh dh) (.slice qk nk dk) (.slice ql k dl)) ∧ OwnN w wr (.slice qn P.nbs.length dn) P.nbs ∧ OwnR 69 7 b0d w wr (.slice qh nh dh) (P.heads.take nh) ∧ OwnR 67 3 b0m w wr (.slice qk nk dk) (P.keys.take nk) ∧ InvL w1 wr (.slice ql k dl) ms ∧ ms.map (·.d) = P.lsas.take k ∧ a03 (fun _ => False) w wr)) (fun iv _ => n - (intOf iv).toNat)
 case atStart => exact ⟨0, Nat.zero_le _, rfl, hD0⟩
 case round =>
  obtain ⟨k, hk, rfl, hrest⟩ := hrel
  obtain ⟨q, d, ms, hml, h1, h2, h4, h5, h6, h7, h9, hmd, h8⟩ := hrest.out
  have hb := h1.cell 15 _ hc15.out
  have g1 := Hi h1; have g2 := Hi h2; have g4 := Hi h4; have g5 := Hi h5; have g6 := Hi h6; have g7 := Hi h7; have g8 := Hi h8; have g9 := Hi h9; have gml := Hi hml; have gmd := Hi hmd
  clear h1 h2 h4 h5 h6 h7 h8 h9 hrest hml hmd
  by_cases hkn : k < n
  ·have hkni : (k : Int) < n := by omega
   obtain ⟨g, o, hpe, hrows⟩ := a0s.open hsrc.out (by rw [hml'.out]; omega)
   subst hpe
   obtain ⟨hd, hhd⟩ : ∃ l, ms0[k]? = some l := ⟨_, List.getElem?_eq_getElem (by rw [hml'.out]; exact hkn)⟩
   have hmem : hd ∈ ms0 := List.mem_of_getElem? hhd
   have hdl : P.lsas[k]? = some hd.d := by rw [← hms'.out, List.getElem?_map, hhd]; rfl
   have htk : Hid (P.lsas.take (k + 1) = P.lsas.take k ++ [hd.d]) := Hi (by
    obtain ⟨hk2, e⟩ := List.getElem?_eq_some_iff.1 hdl
    rw [List.take_succ_eq_append_getElem hk2, e])
   have hbd := hls.out hd.d (List.mem_of_getElem? hdl)
   have hIn := Hi (hlin.out hd hmem)
   obtain ⟨mm, p5, c5, p7, c7⟩ := hd
   have hrow : Hid (w.rangeAt g (o + k * 9) (La' mm.age mm.type mm.id mm.adv mm.seq (.slice p5 mm.links.length c5) mm.mask (.slice p7 mm.routers.length c7) mm.cost)) := Hi (hrows k _ hhd)
   have hb1 : mm.links.length * 24 ≤ 140737488351232 := by have := hbd.1; dsimp only at this; omega
   have hb2 : mm.routers.length * 4 ≤ 140737488351232 := by have := hbd.2; dsimp only at this; omega
   clear hhd hrows hmem hdl hbd
   have kd : a03 (fun _ => False) wr wr.drew := (a03.refl _ _).drew
   have f1 := Hi (g1.out.keep kd id); have f2 := Hi (g2.out.keep kd id); have hBk := Hi (g4.out.keep kd id); have f5 := Hi (g5.out.keep kd (fun _ _ f => f)); have f6 := Hi (g6.out.keep kd (fun _ _ f => f)); have f7 := Hi (g7.out.keep kd (fun _ _ f => f)); have hInv := Hi (g9.out.keep kd); have hKw := Hi (g8.out.trans kd)
   clear kd
   go_upto_region 14 with fail
   refine wp_region_noPanic ?_
   refine wp_region_held_drew (S := (fun W => a03 (fun _ => False) w W ∧ a06 W w.heap.size 30 cs)) (by kernel_rfl) (⟨hKw.out, f1.out⟩) (fun hHeld => ?_)
   refine tk 0 rfl ?_
   refine tk 2 rfl ?_
   refine tkL 3 rfl (a02 (by rfl) 28 (.tmp 98) rfl w.heap.size 15 rfl _ (fun _ s => s.2.cell 15 _ hc15.out) (fun w s => e0m w _ _ _ s)) ?_
   refine tk 4 rfl ?_
   refine tk 5 rfl ?_
   refine tkL 6 rfl (yieldsIf_load_mid (by rfl) 80 (.tmp 101) rfl g (o + k * 9) rfl (La' mm.age mm.type mm.id mm.adv mm.seq (.slice p5 mm.links.length c5) mm.mask (.slice p7 mm.routers.length c7) mm.cost) _ (fun _ s => s.1.rangeAt hrow.out id) Try.underlying80 rfl a0t) ?_
   obtain ⟨W0, hW0⟩ : ∃ W0, W0 = wr.drew := ⟨_, rfl⟩
   rw [← hW0] at f1 f2 hBk f5 f6 f7 hInv hKw hHeld ⊢
   clear hW0 hb g1 g2 g4 g5 g6 g7 g8 g9 hrow
   refine c06 1 7 rfl rfl (by kernel_rfl) (fun K hK => ?_) (fun K hK => ?_)
   focus
    have hcF := hBk.out.cell 15 (.slice q k d) rfl
    go_simp
    refine hK.out _ _ hHeld (fun hHeld => ?_)
    clear hK K hcF
    try simp only [Act.put, sA, sZ, sS]
    refine sL 7 rfl fun K hK => ?_
    go_simp
    refine (lwTo_f mm.age mm.type mm.seq mm.cost mm.id mm.adv mm.mask mm.links mm.routers p5 p7 c5 c7 _ (Hi (hIn.out.1.keep hHeld.1)) (Hi (hIn.out.2.keep hHeld.1)) hb1 hb2).mono ?_
    rintro e W0h ⟨⟨q5, d5, q7, d7, rfl, r1, r2, r3, r4⟩, kh⟩
    go_wp2_with fail
    refine hK.out _ _ ⟨hHeld.1.trans kh, hHeld.2.keep kh id⟩ (fun hHeld => ?_)
    clear hK K
    try simp only [Act.put, sA, sZ, sS]
    have hq5 : Hid (f0j W0h ⟨mm, q5, d5, q7, d7⟩) := Hi ⟨r1, r2⟩
    have hfrm : Hid (f0v w1.heap.size ⟨mm, q5, d5, q7, d7⟩) := Hi ⟨fun i n c e => Nat.le_trans hInv.out.own.2.2 (r3 i n c e), fun i n c e => Nat.le_trans hInv.out.own.2.2 (r4 i n c e)⟩
    have hsep : Hid (SepM (.slice q k d) ⟨mm, q5, d5, q7, d7⟩) := Hi (SepM.new (w0 := w) (fun k e => hInv.out.own.own_lt k e) ⟨r3, r4⟩ rfl)
    have f1 := Hi (f1.out.keep kh id); have f2 := Hi (f2.out.keep kh id); have hBk := Hi (hBk.out.keep kh id); have f5 := Hi (f5.out.keep kh (fun _ _ f => f)); have f6 := Hi (f6.out.keep kh (fun _ _ f => f)); have f7 := Hi (f7.out.keep kh (fun _ _ f => f)); have hInv := Hi (hInv.out.keep kh); have hKw := Hi (hKw.out.trans kh)
    clear kh r1 r2 r3 r4
    obtain ⟨W0, hWh⟩ : ∃ Wz, Wz = W0h := ⟨_, rfl⟩
    subst hWh
    refine sL 8 rfl fun K hK => ?_
    rw [if_pos (by rfl)]
    refine h0q 38 76 (.tmp 103) rfl _ rfl _ (fun W => h0r W _ _ _ _ _ _ _ _ _ _ _ _ _) ?_
    refine hK.out _ _ ⟨hHeld.1.alloc _, hHeld.2.alloc _⟩ (fun hHeld => ?_)
    clear hK K
    try simp only [Act.put, sA, sZ, sS]
    have hka : a03 (fun _ => False) W0 (W0.alloc (.cells (La mm.age mm.type mm.id mm.adv mm.seq (.slice q5 mm.links.length d5) mm.mask (.slice q7 mm.routers.length d7) mm.cost) 76)) := (a03.refl _ _).alloc _
    have hnr : Hid ((W0.alloc (.cells (La mm.age mm.type mm.id mm.adv mm.seq (.slice q5 mm.links.length d5) mm.mask (.slice q7 mm.routers.length d7) mm.cost) 76)).rangeAt W0.heap.size 0 (La' mm.age mm.type mm.id mm.adv mm.seq (.slice q5 mm.links.length d5) mm.mask (.slice q7 mm.routers.length d7) mm.cost)) := Hi (a0i W0 _ 76)
    have f1 := Hi (f1.out.keep hka id); have f2 := Hi (f2.out.keep hka id); have hBk := Hi (hBk.out.keep hka id); have f5 := Hi (f5.out.keep hka (fun _ _ f => f)); have f6 := Hi (f6.out.keep hka (fun _ _ f => f)); have f7 := Hi (f7.out.keep hka (fun _ _ f => f)); have hInv := Hi (hInv.out.keep hka); have hKw := Hi (hKw.out.trans hka)
    have hq5 := Hi (hq5.out.keep hka)
    obtain ⟨nb, hnb⟩ : ∃ nb, nb = W0.heap.size := ⟨_, rfl⟩
    obtain ⟨W0, hWs⟩ : ∃ Wz, Wz = W0.alloc (.cells (La mm.age mm.type mm.id mm.adv mm.seq (.slice q5 mm.links.length d5) mm.mask (.slice q7 mm.routers.length d7) mm.cost) 76) := ⟨_, rfl⟩
    rw [← hWs] at f1 f2 hBk f5 f6 f7 hInv hKw hq5 hnr hHeld ⊢
    rw [← hnb] at hnr ⊢
    clear hka hnb hWs
    refine sL 9 rfl fun K hK => ?_
   rotate_left 1
   focus
    go_simp
    refine (lwTo_f mm.age mm.type mm.seq mm.cost mm.id mm.adv mm.mask mm.links mm.routers p5 p7 c5 c7 _ (Hi (hIn.out.1.keep hHeld.1)) (Hi (hIn.out.2.keep hHeld.1)) hb1 hb2).mono ?_
    rintro e W0h ⟨⟨q5, d5, q7, d7, rfl, r1, r2, r3, r4⟩, kh⟩
    go_wp2_with fail
    refine hK.out _ _ ⟨hHeld.1.trans kh, hHeld.2.keep kh id⟩ (fun hHeld => ?_)
    clear hK K
    try simp only [Act.put, sA, sZ, sS]
    have hq5 : Hid (f0j W0h ⟨mm, q5, d5, q7, d7⟩) := Hi ⟨r1, r2⟩
    have hfrm : Hid (f0v w1.heap.size ⟨mm, q5, d5, q7, d7⟩) := Hi ⟨fun i n c e => Nat.le_trans hInv.out.own.2.2 (r3 i n c e), fun i n c e => Nat.le_trans hInv.out.own.2.2 (r4 i n c e)⟩
    have hsep : Hid (SepM (.slice q k d) ⟨mm, q5, d5, q7, d7⟩) := Hi (SepM.new (w0 := w) (fun k e => hInv.out.own.own_lt k e) ⟨r3, r4⟩ rfl)
    have f1 := Hi (f1.out.keep kh id); have f2 := Hi (f2.out.keep kh id); have hBk := Hi (hBk.out.keep kh id); have f5 := Hi (f5.out.keep kh (fun _ _ f => f)); have f6 := Hi (f6.out.keep kh (fun _ _ f => f)); have f7 := Hi (f7.out.keep kh (fun _ _ f => f)); have hInv := Hi (hInv.out.keep kh); have hKw := Hi (hKw.out.trans kh)
    clear kh r1 r2 r3 r4
    obtain ⟨W0, hWh⟩ : ∃ Wz, Wz = W0h := ⟨_, rfl⟩
    subst hWh
    refine c06 1 8 rfl rfl (by kernel_rfl) (fun K hK => ?_) (fun K hK => ?_)
    focus
     have hcF := hBk.out.cell 15 (.slice q k d) rfl
     go_simp
     refine hK.out _ _ hHeld (fun hHeld => ?_)
     clear hK K hcF
     try simp only [Act.put, sA, sZ, sS]
     refine sL 8 rfl fun K hK => ?_
     rw [if_pos (by rfl)]
     refine h0q 38 76 (.tmp 103) rfl _ rfl _ (fun W => h0r W _ _ _ _ _ _ _ _ _ _ _ _ _) ?_
     refine hK.out _ _ ⟨hHeld.1.alloc _, hHeld.2.alloc _⟩ (fun hHeld => ?_)
     clear hK K
     try simp only [Act.put, sA, sZ, sS]
     have hka : a03 (fun _ => False) W0 (W0.alloc (.cells (La mm.age mm.type mm.id mm.adv mm.seq (.slice q5 mm.links.length d5) mm.mask (.slice q7 mm.routers.length d7) mm.cost) 76)) := (a03.refl _ _).alloc _
     have hnr : Hid ((W0.alloc (.cells (La mm.age mm.type mm.id mm.adv mm.seq (.slice q5 mm.links.length d5) mm.mask (.slice q7 mm.routers.length d7) mm.cost) 76)).rangeAt W0.heap.size 0 (La' mm.age mm.type mm.id mm.adv mm.seq (.slice q5 mm.links.length d5) mm.mask (.slice q7 mm.routers.length d7) mm.cost)) := Hi (a0i W0 _ 76)
     have f1 := Hi (f1.out.keep hka id); have f2 := Hi (f2.out.keep hka id); have hBk := Hi (hBk.out.keep hka id); have f5 := Hi (f5.out.keep hka (fun _ _ f => f)); have f6 := Hi (f6.out.keep hka (fun _ _ f => f)); have f7 := Hi (f7.out.keep hka (fun _ _ f => f)); have hInv := Hi (hInv.out.keep hka); have hKw := Hi (hKw.out.trans hka)
     have hq5 := Hi (hq5.out.keep hka)
     obtain ⟨nb, hnb⟩ : ∃ nb, nb = W0.heap.size := ⟨_, rfl⟩
     obtain ⟨W0, hWs⟩ : ∃ Wz, Wz = W0.alloc (.cells (La mm.age mm.type mm.id mm.adv mm.seq (.slice q5 mm.links.length d5) mm.mask (.slice q7 mm.routers.length d7) mm.cost) 76) := ⟨_, rfl⟩
     rw [← hWs] at f1 f2 hBk f5 f6 f7 hInv hKw hq5 hnr hHeld ⊢
     rw [← hnb] at hnr ⊢
     clear hka hnb hWs
     refine sL 9 rfl fun K hK => ?_
    rotate_left 1
    focus
     rw [if_pos (by rfl)]
     refine h0q 38 76 (.tmp 103) rfl _ rfl _ (fun W => h0r W _ _ _ _ _ _ _ _ _ _ _ _ _) ?_
     refine hK.out _ _ ⟨hHeld.1.alloc _, hHeld.2.alloc _⟩ (fun hHeld => ?_)
     clear hK K
     try simp only [Act.put, sA, sZ, sS]
     have hka : a03 (fun _ => False) W0 (W0.alloc (.cells (La mm.age mm.type mm.id mm.adv mm.seq (.slice q5 mm.links.length d5) mm.mask (.slice q7 mm.routers.length d7) mm.cost) 76)) := (a03.refl _ _).alloc _
     have hnr : Hid ((W0.alloc (.cells (La mm.age mm.type mm.id mm.adv mm.seq (.slice q5 mm.links.length d5) mm.mask (.slice q7 mm.routers.length d7) mm.cost) 76)).rangeAt W0.heap.size 0 (La' mm.age mm.type mm.id mm.adv mm.seq (.slice q5 mm.links.length d5) mm.mask (.slice q7 mm.routers.length d7) mm.cost)) := Hi (a0i W0 _ 76)
     have f1 := Hi (f1.out.keep hka id); have f2 := Hi (f2.out.keep hka id); have hBk := Hi (hBk.out.keep hka id); have f5 := Hi (f5.out.keep hka (fun _ _ f => f)); have f6 := Hi (f6.out.keep hka (fun _ _ f => f)); have f7 := Hi (f7.out.keep hka (fun _ _ f => f)); have hInv := Hi (hInv.out.keep hka); have hKw := Hi (hKw.out.trans hka)
     have hq5 := Hi (hq5.out.keep hka)
     obtain ⟨nb, hnb⟩ : ∃ nb, nb = W0.heap.size := ⟨_, rfl⟩
     obtain ⟨W0, hWs⟩ : ∃ Wz, Wz = W0.alloc (.cells (La mm.age mm.type mm.id mm.adv mm.seq (.slice q5 mm.links.length d5) mm.mask (.slice q7 mm.routers.length d7) mm.cost) 76) := ⟨_, rfl⟩
     rw [← hWs] at f1 f2 hBk f5 f6 f7 hInv hKw hq5 hnr hHeld ⊢
     rw [← hnb] at hnr ⊢
     clear hka hnb hWs
     refine sL 1 rfl fun K hK => ?_
     have hcF := hBk.out.cell 15 (.slice q k d) rfl
     go_simp
     refine hK.out _ _ hHeld (fun hHeld => ?_)
     clear hK K hcF
     try simp only [Act.put, sA, sZ, sS]
     refine sL 9 rfl fun K hK => ?_
   all_goals
    rw [if_pos (by rfl)]
    refine g09 (.tmp 97) (.tmp 104) 38 76 rfl il (.agg Zl) 96 Try.underlying38 hil hlz hlsz hlby rfl (by decide) (by decide) c0r w1 _ k ms gml.out rfl hInv.out.own ⟨nb, 0, none⟩ rfl ⟨mm, q5, d5, q7, d7⟩ (fun j u hu => by rw [Addr.add_mid]; exact hnr.out j u hu) (h07 _) (by omega) ?_
    intro q2 d2 w' hO2 hG2
    have hlw1 : Hid (w.heap.size ≤ w1.heap.size) := Hi (by have := hBW.out; have := g3.out; omega)
    refine hK.out _ _ ⟨hHeld.1.trans' hG2.k (fun i e => .inr (Nat.le_trans hlw1.out (hInv.out.own.2.1 i e))), hHeld.2.keep hG2.k (fun e => hInv.out.own.ne_blk f1.out (by decide) _ e rfl)⟩ (fun hHeld => ?_)
    clear hK K
    try simp only [Act.put, sA, sZ, sS]
    have e1 := Hi (f1.out.keep hG2.k (fun e => hInv.out.own.ne_blk f1.out (by decide) _ e rfl)); have e2 := Hi (f2.out.keep hG2.k (fun e => hInv.out.own.ne_blk f2.out (by decide) _ e rfl)); have e4 := Hi (hBk.out.keep hG2.k (fun e => hInv.out.own.ne_blk hBk.out (by decide) BP e rfl)); have e5 := Hi (f5.out.keep hG2.k (fun i e h => e0a f5.out hInv.out.own (by decide) i e h)); have e6 := Hi (f6.out.keep hG2.k (fun i e h => e0j f6.out hInv.out.own (by decide) i e h)); have e7 := Hi (f7.out.keep hG2.k (fun i e h => e0j f7.out hInv.out.own (by decide) i e h)); have e8 := Hi (hKw.out.trans' hG2.k (fun i e => .inr (Nat.le_trans hlw1.out (hInv.out.own.2.1 i e))))
    have hcF := e4.out.cell 15 (.slice q k d) rfl
    have hfF := e4.out.frozen 15
    have hsF : a03 (fun i => i = BP) w' (w'.setCell ⟨BP, 15, none⟩ (.slice q2 (k + 1) d2)) := (a03.refl (fun i => i = BP) w').setCell (p := ⟨BP, 15, none⟩) (.inl rfl) _
    have hI8 := Hi (hInv.out.push _ hO2 hG2 hq5.out hfrm.out hsep.out)
    have hI9 := Hi (hI8.out.keepB hsF hBW.out (hI8.out.own.ne_blk e4.out (by decide)))
    clear hO2 hG2 hInv f1 f2 hBk f5 f6 f7 hKw hI8
    refine tk 10 rfl ?_
    refine sL 11 rfl fun K hK => ?_
    go_simp
    refine hK.out _ _ (⟨hHeld.1.trans' hsF (fun i e => .inr (by rw [e]; exact Nat.le_of_lt (by have := g3.out; omega))), hHeld.2.keep hsF (fun e => by have := g3.out; omega)⟩) (fun hHeld => ?_)
    clear hK K
    try simp only [Act.put, sA, sZ, sS]
    refine wpAnyH_done (by kernel_rfl) (NoPanic.normal ?_) _
    clear hcF hfF
    go_wp2_with fail
    refine ⟨⟨k + 1, by omega, by go_num, Hi ⟨q2, d2, ms ++ [⟨mm, q5, d5, q7, d7⟩], by rw [List.length_append, gml.out]; rfl, ?_, ?_, e4.out.put 15 _, ?_, ?_, ?_, hI9.out, by rw [List.map_append, gmd.out, htk.out]; rfl, ?_⟩⟩, by simp [intOf]; omega⟩
    ·exact e1.out.keep hsF (fun e => by have := g3.out; omega)
    ·exact e2.out.keep hsF (fun e => by have := g3.out; omega)
    ·exact e5.out.keep hsF (fun i e h => (OwnN.ne_blkT e5.out e4.out) i e h)
    ·exact e6.out.keep hsF (fun i e h => e6.out.ne_blk e4.out (by decide) i e h)
    ·exact e7.out.keep hsF (fun i e h => e7.out.ne_blk e4.out (by decide) i e h)
    ·exact e8.out.trans' hsF (fun i e => .inr (by rw [e]; exact Nat.le_of_lt (by have := g3.out; omega)))
  ·obtain rfl : k = n := by omega
   have hkni : ¬ (k : Int) < k := by omega
   go_wp2_with fail
   first | refine hJ _ _ ?_ ?_ | skip
   ·exact ⟨rfl, rfl, rfl, rfl, rfl⟩
   ·refine ⟨g2.out, g3.out, g8.out, _, rfl, g4.out, ?_⟩
    have th : P.heads.take nh = P.heads := List.take_of_length_le (by rw [hnh'.out]; exact Nat.le_refl _)
    have tk : P.keys.take nk = P.keys := List.take_of_length_le (by rw [hnk'.out]; exact Nat.le_refl _)
    have tl : P.lsas.take k = P.lsas := List.take_of_length_le (by rw [hn'.out]; exact Nat.le_refl _)
    have h6 := g6.out; have h7 := g7.out; have hmd := gmd.out
    rw [th] at h6; rw [tk] at h7; rw [tl] at hmd
    have hbw := hBW.out; have hg3 := g3.out
    obtain rfl := hnh'.out
    obtain rfl := hnk'.out
    obtain rfl := hn'.out
    have hrow := g9.out.own.at c0r
    refine ⟨qn, dn, qh, dh, qk, dk, q, d, rfl, g5.out.at, h6.at b0r, h7.at c0f, ⟨ms, hmd, hrow, g9.out.in_, fun m hm => ⟨fun i n c e => Nat.le_trans (by omega) ((g9.out.fr m hm).1 i n c e), fun i n c e => Nat.le_trans (by omega) ((g9.out.fr m hm).2 i n c e)⟩, fun i e => Nat.le_trans (by omega) (g9.out.own.2.1 i e), fun m hm => ⟨fun _ i n c e => by have := (g9.out.fr m hm).1 i n c e; omega, fun _ i n c e => by have := (g9.out.fr m hm).2 i n c e; omega⟩⟩, fun i n c e => g5.out.2.1 i (b0u e), fun i n c e => h6.2.1 i (b0u e), fun i n c e => h7.2.1 i (b0u e), fun _ i n c e => OwnN.ne_blkT g5.out g2.out i (b0u e), fun _ i n c e => h6.ne_blk g2.out (by decide) i (b0u e), fun _ i n c e => h7.ne_blk g2.out (by decide) i (b0u e), fun _ i n c e => g9.out.own.ne_blk g2.out (by decide) i (b0u e)⟩
set_option maxRecDepth 100000 in
set_option maxHeartbeats 32000000 in
theorem to_z (P : a0m) (w : World) (BP : Nat) (wx : World) (T : Array Value) (hA : ToA w BP ⟨T, []⟩) (hE : Hid (ToE w P BP wx)) :
 Code.wp Try.prog toZ (bodyPost Try.prog Try.f7 (fun e w' => ∃ v, e = .returned v ∧ b0k w.heap.size w' v P ∧ a03 (fun _ => False) w w')) ⟨T, []⟩ wx := by
 obtain ⟨-, hT, e1, e2, e4⟩ := hA
 change gd T 1 = _ at e1; change gd T 2 = _ at e2; change gd T 4 = _ at e4; change T.size = 108 at hT
 rw [h0d hT]
 rw [e1, e2, e4]
 conv => arg 2; whnf
 clear hT e1 e2 e4
 obtain ⟨h1, h2, h3, cs2, h4, h5, h6⟩ := hE.out
 have g1 := Hi h1; have g2 := Hi h2; have g3 := Hi h3; have g4 := Hi h4; have g5 := Hi h5; have g6 := Hi h6
 have hone : Hid (cs2.toArray.all (·.oneCell') = true) := Hi (by
  obtain ⟨cs', e, -, h⟩ := h6.cells
  injection e with e
  rw [e]; exact h)
 have hci : Hid ((Try.prog.info? 40).map (·.size) = some cs2.length) := Hi (by rw [a0n, h4])
 clear h1 h2 h3 h4 h5 h6 hE
 go_wp2_with (first | ((with_reducible refine a0a 107 ?_); go_must (refine wpList_load_mid rfl 40 (.tmp 4) rfl BP 0 rfl cs2 _ g5.out.range Try.underlying40 rfl hci.out ?_)) | ((with_reducible refine a09 2 ?_); go_must (refine a05 rfl 40 (.tmp 2) (.tmp 107) rfl (w.heap.size + 1) cs2.toArray rfl rfl (a06.there g1.out 0 _ (by rw [List.size_toArray, g4.out]; exact Nat.le_refl 16)) (by rw [List.size_toArray]; exact hci.out) hone.out ?_; intro w9 hr9 hs9)))
 refine bodyPost_ret (v := .agg cs2.toArray) (o0t Try.results7 _ _ (w.heap.size + 1) cs2 _ rfl hr9.out Try.underlying40 rfl hci.out) rfl ⟨_, rfl, g6.out.store hs9.out, g3.out.trans' hs9.out (fun i e => .inr (by omega))⟩
set_option maxRecDepth 100000 in
set_option maxHeartbeats 32000000 in
theorem p0z (P : a0m) (pn ph pk pl : Option Addr) (cn ch ck cl : Nat) (cs : List Value) (w : World) (hcs : Hid (cs = a0w P (.slice pn P.nbs.length cn) (.slice ph P.heads.length ch) (.slice pk P.keys.length ck) (.slice pl P.lsas.length cl)))
 (hin : Hid (d0f w P (.slice pn P.nbs.length cn) (.slice ph P.heads.length ch) (.slice pk P.keys.length ck) (.slice pl P.lsas.length cl)))
 (hal : P.auth.length ≤ 9223372036854775807) (hnl : P.nbs.length * 4 ≤ 140737488351232) (hhl : P.heads.length * 48 ≤ 140737488351232) (hkl : P.keys.length * 16 ≤ 140737488351232) (hll : P.lsas.length * 96 ≤ 140737488351232) (hls : Hid (∀ l ∈ P.lsas, l.links.length * 24 ≤ 140737488351232 ∧ l.routers.length * 4 ≤ 140737488351232)) :
 Calls Try.prog 7 #[.agg cs.toArray] w (fun e w' => ∃ v, e = .returned v ∧ b0k w.heap.size w' v P ∧ a03 (fun _ => False) w w') := by
 obtain ⟨i0, hi0, hz0, hz1, hz2⟩ := info_parts e07
 have hA0 : Hid (a06 ((w.alloc (.cells cs.toArray 30)).alloc (.cells Zp 40)) w.heap.size 30 cs) := Hi ((a06.new w _ _).alloc _)
 have hR0 : Hid (a06 ((w.alloc (.cells cs.toArray 30)).alloc (.cells Zp 40)) (w.heap.size + 1) 40 Zq) := Hi (by
  have := a06.new (w.alloc (.cells cs.toArray 30)) 40 Zq
  simpa using this)
 have hk0 : Hid (a03 (fun _ => False) w ((w.alloc (.cells cs.toArray 30)).alloc (.cells Zp 40))) := Hi (((a03.refl _ _).alloc _).alloc _)
 have hs0 : Hid (((w.alloc (.cells cs.toArray 30)).alloc (.cells Zp 40)).heap.size = w.heap.size + 2) := Hi (by simp)
 go_enter Try.func7, Try.ntmps7
 go_upto_region 1 with fail
 generalize (w.alloc (.cells cs.toArray 30)).alloc (.cells Zp 40) = W1 at hA0 hR0 hk0 hs0 ⊢
 have hG4 : Hid (W1.rangeAt w.heap.size 4 (Ga' P.mask P.interval P.dead P.priority P.dr P.bdr (.slice pn P.nbs.length cn))) := Hi (c0c hA0.out.range 4 7 (by rw [hcs.out]; rfl))
 have kg : a03 (fun _ => False) W1 (W1.alloc (.cells (Ga P.mask P.interval P.dead P.priority P.dr P.bdr (.slice pn P.nbs.length cn)) 25)) := (a03.refl _ _).alloc _
 have hA1 := Hi (hA0.out.keep kg id); have hR1 := Hi (hR0.out.keep kg id); have hk1 := Hi (hk0.out.trans kg); have hkg := Hi kg
 have hG1 : Hid (a06 (W1.alloc (.cells (Ga P.mask P.interval P.dead P.priority P.dr P.bdr (.slice pn P.nbs.length cn)) 25)) W1.heap.size 25 (Ga' P.mask P.interval P.dead P.priority P.dr P.bdr (.slice pn P.nbs.length cn))) := Hi (a06.new W1 _ _)
 clear kg
 go_upto_region 2 with (first | ((with_reducible refine a0a 9 ?_); go_must (refine wpList_load_mid rfl 25 (.tmp 8) rfl w.heap.size 4 rfl (Ga' P.mask P.interval P.dead P.priority P.dr P.bdr (.slice pn P.nbs.length cn)) _ hG4.out Try.underlying25 rfl a0z ?_)) | ((with_reducible refine a09 3 ?_); go_must (refine a07 rfl 25 (.tmp 3) (.tmp 9) rfl _ (Ga P.mask P.interval P.dead P.priority P.dr P.bdr (.slice pn P.nbs.length cn)) rfl rfl a0z rfl (g0x _ _ _ _ _ _ _ (a04 _ _ _)) ?_)))
 clear hG4 hA0 hR0 hk0
 generalize W1.alloc (.cells (Ga P.mask P.interval P.dead P.priority P.dr P.bdr (.slice pn P.nbs.length cn)) 25) = W2 at hA1 hR1 hk1 hG1 hkg ⊢
 refine wp_cut (fun A' wx => ∃ BP, ToA w BP A' ∧ ToD w P cs BP 0 0 wx) (fun A' wx hM => ?_) (fun J K' h1 h2 => ?_)
 ·rename_i hKK
  refine hKK _ _ ?_
  obtain ⟨BP, hA, hD⟩ := hM
  obtain ⟨T, D⟩ := A'
  obtain rfl : D = [] := hA.1
  change Code.wp _ (Code.seq toH (Code.seq toK (Code.seq toL toZ))) _ _ _
  refine wp_seq (to_h P pn ph pk pl cn ch ck cl cs w hcs hin BP wx T hA (Hi hD) hhl _ (fun a1 w1 hA1 hD1 => ?_))
  obtain ⟨T1, D1⟩ := a1
  obtain rfl : D1 = [] := hA1.1
  change Code.wp _ (Code.seq toK (Code.seq toL toZ)) _ _ _
  refine wp_seq (to_k P pn ph pk pl cn ch ck cl cs w hcs hin BP _ w1 T1 hA1 (Hi hD1) hkl _ (fun a2 w2 hA2 hD2 => ?_))
  obtain ⟨T2, D2⟩ := a2
  obtain rfl : D2 = [] := hA2.1
  change Code.wp _ (Code.seq toL toZ) _ _ _
  refine wp_seq (to_l P pn ph pk pl cn ch ck cl cs w hcs hin BP _ _ rfl rfl w2 T2 hA2 (Hi hD2) hll hls _ (fun a3 w3 hA3 hD3 => ?_))
  obtain ⟨T3, D3⟩ := a3
  obtain rfl : D3 = [] := hA3.1
  exact to_z P w BP w3 T3 hA3 (Hi hD3)
 ·have hN : Hid (a0x W2 (.slice pn P.nbs.length cn) P.nbs) := Hi (hin.out.n.keep hk1.out)
  refine wp_region_noPanic ?_
  refine wp_region_held_drew (S := (fun W => a03 (fun _ => False) W1 W ∧ a06 W w.heap.size 30 cs ∧ a06 W W1.heap.size 25 (Ga' P.mask P.interval P.dead P.priority P.dr P.bdr (.slice pn P.nbs.length cn)))) (by kernel_rfl) (⟨hkg.out.drew, hA1.out.keep ((a03.refl (fun _ => False) _).drew) id, hG1.out.keep ((a03.refl (fun _ => False) _).drew) id⟩) (fun hHeld => ?_)
  refine tk 0 rfl ?_
  refine tkL 1 rfl (a02 (by rfl) 3 (.tmp 10) rfl w.heap.size 0 rfl _ (fun _ s => s.2.1.cell 0 (.int .i64 P.type) (by rw [hcs.out]; rfl)) (fun w s => a0j w _ _ _ s)) ?_
  refine tk 2 rfl ?_
  refine tkL 3 rfl (a02 (by rfl) 22 (.tmp 12) rfl w.heap.size 1 rfl _ (fun _ s => s.2.1.cell 1 (.int .u32 P.router) (by rw [hcs.out]; rfl)) (fun w s => b04 w _ _ _ s)) ?_
  refine tk 4 rfl ?_
  refine tkL 5 rfl (a02 (by rfl) 22 (.tmp 14) rfl w.heap.size 2 rfl _ (fun _ s => s.2.1.cell 2 (.int .u32 P.area) (by rw [hcs.out]; rfl)) (fun w s => b04 w _ _ _ s)) ?_
  refine tk 6 rfl ?_
  refine tkL 7 rfl (a02 (by rfl) 9 (.tmp 16) rfl w.heap.size 3 rfl _ (fun _ s => s.2.1.cell 3 (.string ⟨P.auth.toArray⟩) (by rw [hcs.out]; rfl)) (fun w s => g01 w _ _ _ s)) ?_
  refine tk 8 rfl ?_
  refine tkL 9 rfl (a02 (by rfl) 22 (.tmp 18) rfl W1.heap.size 0 rfl _ (fun _ s => s.2.2.cell 0 (.int .u32 P.mask) rfl) (fun w s => b04 w _ _ _ s)) ?_
  refine tk 10 rfl ?_
  refine tkL 11 rfl (a02 (by rfl) 3 (.tmp 20) rfl W1.heap.size 1 rfl _ (fun _ s => s.2.2.cell 1 (.int .i64 P.interval) rfl) (fun w s => a0j w _ _ _ s)) ?_
  refine tk 12 rfl ?_
  refine tkL 13 rfl (a02 (by rfl) 3 (.tmp 22) rfl W1.heap.size 2 rfl _ (fun _ s => s.2.2.cell 2 (.int .i64 P.dead) rfl) (fun w s => a0j w _ _ _ s)) ?_
  refine tk 14 rfl ?_
  refine tkL 15 rfl (a02 (by rfl) 3 (.tmp 24) rfl W1.heap.size 3 rfl _ (fun _ s => s.2.2.cell 3 (.int .i64 P.priority) rfl) (fun w s => a0j w _ _ _ s)) ?_
  refine tk 16 rfl ?_
  refine tkL 17 rfl (a02 (by rfl) 22 (.tmp 26) rfl W1.heap.size 4 rfl _ (fun _ s => s.2.2.cell 4 (.int .u32 P.dr) rfl) (fun w s => b04 w _ _ _ s)) ?_
  refine tk 18 rfl ?_
  refine tkL 19 rfl (a02 (by rfl) 22 (.tmp 28) rfl W1.heap.size 5 rfl _ (fun _ s => s.2.2.cell 5 (.int .u32 P.bdr) rfl) (fun w s => b04 w _ _ _ s)) ?_
  refine tk 21 rfl ?_
  refine tkL 22 rfl (a02 (by rfl) 23 (.tmp 31) rfl W1.heap.size 6 rfl _ (fun _ s => s.2.2.cell 6 (.slice pn P.nbs.length cn) rfl) (fun w s => g0s w _ _ _ s)) ?_
  refine tk 25 rfl ?_
  refine tkL 26 rfl (a02 (by rfl) 3 (.tmp 35) rfl w.heap.size 11 rfl _ (fun _ s => s.2.1.cell 11 (.int .i64 P.flags) (by rw [hcs.out]; rfl)) (fun w s => a0j w _ _ _ s)) ?_
  refine tk 27 rfl ?_
  refine tkL 28 rfl (a02 (by rfl) 22 (.tmp 37) rfl w.heap.size 12 rfl _ (fun _ s => s.2.1.cell 12 (.int .u32 P.seq) (by rw [hcs.out]; rfl)) (fun w s => b04 w _ _ _ s)) ?_
  have kd : a03 (fun _ => False) W2 W2.drew := (a03.refl _ _).drew
  have hR := Hi (hR1.out.keep kd id); have hNn := Hi (hN.out.keep kd); have hKw := Hi (hk1.out.trans kd)
  have hlt : Hid (w.heap.size + 1 < W2.drew.heap.size) := Hi (by have := lt_of_block hG1.out; have h := hs0.out; have := kd.size; omega)
  clear kd
  obtain ⟨W0, hW0⟩ : ∃ W0, W0 = W2.drew := ⟨_, rfl⟩
  rw [← hW0] at hR hNn hKw hlt hHeld ⊢
  clear hW0 hA1 hR1 hk1 hN
  refine c06 20 30 rfl rfl (by kernel_rfl) (fun K hK => ?_) (fun K hK => ?_)
  ·skip
   have hHeld0 := Hi hHeld.1
   go_simp
   have kb : a03 (fun _ => False) W0 (W0.alloc (.cells #[] 22)) := (a03.refl _ _).alloc _
   refine hK.out _ _ ⟨hHeld.1.trans kb, hHeld.2.1.keep kb id, hHeld.2.2.keep kb id⟩ (fun hHeld => ?_)
   clear hK K
   try simp only [Act.put, sA, sZ, sS]
   have hO0 : Hid (OwnN W1 (W0.alloc (.cells #[] 22)) (.slice (some ⟨W0.heap.size, 0, none⟩) 0 0) []) := Hi (OwnN.new W1 W0 hHeld0.out.size [] rfl (by unfold maxLen; omega))
   have hR := Hi (hR.out.keep kb id); have hNn := Hi (hNn.out.keep kb); have hKw := Hi (hKw.out.trans kb)
   obtain ⟨sv, hsv⟩ : ∃ sv, sv = Value.slice (some ⟨W0.heap.size, 0, none⟩) 0 0 := ⟨_, rfl⟩
   obtain ⟨W0b, hW0b⟩ : ∃ Wz, Wz = W0.alloc (.cells #[] 22) := ⟨_, rfl⟩
   rw [← hW0b] at hO0 hR hNn hKw hHeld  ⊢
   rw [← hsv] at hO0 ⊢
   clear kb hW0b hsv hHeld0
   refine c06 23 30 rfl rfl (by kernel_rfl) (fun K hK => ?_) (fun K hK => ?_)
   ·skip
    rw [if_pos (by rfl)]
    refine b0z (.tmp 30) (.tmp 32) 23 rfl i0 Try.underlying23 hi0 hz0 hz1 hz2 W1 sv 0 [] rfl rfl hO0.out _ rfl P.nbs hNn.out (by omega) ?_
    intro pq cq W0ba hO hG2
    rw [Nat.zero_add, List.nil_append] at hO
    rw [Nat.zero_add]
    refine hK.out _ _ ⟨hHeld.1.trans' hG2.k (fun i e => .inr (hO0.out.2.1 i e)), hHeld.2.1.keep hG2.k (fun e => d01 hO0.out hHeld.2.1 (by decide) e), hHeld.2.2.keep hG2.k (fun e => d01 hO0.out hHeld.2.2 (by decide) e)⟩ (fun hHeld => ?_)
    clear hK K
    try simp only [Act.put, sA, sZ, sS]
    have hR := Hi (hR.out.keep hG2.k (fun e => d01 hO0.out hR.out (by decide) e)); have hKw := Hi (hKw.out.trans' hG2.k (fun i e => .inr (Nat.le_trans (by have := hs0.out; omega) (hO0.out.2.1 i e))))
    have hOn : Hid (OwnN w _ _ _) := Hi ⟨hO.1, fun k e => Nat.le_trans (by have := hs0.out; omega) (hO.2.1 k e), hKw.out.size⟩
    clear hO hG2 hO0 hNn
    refine tk 24 rfl ?_
    refine tk 29 rfl ?_
    refine sL 30 rfl fun K hK => ?_
    have hG9 := Hi hHeld.2.2
    go_simp
    have kz : a03 (fun _ => False) W0ba (W0ba.alloc (.cells Zp 40)) := (a03.refl _ _).alloc _
    refine hK.out _ _ ⟨hHeld.1.trans kz, hHeld.2.1.keep kz id, hHeld.2.2.keep kz id⟩ (fun hHeld => ?_)
    clear hK K
    try simp only [Act.put, sA, sZ, sS]
    have hZ : Hid (a06 (W0ba.alloc (.cells Zp 40)) W0ba.heap.size 40 Zq) := Hi (a06.new W0ba _ _)
    have hBl : Hid (w.heap.size + 1 < W0ba.heap.size ∧ W1.heap.size < W0ba.heap.size) := Hi ⟨by have := lt_of_block hR.out; omega, lt_of_block hG9.out⟩
    have hR := Hi (hR.out.keep kz id); have hKw := Hi (hKw.out.trans kz); have hOn := Hi (hOn.out.keep kz (fun _ _ f => f))
    obtain ⟨BP, hBP⟩ : ∃ B, B = W0ba.heap.size := ⟨_, rfl⟩
    obtain ⟨W0baz, hW0baz⟩ : ∃ Wz, Wz = W0ba.alloc (.cells Zp 40) := ⟨_, rfl⟩
    rw [← hW0baz] at hZ hR hKw hHeld hOn ⊢
    rw [← hBP] at hZ hBl ⊢
    clear kz hW0baz hBP hG9
    have hT := hZ.out.there 0 16 (Nat.le_refl 16)
    refine sL 31 rfl fun K hK => ?_
    rw [if_pos (by rfl)]
    (refine wp_store_mid 40 (.tmp 4) (.tmp 39) rfl BP 0 (Pa P.type P.router P.area ⟨P.auth.toArray⟩ P.mask P.interval P.dead P.priority P.dr P.bdr (.slice pq P.nbs.length cq) P.flags P.seq Sn Sn Sn) rfl rfl hT a0n (a0u _ _ _ _ _ _ _ _ _ _ _ _ _ _ _ _ (a04 _ _ _) (a04 _ _ _) (a04 _ _ _) (a04 _ _ _)) ?_)
    refine hK.out _ _ (⟨hHeld.1.trans' (a03.setCells (F := fun i => i = BP) (.inl rfl) _ _ _ (a03.refl _ _)) (fun i e => .inr (by have := hBl.out.2; omega)), hHeld.2.1.keep (a03.setCells (F := fun i => i = BP) (.inl rfl) _ _ _ (a03.refl _ _)) (fun e => by have := hBl.out.1; omega), hHeld.2.2.keep (a03.setCells (F := fun i => i = BP) (.inl rfl) _ _ _ (a03.refl _ _)) (fun e => by have := hBl.out.2; omega)⟩) (fun hHeld => ?_)
    clear hK K
    try simp only [Act.put, sA, sZ, sS]
    refine wpAnyH_done (by kernel_rfl) (NoPanic.normal ?_) _
    have hsS : a03 (fun i => i = BP) W0baz (W0baz.setCells BP 0 (Pa' P.type P.router P.area ⟨P.auth.toArray⟩ P.mask P.interval P.dead P.priority P.dr P.bdr (.slice pq P.nbs.length cq) P.flags P.seq Sn Sn Sn)) := a03.setCells (F := fun i => i = BP) (.inl rfl) _ _ _ (a03.refl _ _)
    have hfin : ToD w P cs BP 0 0 (W0baz.setCells BP 0 (Pa' P.type P.router P.area ⟨P.auth.toArray⟩ P.mask P.interval P.dead P.priority P.dr P.bdr (.slice pq P.nbs.length cq) P.flags P.seq Sn Sn Sn)) := ⟨pq, none, none, cq, 0, 0, hHeld.2.1, hR.out.keep hsS (fun e => by have := hBl.out.1; omega), hBl.out.1, hZ.out.whole (Pa' P.type P.router P.area ⟨P.auth.toArray⟩ P.mask P.interval P.dead P.priority P.dr P.bdr (.slice pq P.nbs.length cq) P.flags P.seq Sn Sn Sn) rfl, hOn.out.keep hsS (fun i e h => (OwnN.ne_blkT hOn.out hZ.out) i e h), OwnR.nil _ _ (Nat.le_trans hKw.out.size hsS.size), OwnR.nil _ _ (Nat.le_trans hKw.out.size hsS.size), hKw.out.trans' hsS (fun i e => .inr (by rw [e]; have := hBl.out.1; omega))⟩
    have hfin' := Hi hfin
    clear hHeld hT hsS hfin
    go_wp2_with fail
    first | refine h2 _ _ (Met.intro (h1 _ _ ?_)) | refine Met.intro (h1 _ _ ?_) | refine h1 _ _ ?_
    exact ⟨BP, ⟨rfl, rfl, rfl, rfl, rfl⟩, hfin'.out⟩
   ·skip
    have hG9 := Hi hHeld.2.2
    go_simp
    have kz : a03 (fun _ => False) W0b (W0b.alloc (.cells Zp 40)) := (a03.refl _ _).alloc _
    refine hK.out _ _ ⟨hHeld.1.trans kz, hHeld.2.1.keep kz id, hHeld.2.2.keep kz id⟩ (fun hHeld => ?_)
    clear hK K
    try simp only [Act.put, sA, sZ, sS]
    have hZ : Hid (a06 (W0b.alloc (.cells Zp 40)) W0b.heap.size 40 Zq) := Hi (a06.new W0b _ _)
    have hBl : Hid (w.heap.size + 1 < W0b.heap.size ∧ W1.heap.size < W0b.heap.size) := Hi ⟨by have := lt_of_block hR.out; omega, lt_of_block hG9.out⟩
    have hR := Hi (hR.out.keep kz id); have hNn := Hi (hNn.out.keep kz); have hKw := Hi (hKw.out.trans kz)
    have hO0 := Hi (hO0.out.keep kz (fun _ _ f => f))
    obtain ⟨BP, hBP⟩ : ∃ B, B = W0b.heap.size := ⟨_, rfl⟩
    obtain ⟨W0bz, hW0bz⟩ : ∃ Wz, Wz = W0b.alloc (.cells Zp 40) := ⟨_, rfl⟩
    rw [← hW0bz] at hZ hR hKw hHeld hO0 hNn ⊢
    rw [← hBP] at hZ hBl ⊢
    clear kz hW0bz hBP hG9
    refine sL 23 rfl fun K hK => ?_
    rw [if_pos (by rfl)]
    refine b0z (.tmp 30) (.tmp 32) 23 rfl i0 Try.underlying23 hi0 hz0 hz1 hz2 W1 sv 0 [] rfl rfl hO0.out _ rfl P.nbs hNn.out (by omega) ?_
    intro pq cq W0bza hO hG2
    rw [Nat.zero_add, List.nil_append] at hO
    rw [Nat.zero_add]
    refine hK.out _ _ ⟨hHeld.1.trans' hG2.k (fun i e => .inr (hO0.out.2.1 i e)), hHeld.2.1.keep hG2.k (fun e => d01 hO0.out hHeld.2.1 (by decide) e), hHeld.2.2.keep hG2.k (fun e => d01 hO0.out hHeld.2.2 (by decide) e)⟩ (fun hHeld => ?_)
    clear hK K
    try simp only [Act.put, sA, sZ, sS]
    have hR := Hi (hR.out.keep hG2.k (fun e => d01 hO0.out hR.out (by decide) e)); have hKw := Hi (hKw.out.trans' hG2.k (fun i e => .inr (Nat.le_trans (by have := hs0.out; omega) (hO0.out.2.1 i e))))
    have hZ := Hi (hZ.out.keep hG2.k (fun e => d01 hO0.out hZ.out (by decide) e))
    have hOn : Hid (OwnN w _ _ _) := Hi ⟨hO.1, fun k e => Nat.le_trans (by have := hs0.out; omega) (hO.2.1 k e), hKw.out.size⟩
    clear hO hG2 hO0 hNn
    refine tk 24 rfl ?_
    refine tk 29 rfl ?_
    have hT := hZ.out.there 0 16 (Nat.le_refl 16)
    refine sL 31 rfl fun K hK => ?_
    rw [if_pos (by rfl)]
    (refine wp_store_mid 40 (.tmp 4) (.tmp 39) rfl BP 0 (Pa P.type P.router P.area ⟨P.auth.toArray⟩ P.mask P.interval P.dead P.priority P.dr P.bdr (.slice pq P.nbs.length cq) P.flags P.seq Sn Sn Sn) rfl rfl hT a0n (a0u _ _ _ _ _ _ _ _ _ _ _ _ _ _ _ _ (a04 _ _ _) (a04 _ _ _) (a04 _ _ _) (a04 _ _ _)) ?_)
    refine hK.out _ _ (⟨hHeld.1.trans' (a03.setCells (F := fun i => i = BP) (.inl rfl) _ _ _ (a03.refl _ _)) (fun i e => .inr (by have := hBl.out.2; omega)), hHeld.2.1.keep (a03.setCells (F := fun i => i = BP) (.inl rfl) _ _ _ (a03.refl _ _)) (fun e => by have := hBl.out.1; omega), hHeld.2.2.keep (a03.setCells (F := fun i => i = BP) (.inl rfl) _ _ _ (a03.refl _ _)) (fun e => by have := hBl.out.2; omega)⟩) (fun hHeld => ?_)
    clear hK K
    try simp only [Act.put, sA, sZ, sS]
    refine wpAnyH_done (by kernel_rfl) (NoPanic.normal ?_) _
    have hsS : a03 (fun i => i = BP) W0bza (W0bza.setCells BP 0 (Pa' P.type P.router P.area ⟨P.auth.toArray⟩ P.mask P.interval P.dead P.priority P.dr P.bdr (.slice pq P.nbs.length cq) P.flags P.seq Sn Sn Sn)) := a03.setCells (F := fun i => i = BP) (.inl rfl) _ _ _ (a03.refl _ _)
    have hfin : ToD w P cs BP 0 0 (W0bza.setCells BP 0 (Pa' P.type P.router P.area ⟨P.auth.toArray⟩ P.mask P.interval P.dead P.priority P.dr P.bdr (.slice pq P.nbs.length cq) P.flags P.seq Sn Sn Sn)) := ⟨pq, none, none, cq, 0, 0, hHeld.2.1, hR.out.keep hsS (fun e => by have := hBl.out.1; omega), hBl.out.1, hZ.out.whole (Pa' P.type P.router P.area ⟨P.auth.toArray⟩ P.mask P.interval P.dead P.priority P.dr P.bdr (.slice pq P.nbs.length cq) P.flags P.seq Sn Sn Sn) rfl, hOn.out.keep hsS (fun i e h => (OwnN.ne_blkT hOn.out hZ.out) i e h), OwnR.nil _ _ (Nat.le_trans hKw.out.size hsS.size), OwnR.nil _ _ (Nat.le_trans hKw.out.size hsS.size), hKw.out.trans' hsS (fun i e => .inr (by rw [e]; have := hBl.out.1; omega))⟩
    have hfin' := Hi hfin
    clear hHeld hT hsS hfin
    go_wp2_with fail
    first | refine h2 _ _ (Met.intro (h1 _ _ ?_)) | refine Met.intro (h1 _ _ ?_) | refine h1 _ _ ?_
    exact ⟨BP, ⟨rfl, rfl, rfl, rfl, rfl⟩, hfin'.out⟩
  ·skip
   have hG9 := Hi hHeld.2.2
   go_simp
   have kz : a03 (fun _ => False) W0 (W0.alloc (.cells Zp 40)) := (a03.refl _ _).alloc _
   refine hK.out _ _ ⟨hHeld.1.trans kz, hHeld.2.1.keep kz id, hHeld.2.2.keep kz id⟩ (fun hHeld => ?_)
   clear hK K
   try simp only [Act.put, sA, sZ, sS]
   have hZ : Hid (a06 (W0.alloc (.cells Zp 40)) W0.heap.size 40 Zq) := Hi (a06.new W0 _ _)
   have hBl : Hid (w.heap.size + 1 < W0.heap.size ∧ W1.heap.size < W0.heap.size) := Hi ⟨by have := lt_of_block hR.out; omega, lt_of_block hG9.out⟩
   have hR := Hi (hR.out.keep kz id); have hNn := Hi (hNn.out.keep kz); have hKw := Hi (hKw.out.trans kz)
   obtain ⟨BP, hBP⟩ : ∃ B, B = W0.heap.size := ⟨_, rfl⟩
   obtain ⟨W0z, hW0z⟩ : ∃ Wz, Wz = W0.alloc (.cells Zp 40) := ⟨_, rfl⟩
   rw [← hW0z] at hZ hR hKw hHeld hNn ⊢
   rw [← hBP] at hZ hBl ⊢
   clear kz hW0z hBP hG9
   refine sL 20 rfl fun K hK => ?_
   have hHeld0 := Hi hHeld.1
   go_simp
   have kb : a03 (fun _ => False) W0z (W0z.alloc (.cells #[] 22)) := (a03.refl _ _).alloc _
   refine hK.out _ _ ⟨hHeld.1.trans kb, hHeld.2.1.keep kb id, hHeld.2.2.keep kb id⟩ (fun hHeld => ?_)
   clear hK K
   try simp only [Act.put, sA, sZ, sS]
   have hO0 : Hid (OwnN W1 (W0z.alloc (.cells #[] 22)) (.slice (some ⟨W0z.heap.size, 0, none⟩) 0 0) []) := Hi (OwnN.new W1 W0z hHeld0.out.size [] rfl (by unfold maxLen; omega))
   have hR := Hi (hR.out.keep kb id); have hNn := Hi (hNn.out.keep kb); have hKw := Hi (hKw.out.trans kb)
   have hZ := Hi (hZ.out.keep kb id)
   obtain ⟨sv, hsv⟩ : ∃ sv, sv = Value.slice (some ⟨W0z.heap.size, 0, none⟩) 0 0 := ⟨_, rfl⟩
   obtain ⟨W0zb, hW0zb⟩ : ∃ Wz, Wz = W0z.alloc (.cells #[] 22) := ⟨_, rfl⟩
   rw [← hW0zb] at hO0 hR hNn hKw hHeld hZ ⊢
   rw [← hsv] at hO0 ⊢
   clear kb hW0zb hsv hHeld0
   refine sL 23 rfl fun K hK => ?_
   rw [if_pos (by rfl)]
   refine b0z (.tmp 30) (.tmp 32) 23 rfl i0 Try.underlying23 hi0 hz0 hz1 hz2 W1 sv 0 [] rfl rfl hO0.out _ rfl P.nbs hNn.out (by omega) ?_
   intro pq cq W0zba hO hG2
   rw [Nat.zero_add, List.nil_append] at hO
   rw [Nat.zero_add]
   refine hK.out _ _ ⟨hHeld.1.trans' hG2.k (fun i e => .inr (hO0.out.2.1 i e)), hHeld.2.1.keep hG2.k (fun e => d01 hO0.out hHeld.2.1 (by decide) e), hHeld.2.2.keep hG2.k (fun e => d01 hO0.out hHeld.2.2 (by decide) e)⟩ (fun hHeld => ?_)
   clear hK K
   try simp only [Act.put, sA, sZ, sS]
   have hR := Hi (hR.out.keep hG2.k (fun e => d01 hO0.out hR.out (by decide) e)); have hKw := Hi (hKw.out.trans' hG2.k (fun i e => .inr (Nat.le_trans (by have := hs0.out; omega) (hO0.out.2.1 i e))))
   have hZ := Hi (hZ.out.keep hG2.k (fun e => d01 hO0.out hZ.out (by decide) e))
   have hOn : Hid (OwnN w _ _ _) := Hi ⟨hO.1, fun k e => Nat.le_trans (by have := hs0.out; omega) (hO.2.1 k e), hKw.out.size⟩
   clear hO hG2 hO0 hNn
   refine tk 24 rfl ?_
   refine tk 29 rfl ?_
   have hT := hZ.out.there 0 16 (Nat.le_refl 16)
   refine sL 31 rfl fun K hK => ?_
   rw [if_pos (by rfl)]
   (refine wp_store_mid 40 (.tmp 4) (.tmp 39) rfl BP 0 (Pa P.type P.router P.area ⟨P.auth.toArray⟩ P.mask P.interval P.dead P.priority P.dr P.bdr (.slice pq P.nbs.length cq) P.flags P.seq Sn Sn Sn) rfl rfl hT a0n (a0u _ _ _ _ _ _ _ _ _ _ _ _ _ _ _ _ (a04 _ _ _) (a04 _ _ _) (a04 _ _ _) (a04 _ _ _)) ?_)
   refine hK.out _ _ (⟨hHeld.1.trans' (a03.setCells (F := fun i => i = BP) (.inl rfl) _ _ _ (a03.refl _ _)) (fun i e => .inr (by have := hBl.out.2; omega)), hHeld.2.1.keep (a03.setCells (F := fun i => i = BP) (.inl rfl) _ _ _ (a03.refl _ _)) (fun e => by have := hBl.out.1; omega), hHeld.2.2.keep (a03.setCells (F := fun i => i = BP) (.inl rfl) _ _ _ (a03.refl _ _)) (fun e => by have := hBl.out.2; omega)⟩) (fun hHeld => ?_)
   clear hK K
   try simp only [Act.put, sA, sZ, sS]
   refine wpAnyH_done (by kernel_rfl) (NoPanic.normal ?_) _
   have hsS : a03 (fun i => i = BP) W0zba (W0zba.setCells BP 0 (Pa' P.type P.router P.area ⟨P.auth.toArray⟩ P.mask P.interval P.dead P.priority P.dr P.bdr (.slice pq P.nbs.length cq) P.flags P.seq Sn Sn Sn)) := a03.setCells (F := fun i => i = BP) (.inl rfl) _ _ _ (a03.refl _ _)
   have hfin : ToD w P cs BP 0 0 (W0zba.setCells BP 0 (Pa' P.type P.router P.area ⟨P.auth.toArray⟩ P.mask P.interval P.dead P.priority P.dr P.bdr (.slice pq P.nbs.length cq) P.flags P.seq Sn Sn Sn)) := ⟨pq, none, none, cq, 0, 0, hHeld.2.1, hR.out.keep hsS (fun e => by have := hBl.out.1; omega), hBl.out.1, hZ.out.whole (Pa' P.type P.router P.area ⟨P.auth.toArray⟩ P.mask P.interval P.dead P.priority P.dr P.bdr (.slice pq P.nbs.length cq) P.flags P.seq Sn Sn Sn) rfl, hOn.out.keep hsS (fun i e h => (OwnN.ne_blkT hOn.out hZ.out) i e h), OwnR.nil _ _ (Nat.le_trans hKw.out.size hsS.size), OwnR.nil _ _ (Nat.le_trans hKw.out.size hsS.size), hKw.out.trans' hsS (fun i e => .inr (by rw [e]; have := hBl.out.1; omega))⟩
   have hfin' := Hi hfin
   clear hHeld hT hsS hfin
   go_wp2_with fail
   first | refine h2 _ _ (Met.intro (h1 _ _ ?_)) | refine Met.intro (h1 _ _ ?_) | refine h1 _ _ ?_
   exact ⟨BP, ⟨rfl, rfl, rfl, rfl, rfl⟩, hfin'.out⟩
end Go.Proofs.Ytmggbljkehclpaa
