/- QT QTh QTk QTf -/
import Derived.Test.YtmggbljkehclpaaP38
set_option linter.unusedVariables false
set_option linter.unusedSimpArgs false
namespace Go.Proofs.Ytmggbljkehclpaa
open Go.RowKit
noncomputable def toX : Code := cR (cR (cR (Try.f7.body.getD .skip)))
noncomputable def toH : Code := cL toX
noncomputable def toK : Code := cL (cR toX)
noncomputable def toL : Code := cL (cR (cR toX))
noncomputable def toZ : Code := cR (cR (cR toX))
theorem g0e (W : World) (a b c d e f g : Int) : (Instr.buildSlice 36 1 #[(0, .agg (Ha a b c d e f g))]).run Try.prog W = .ok (.slice (some ⟨W.heap.size, 0, none⟩) 1 1) (W.alloc (.cells (Ha a b c d e f g) 69)) := by go_simp
theorem h0r (W : World) (a b c d e : Int) (p : Option Addr) (n k : Nat) (f : Int) (q : Option Addr) (m j : Nat) (g : Int) : (Instr.buildSlice 38 1 #[(0, .agg (La a b c d e (.slice p n k) f (.slice q m j) g))]).run Try.prog W = .ok (.slice (some ⟨W.heap.size, 0, none⟩) 1 1) (W.alloc (.cells (La a b c d e (.slice p n k) f (.slice q m j) g) 76)) := by go_simp
theorem InvL.keepB {w0 w w' : World} {v : Value} {ms : List LsaM} {B : Nat} (h : InvL w0 w v ms) (k : a03 (fun i => i = B) w w') (hB : B < w0.heap.size) (hne : ∀ i, v.ownBlock = some i → i ≠ B) : InvL w0 w' v ms :=
 ⟨h.own.keep k (fun i e h => hne i e h), fun m hm => ⟨(h.in_ m hm).1.keepF k (fun _ i e h1 => by have := (h.fr m hm).1 i _ _ e; omega), (h.in_ m hm).2.keepF k (fun _ i e h1 => by have := (h.fr m hm).2 i _ _ e; omega)⟩, h.fr, h.sep⟩
theorem g09 {α : Type} {sz : Nat} {cv : α → List Value} {P : Program} {w : World} {o : Oper} {a : Act} {K : Act → World → Prop} {Q : Exit → Act → World → Prop} (s x : Operand) (t e : TypeId)
 (ho : o.op = .call { callee := .builtin .append, args := #[s, x], argTypes := #[t, t] })
 (i : TypeInfo) (z : Value) (by_ : Nat) (ht : P.underlying t = some (.slice e)) (hi : P.info? e = some i) (hz : i.zero = some z) (hsize : i.size = sz) (hby : i.bytes = by_) (hzs : z.cells.size = sz) (hsz0 : 0 < sz) (hby1 : 1 ≤ by_)
 (hcv : ∀ x, (cv x).length = sz) (w0 : World) (v : Value) (n : Nat) (xs : List α) (hn : xs.length = n) (hs : a.eval s = v) (hown : OwnR e sz cv w0 w v xs) (ad : Addr) (hx : a.eval x = .slice (some ad) 1 1) (l : α) (hl : ∀ j u, (cv l)[j]? = some u → w.cell? (ad.add j) = some u) (h1 : ∀ u ∈ cv l, u.oneCell' = true) (hsz : (n + 1) * by_ ≤ 140737488351232)
 (h : ∀ p c w', OwnR e sz cv w0 w' (.slice p (n + 1) c) (xs ++ [l]) → d09 w v p (n + 1) c w' → K (a.put o.dst (.slice p (n + 1) c)) w') : Oper.wp P o a w K Q := by
 subst hn
 have hb : xs.length + 1 ≤ (xs.length + 1) * by_ := Nat.le_mul_of_pos_right _ hby1
 obtain ⟨v', w', hr, h2, h3, h4⟩ := b0y (P := P) w t o.type e i z sz by_ ht hi hz hsize hby hzs hsz0 v xs.length (d0h cv xs) hown.1 ad 1 1 (cv l) (by rw [hcv]; omega) hl h1 (by unfold maxLen; omega) (by omega)
 obtain ⟨p, c, rfl⟩ := b0c h2
 unfold Oper.wp execOp
 simp only [ho, resolve, invoke, builtin, Sem.run_bind, Sem.run_pure, Result.andThen_ok, List.map_toArray, List.map_cons, List.map_nil, hs, hx, hr]
 refine h p c w' ⟨by rw [i07]; simpa using h2, fun k e => ?_, Nat.le_trans hown.2.2 h3.size⟩ ⟨(a03.refl _ _).grown h3 (fun k e => .inl e), h4⟩
 rcases h4 k e with e | e
 ·exact hown.2.1 k e
 ·exact Nat.le_trans hown.2.2 e
theorem OwnN.ne_blkT {w0 w : World} {v : Value} {xs : List Nat} (h : OwnN w0 w v xs) {B : Nat} {cs : List Value} (hb : a06 w B 40 cs) : ∀ k, v.ownBlock = some k → k ≠ B := fun k e hk => d01 h hb (by decide) (hk ▸ e)
def ToA (w : World) (BP : Nat) (A : Act) : Prop :=
 A.defers = [] ∧ A.tmps.size = 108 ∧ A.tmps.getD 1 undef = .pointer (some ⟨w.heap.size, 0, none⟩) ∧ A.tmps.getD 2 undef = .pointer (some ⟨w.heap.size + 1, 0, none⟩) ∧ A.tmps.getD 4 undef = .pointer (some ⟨BP, 0, none⟩)
def ToD (w : World) (P : a0m) (cs : List Value) (BP nh nk : Nat) (wx : World) : Prop :=
 ∃ qn qh qk dn dh dk, a06 wx w.heap.size 30 cs ∧ a06 wx (w.heap.size + 1) 40 Zq ∧ w.heap.size + 1 < BP ∧ a06 wx BP 40 (a0w P (.slice qn P.nbs.length dn) (.slice qh nh dh) (.slice qk nk dk) (.slice none 0 0)) ∧ OwnN w wx (.slice qn P.nbs.length dn) P.nbs ∧ OwnR 69 7 b0d w wx (.slice qh nh dh) (P.heads.take nh) ∧ OwnR 67 3 b0m w wx (.slice qk nk dk) (P.keys.take nk) ∧ a03 (fun _ => False) w wx
set_option maxRecDepth 100000 in
theorem l04 (age type seq len : Int) (lid adv sum : Nat) (w : World) :
 Calls Try.prog 22 #[.agg (Ha age type lid adv seq sum len)] w (fun e w' => e = .returned (.agg (Ha age type lid adv seq sum len)) ∧ a03 (fun _ => False) w w') := by
 have hA : Hid (a06 ((w.alloc (.cells (Ha age type lid adv seq sum len) 73)).alloc (.cells (Ha 0 0 0 0 0 0 0) 69)) w.heap.size 73 (Ha' age type lid adv seq sum len)) := Hi ((a06.new w 73 (Ha' age type lid adv seq sum len)).keep ((a03.refl (fun _ => False) _).alloc _) (fun f => f))
 have hB : Hid (a06 ((w.alloc (.cells (Ha age type lid adv seq sum len) 73)).alloc (.cells (Ha 0 0 0 0 0 0 0) 69)) (w.heap.size + 1) 69 (Ha' 0 0 0 0 0 0 0)) := Hi (by have := a06.new (w.alloc (.cells (Ha age type lid adv seq sum len) 73)) 69 (Ha' 0 0 0 0 0 0 0); simpa using this)
 have hK : Hid (a03 (fun _ => False) w ((w.alloc (.cells (Ha age type lid adv seq sum len) 73)).alloc (.cells (Ha 0 0 0 0 0 0 0) 69))) := Hi (((a03.refl _ _).alloc _).alloc _)
 go_enter Try.func22, Try.ntmps22
 go_upto_region 1 with fail
 generalize (w.alloc (.cells (Ha age type lid adv seq sum len) 73)).alloc (.cells (Ha 0 0 0 0 0 0 0) 69) = w0 at hA hB hK ⊢
 have a0 := hA.out.cell 0 _ rfl
 have a1 := hA.out.cell 1 _ rfl
 have a2 := hA.out.cell 2 _ rfl
 have a3 := hA.out.cell 3 _ rfl
 have a4 := hA.out.cell 4 _ rfl
 have a5 := hA.out.cell 5 _ rfl
 have a6 := hA.out.cell 6 _ rfl
 go_wp2_with ((with_reducible refine a09 2 ?_); refine a05 rfl 69 (.tmp 2) (.tmp 21) rfl (w.heap.size + 1) (Ha age type lid adv seq sum len) rfl rfl (hB.out.there 0 7 (Nat.le_refl _)) c04 (b0o _ _ _ _ _ _ _) ?_; intro w1 hr9 hk9)
 have e0 := a01 hr9.out 0 (.int .i64 age) rfl
 have e1 := a01 hr9.out 1 (.int .i64 type) rfl
 have e2 := a01 hr9.out 2 (.int .u32 lid) rfl
 have e3 := a01 hr9.out 3 (.int .u32 adv) rfl
 have e4 := a01 hr9.out 4 (.int .i64 seq) rfl
 have e5 := a01 hr9.out 5 (.int .u16 sum) rfl
 have e6 := a01 hr9.out 6 (.int .i64 len) rfl
 refine bodyPost_ret (v := .agg (Ha age type lid adv seq sum len)) (by simp [results, Try.results22, go_sem, e0, e1, e2, e3, e4, e5, e6]) rfl ⟨rfl, hK.out.trans' hk9.out (fun i e => .inr (by omega))⟩
set_option maxRecDepth 100000 in
set_option maxHeartbeats 32000000 in
theorem to_h (P : a0m) (pn ph pk pl : Option Addr) (cn ch ck cl : Nat) (cs : List Value) (w : World) (hcs : Hid (cs = a0w P (.slice pn P.nbs.length cn) (.slice ph P.heads.length ch) (.slice pk P.keys.length ck) (.slice pl P.lsas.length cl)))
 (hin : Hid (d0f w P (.slice pn P.nbs.length cn) (.slice ph P.heads.length ch) (.slice pk P.keys.length ck) (.slice pl P.lsas.length cl)))
 (BP : Nat) (w1 : World) (T : Array Value) (hA : ToA w BP ⟨T, []⟩) (hD : Hid (ToD w P cs BP 0 0 w1)) (hhl : P.heads.length * 48 ≤ 140737488351232) (Q : Exit → Act → World → Prop) (hJ : ∀ a' w', ToA w BP a' → ToD w P cs BP P.heads.length 0 w' → Q .normal a' w') :
 Code.wp Try.prog toH Q ⟨T, []⟩ w1 := by
 obtain ⟨-, hT, e1, e2, e4⟩ := hA
 change gd T 1 = _ at e1; change gd T 2 = _ at e2; change gd T 4 = _ at e4; change T.size = 108 at hT
 rw [h0d hT]
 rw [e1, e2, e4]
 conv => arg 2; whnf
 clear hT e1 e2 e4
 obtain ⟨ih, hih, hhz, hhsz, hhby⟩ := info_parts k0f
 obtain ⟨n, hn⟩ : ∃ n, P.heads.length = n := ⟨_, rfl⟩
 have hn' := Hi hn
 have hsrc : Hid (g07 w (.slice ph n ch) P.heads) := Hi (by rw [← hn]; exact hin.out.h)
 have hc13 : Hid (cs[13]? = some (.slice ph n ch)) := Hi (by rw [hcs.out, ← hn]; rfl)
 rw [hn] at hhl hJ
 have hD0 : Hid (∃ qh dh, ∃ qn qk dn dk, a06 w1 w.heap.size 30 cs ∧ a06 w1 (w.heap.size + 1) 40 Zq ∧ w.heap.size + 1 < BP ∧ a06 w1 BP 40 (a0w P (.slice qn P.nbs.length dn) (.slice qh 0 dh) (.slice qk 0 dk) (.slice none 0 0)) ∧ OwnN w w1 (.slice qn P.nbs.length dn) P.nbs ∧ OwnR 69 7 b0d w w1 (.slice qh 0 dh) (P.heads.take 0) ∧ OwnR 67 3 b0m w w1 (.slice qk 0 dk) (P.keys.take 0) ∧ a03 (fun _ => False) w w1) := Hi (by
  obtain ⟨qn, qh, qk, dn, dh, dk, h⟩ := hD.out
  exact ⟨qh, dh, qn, qk, dn, dk, h⟩)
 clear hD hn
 go_wp2_with fail
 go_loopw [5] (fun iv wr => ∃ (k : Nat), k ≤ n ∧ iv = .int .i64 k ∧ Hid (∃ qh dh, ∃ qn qk dn dk, a06 wr w.heap.size 30 cs ∧ a06 wr (w.heap.size + 1) 40 Zq ∧ w.heap.size + 1 < BP ∧ a06 wr BP 40 (a0w P (.slice qn P.nbs.length dn) (.slice qh k dh) (.slice qk 0 dk) (.slice none 0 0)) ∧ OwnN w wr (.slice qn P.nbs.length dn) P.nbs ∧ OwnR 69 7 b0d w wr (.slice qh k dh) (P.heads.take k) ∧ OwnR 67 3 b0m w wr (.slice qk 0 dk) (P.keys.take 0) ∧ a03 (fun _ => False) w wr)) (fun iv _ => n - (intOf iv).toNat)
 case atStart => exact ⟨0, Nat.zero_le _, rfl, hD0⟩
 case round =>
  obtain ⟨k, hk, rfl, hrest⟩ := hrel
  obtain ⟨q, d, qn, qk, dn, dk, h1, h2, h3, h4, h5, h6, h7, h8⟩ := hrest.out
  have hb := h1.cell 13 _ hc13.out
  have g1 := Hi h1; have g2 := Hi h2; have g3 := Hi h3; have g4 := Hi h4; have g5 := Hi h5; have g6 := Hi h6; have g7 := Hi h7; have g8 := Hi h8
  clear h1 h2 h3 h4 h5 h6 h7 h8 hrest
  by_cases hkn : k < n
  ·have hkni : (k : Int) < n := by omega
   obtain ⟨g, o, hpe, hrows⟩ := a0s.open hsrc.out (by rw [hn'.out]; omega)
   subst hpe
   obtain ⟨hd, hhd⟩ : ∃ l, P.heads[k]? = some l := ⟨_, List.getElem?_eq_getElem (by rw [hn'.out]; exact hkn)⟩
   have htk : Hid (P.heads.take (k + 1) = P.heads.take k ++ [hd]) := Hi (by
    obtain ⟨hk2, e⟩ := List.getElem?_eq_some_iff.1 hhd
    rw [List.take_succ_eq_append_getElem hk2, e])
   have htl : (P.heads.take k).length = k := by rw [List.length_take, hn'.out]; omega
   obtain ⟨hage, hty, hid, hadv, hseq, hsum, hlen⟩ := hd
   have hrow : Hid (w.rangeAt g (o + k * 7) (Ha' hage hty hid hadv hseq hsum hlen)) := Hi (hrows k _ hhd)
   have htl' := Hi htl
   clear hhd hrows htl
   have kd : a03 (fun _ => False) wr wr.drew := (a03.refl _ _).drew
   have f1 := Hi (g1.out.keep kd id); have f2 := Hi (g2.out.keep kd id); have hBk := Hi (g4.out.keep kd id); have f5 := Hi (g5.out.keep kd (fun _ _ f => f)); have hOn := Hi (g6.out.keep kd (fun _ _ f => f)); have f7 := Hi (g7.out.keep kd (fun _ _ f => f)); have hKw := Hi (g8.out.trans kd)
   clear kd
   go_upto_region 6 with fail
   refine wp_region_noPanic ?_
   refine wp_region_held_drew (S := (fun W => a03 (fun _ => False) w W ∧ a06 W w.heap.size 30 cs)) (by kernel_rfl) (⟨hKw.out, f1.out⟩) (fun hHeld => ?_)
   refine tk 0 rfl ?_
   refine tk 2 rfl ?_
   refine tkL 3 rfl (a02 (by rfl) 26 (.tmp 49) rfl w.heap.size 13 rfl _ (fun _ s => s.2.cell 13 _ hc13.out) (fun w s => g02 w _ _ _ s)) ?_
   refine tk 4 rfl ?_
   refine tk 5 rfl ?_
   refine tkL 6 rfl (yieldsIf_load_mid (by rfl) 73 (.tmp 52) rfl g (o + k * 7) rfl (Ha' hage hty hid hadv hseq hsum hlen) _ (fun _ s => s.1.rangeAt hrow.out id) Try.underlying73 rfl f0u) ?_
   obtain ⟨W0, hW0⟩ : ∃ W0, W0 = wr.drew := ⟨_, rfl⟩
   rw [← hW0] at f1 f2 hBk f5 f7 hOn hKw hHeld ⊢
   clear hW0 hb g1 g2 g4 g5 g6 g7 g8 hrow
   refine c06 1 7 rfl rfl (by kernel_rfl) (fun K hK => ?_) (fun K hK => ?_)
   focus
    have hcF := hBk.out.cell 13 (.slice q k d) rfl
    go_simp
    refine hK.out _ _ hHeld (fun hHeld => ?_)
    clear hK K hcF
    try simp only [Act.put, sA, sZ, sS]
    refine sL 7 rfl fun K hK => ?_
    go_simp
    refine (l04 hage hty hseq hlen hid hadv hsum _).mono ?_
    rintro e W0h ⟨rfl, kh⟩
    go_wp2_with fail
    refine hK.out _ _ ⟨hHeld.1.trans kh, hHeld.2.keep kh id⟩ (fun hHeld => ?_)
    clear hK K
    try simp only [Act.put, sA, sZ, sS]
    have f1 := Hi (f1.out.keep kh id); have f2 := Hi (f2.out.keep kh id); have hBk := Hi (hBk.out.keep kh id); have f5 := Hi (f5.out.keep kh (fun _ _ f => f)); have f7 := Hi (f7.out.keep kh (fun _ _ f => f)); have hOn := Hi (hOn.out.keep kh (fun _ _ f => f)); have hKw := Hi (hKw.out.trans kh)
    clear kh
    obtain ⟨W0, hWh⟩ : ∃ Wz, Wz = W0h := ⟨_, rfl⟩
    subst hWh
    refine sL 8 rfl fun K hK => ?_
    rw [if_pos (by rfl)]
    refine h0q 36 69 (.tmp 54) rfl _ rfl _ (fun W => g0e W _ _ _ _ _ _ _) ?_
    refine hK.out _ _ ⟨hHeld.1.alloc _, hHeld.2.alloc _⟩ (fun hHeld => ?_)
    clear hK K
    try simp only [Act.put, sA, sZ, sS]
    have hka : a03 (fun _ => False) W0 (W0.alloc (.cells (Ha hage hty hid hadv hseq hsum hlen) 69)) := (a03.refl _ _).alloc _
    have hnr : Hid ((W0.alloc (.cells (Ha hage hty hid hadv hseq hsum hlen) 69)).rangeAt W0.heap.size 0 (Ha' hage hty hid hadv hseq hsum hlen)) := Hi (a0i W0 _ 69)
    have f1 := Hi (f1.out.keep hka id); have f2 := Hi (f2.out.keep hka id); have hBk := Hi (hBk.out.keep hka id); have f5 := Hi (f5.out.keep hka (fun _ _ f => f)); have f7 := Hi (f7.out.keep hka (fun _ _ f => f)); have hOn := Hi (hOn.out.keep hka (fun _ _ f => f)); have hKw := Hi (hKw.out.trans hka)
    obtain ⟨nb, hnb⟩ : ∃ nb, nb = W0.heap.size := ⟨_, rfl⟩
    obtain ⟨W0, hWs⟩ : ∃ Wz, Wz = W0.alloc (.cells (Ha hage hty hid hadv hseq hsum hlen) 69) := ⟨_, rfl⟩
    rw [← hWs] at f1 f2 hBk f5 f7 hOn hKw hnr hHeld ⊢
    rw [← hnb] at hnr ⊢
    clear hka hnb hWs
    refine sL 9 rfl fun K hK => ?_
   rotate_left 1
   focus
    go_simp
    refine (l04 hage hty hseq hlen hid hadv hsum _).mono ?_
    rintro e W0h ⟨rfl, kh⟩
    go_wp2_with fail
    refine hK.out _ _ ⟨hHeld.1.trans kh, hHeld.2.keep kh id⟩ (fun hHeld => ?_)
    clear hK K
    try simp only [Act.put, sA, sZ, sS]
    have f1 := Hi (f1.out.keep kh id); have f2 := Hi (f2.out.keep kh id); have hBk := Hi (hBk.out.keep kh id); have f5 := Hi (f5.out.keep kh (fun _ _ f => f)); have f7 := Hi (f7.out.keep kh (fun _ _ f => f)); have hOn := Hi (hOn.out.keep kh (fun _ _ f => f)); have hKw := Hi (hKw.out.trans kh)
    clear kh
    obtain ⟨W0, hWh⟩ : ∃ Wz, Wz = W0h := ⟨_, rfl⟩
    subst hWh
    refine c06 1 8 rfl rfl (by kernel_rfl) (fun K hK => ?_) (fun K hK => ?_)
    focus
     have hcF := hBk.out.cell 13 (.slice q k d) rfl
     go_simp
     refine hK.out _ _ hHeld (fun hHeld => ?_)
     clear hK K hcF
     try simp only [Act.put, sA, sZ, sS]
     refine sL 8 rfl fun K hK => ?_
     rw [if_pos (by rfl)]
     refine h0q 36 69 (.tmp 54) rfl _ rfl _ (fun W => g0e W _ _ _ _ _ _ _) ?_
     refine hK.out _ _ ⟨hHeld.1.alloc _, hHeld.2.alloc _⟩ (fun hHeld => ?_)
     clear hK K
     try simp only [Act.put, sA, sZ, sS]
     have hka : a03 (fun _ => False) W0 (W0.alloc (.cells (Ha hage hty hid hadv hseq hsum hlen) 69)) := (a03.refl _ _).alloc _
     have hnr : Hid ((W0.alloc (.cells (Ha hage hty hid hadv hseq hsum hlen) 69)).rangeAt W0.heap.size 0 (Ha' hage hty hid hadv hseq hsum hlen)) := Hi (a0i W0 _ 69)
     have f1 := Hi (f1.out.keep hka id); have f2 := Hi (f2.out.keep hka id); have hBk := Hi (hBk.out.keep hka id); have f5 := Hi (f5.out.keep hka (fun _ _ f => f)); have f7 := Hi (f7.out.keep hka (fun _ _ f => f)); have hOn := Hi (hOn.out.keep hka (fun _ _ f => f)); have hKw := Hi (hKw.out.trans hka)
     obtain ⟨nb, hnb⟩ : ∃ nb, nb = W0.heap.size := ⟨_, rfl⟩
     obtain ⟨W0, hWs⟩ : ∃ Wz, Wz = W0.alloc (.cells (Ha hage hty hid hadv hseq hsum hlen) 69) := ⟨_, rfl⟩
     rw [← hWs] at f1 f2 hBk f5 f7 hOn hKw hnr hHeld ⊢
     rw [← hnb] at hnr ⊢
     clear hka hnb hWs
     refine sL 9 rfl fun K hK => ?_
    rotate_left 1
    focus
     rw [if_pos (by rfl)]
     refine h0q 36 69 (.tmp 54) rfl _ rfl _ (fun W => g0e W _ _ _ _ _ _ _) ?_
     refine hK.out _ _ ⟨hHeld.1.alloc _, hHeld.2.alloc _⟩ (fun hHeld => ?_)
     clear hK K
     try simp only [Act.put, sA, sZ, sS]
     have hka : a03 (fun _ => False) W0 (W0.alloc (.cells (Ha hage hty hid hadv hseq hsum hlen) 69)) := (a03.refl _ _).alloc _
     have hnr : Hid ((W0.alloc (.cells (Ha hage hty hid hadv hseq hsum hlen) 69)).rangeAt W0.heap.size 0 (Ha' hage hty hid hadv hseq hsum hlen)) := Hi (a0i W0 _ 69)
     have f1 := Hi (f1.out.keep hka id); have f2 := Hi (f2.out.keep hka id); have hBk := Hi (hBk.out.keep hka id); have f5 := Hi (f5.out.keep hka (fun _ _ f => f)); have f7 := Hi (f7.out.keep hka (fun _ _ f => f)); have hOn := Hi (hOn.out.keep hka (fun _ _ f => f)); have hKw := Hi (hKw.out.trans hka)
     obtain ⟨nb, hnb⟩ : ∃ nb, nb = W0.heap.size := ⟨_, rfl⟩
     obtain ⟨W0, hWs⟩ : ∃ Wz, Wz = W0.alloc (.cells (Ha hage hty hid hadv hseq hsum hlen) 69) := ⟨_, rfl⟩
     rw [← hWs] at f1 f2 hBk f5 f7 hOn hKw hnr hHeld ⊢
     rw [← hnb] at hnr ⊢
     clear hka hnb hWs
     refine sL 1 rfl fun K hK => ?_
     have hcF := hBk.out.cell 13 (.slice q k d) rfl
     go_simp
     refine hK.out _ _ hHeld (fun hHeld => ?_)
     clear hK K hcF
     try simp only [Act.put, sA, sZ, sS]
     refine sL 9 rfl fun K hK => ?_
   all_goals
    rw [if_pos (by rfl)]
    refine g09 (.tmp 48) (.tmp 55) 36 69 rfl ih (.agg (Ha 0 0 0 0 0 0 0)) 48 Try.underlying36 hih hhz hhsz hhby rfl (by decide) (by decide) b0r w _ k (P.heads.take k) htl'.out rfl hOn.out ⟨nb, 0, none⟩ rfl ⟨hage, hty, hid, hadv, hseq, hsum, hlen⟩ (fun j u hu => by rw [Addr.add_mid]; exact hnr.out j u hu) (fun u hu => f0c _ u hu) (by omega) ?_
    intro q2 d2 w' hO2 hG2
    refine hK.out _ _ ⟨hHeld.1.trans' hG2.k (fun i e => .inr (hOn.out.2.1 i e)), hHeld.2.keep hG2.k (fun e => hOn.out.ne_blk f1.out (by decide) _ e rfl)⟩ (fun hHeld => ?_)
    clear hK K
    try simp only [Act.put, sA, sZ, sS]
    have e1 := Hi (f1.out.keep hG2.k (fun e => hOn.out.ne_blk f1.out (by decide) _ e rfl)); have e2 := Hi (f2.out.keep hG2.k (fun e => hOn.out.ne_blk f2.out (by decide) _ e rfl)); have e4 := Hi (hBk.out.keep hG2.k (fun e => hOn.out.ne_blk hBk.out (by decide) BP e rfl)); have e5 := Hi (f5.out.keep hG2.k (fun i e h => e0a f5.out hOn.out (by decide) i e h)); have e7 := Hi (f7.out.keep hG2.k (fun i e h => e0j f7.out hOn.out (by decide) i e h)); have e8 := Hi (hKw.out.trans' hG2.k (fun i e => .inr (hOn.out.2.1 i e)))
    have hcF := e4.out.cell 13 (.slice q k d) rfl
    have hfF := e4.out.frozen 13
    have hsF : a03 (fun i => i = BP) w' (w'.setCell ⟨BP, 13, none⟩ (.slice q2 (k + 1) d2)) := (a03.refl (fun i => i = BP) w').setCell (p := ⟨BP, 13, none⟩) (.inl rfl) _
    have hO2' := Hi hO2
    clear hO2 hG2 hOn f1 f2 hBk f5 f7 hKw
    refine tk 10 rfl ?_
    refine sL 11 rfl fun K hK => ?_
    go_simp
    refine hK.out _ _ (⟨hHeld.1.trans' hsF (fun i e => .inr (by rw [e]; exact Nat.le_of_lt (by have := g3.out; omega))), hHeld.2.keep hsF (fun e => by have := g3.out; omega)⟩) (fun hHeld => ?_)
    clear hK K
    try simp only [Act.put, sA, sZ, sS]
    refine wpAnyH_done (by kernel_rfl) (NoPanic.normal ?_) _
    clear hcF hfF
    go_wp2_with fail
    refine ⟨⟨k + 1, by omega, by go_num, Hi ⟨q2, d2, qn, qk, dn, dk, ?_, ?_, g3.out, e4.out.put 13 _, ?_, ?_, ?_, ?_⟩⟩, by simp [intOf]; omega⟩
    ·exact e1.out.keep hsF (fun e => by have := g3.out; omega)
    ·exact e2.out.keep hsF (fun e => by have := g3.out; omega)
    ·exact e5.out.keep hsF (fun i e h => (OwnN.ne_blkT e5.out e4.out) i e h)
    ·rw [htk.out]; exact hO2'.out.keep hsF (fun i e h => hO2'.out.ne_blk e4.out (by decide) i e h)
    ·exact e7.out.keep hsF (fun i e h => e7.out.ne_blk e4.out (by decide) i e h)
    ·exact e8.out.trans' hsF (fun i e => .inr (by rw [e]; exact Nat.le_of_lt (by have := g3.out; omega)))
  ·obtain rfl : k = n := by omega
   have hkni : ¬ (k : Int) < k := by omega
   go_wp2_with fail
   first | refine hJ _ _ ?_ ?_ | skip
   ·exact ⟨rfl, rfl, rfl, rfl, rfl⟩
   ·exact ⟨qn, q, qk, dn, d, dk, g1.out, g2.out, g3.out, g4.out, g5.out, g6.out, g7.out, g8.out⟩
set_option maxRecDepth 100000 in
set_option maxHeartbeats 32000000 in
theorem to_k (P : a0m) (pn ph pk pl : Option Addr) (cn ch ck cl : Nat) (cs : List Value) (w : World) (hcs : Hid (cs = a0w P (.slice pn P.nbs.length cn) (.slice ph P.heads.length ch) (.slice pk P.keys.length ck) (.slice pl P.lsas.length cl)))
 (hin : Hid (d0f w P (.slice pn P.nbs.length cn) (.slice ph P.heads.length ch) (.slice pk P.keys.length ck) (.slice pl P.lsas.length cl)))
 (BP nh : Nat) (w1 : World) (T : Array Value) (hA : ToA w BP ⟨T, []⟩) (hD : Hid (ToD w P cs BP nh 0 w1)) (hhl : P.keys.length * 16 ≤ 140737488351232) (Q : Exit → Act → World → Prop) (hJ : ∀ a' w', ToA w BP a' → ToD w P cs BP nh P.keys.length w' → Q .normal a' w') :
 Code.wp Try.prog toK Q ⟨T, []⟩ w1 := by
 obtain ⟨-, hT, e1, e2, e4⟩ := hA
 change gd T 1 = _ at e1; change gd T 2 = _ at e2; change gd T 4 = _ at e4; change T.size = 108 at hT
 rw [h0d hT]
 rw [e1, e2, e4]
 conv => arg 2; whnf
 clear hT e1 e2 e4
 obtain ⟨ik, hik, hkz, hksz, hkby⟩ := info_parts l0b
 obtain ⟨n, hn⟩ : ∃ n, P.keys.length = n := ⟨_, rfl⟩
 have hn' := Hi hn
 have hsrc : Hid (h0p w (.slice pk n ck) P.keys) := Hi (by rw [← hn]; exact hin.out.k)
 have hc14 : Hid (cs[14]? = some (.slice pk n ck)) := Hi (by rw [hcs.out, ← hn]; rfl)
 rw [hn] at hhl hJ
 have hD0 : Hid (∃ qk dk, ∃ qn qh dn dh, a06 w1 w.heap.size 30 cs ∧ a06 w1 (w.heap.size + 1) 40 Zq ∧ w.heap.size + 1 < BP ∧ a06 w1 BP 40 (a0w P (.slice qn P.nbs.length dn) (.slice qh nh dh) (.slice qk 0 dk) (.slice none 0 0)) ∧ OwnN w w1 (.slice qn P.nbs.length dn) P.nbs ∧ OwnR 69 7 b0d w w1 (.slice qh nh dh) (P.heads.take nh) ∧ OwnR 67 3 b0m w w1 (.slice qk 0 dk) (P.keys.take 0) ∧ a03 (fun _ => False) w w1) := Hi (by
  obtain ⟨qn, qh, qk, dn, dh, dk, h⟩ := hD.out
  exact ⟨qk, dk, qn, qh, dn, dh, h⟩)
 clear hD hn
 go_wp2_with fail
 go_loopw [6] (fun iv wr => ∃ (k : Nat), k ≤ n ∧ iv = .int .i64 k ∧ Hid (∃ qk dk, ∃ qn qh dn dh, a06 wr w.heap.size 30 cs ∧ a06 wr (w.heap.size + 1) 40 Zq ∧ w.heap.size + 1 < BP ∧ a06 wr BP 40 (a0w P (.slice qn P.nbs.length dn) (.slice qh nh dh) (.slice qk k dk) (.slice none 0 0)) ∧ OwnN w wr (.slice qn P.nbs.length dn) P.nbs ∧ OwnR 69 7 b0d w wr (.slice qh nh dh) (P.heads.take nh) ∧ OwnR 67 3 b0m w wr (.slice qk k dk) (P.keys.take k) ∧ a03 (fun _ => False) w wr)) (fun iv _ => n - (intOf iv).toNat)
 case atStart => exact ⟨0, Nat.zero_le _, rfl, hD0⟩
 case round =>
  obtain ⟨k, hk, rfl, hrest⟩ := hrel
  obtain ⟨q, d, qn, qh, dn, dh, h1, h2, h3, h4, h5, h6, h7, h8⟩ := hrest.out
  have hb := h1.cell 14 _ hc14.out
  have g1 := Hi h1; have g2 := Hi h2; have g3 := Hi h3; have g4 := Hi h4; have g5 := Hi h5; have g6 := Hi h6; have g7 := Hi h7; have g8 := Hi h8
  clear h1 h2 h3 h4 h5 h6 h7 h8 hrest
  by_cases hkn : k < n
  ·have hkni : (k : Int) < n := by omega
   obtain ⟨g, o, hpe, hrows⟩ := a0s.open hsrc.out (by rw [hn'.out]; omega)
   subst hpe
   obtain ⟨hd, hhd⟩ : ∃ l, P.keys[k]? = some l := ⟨_, List.getElem?_eq_getElem (by rw [hn'.out]; exact hkn)⟩
   have htk : Hid (P.keys.take (k + 1) = P.keys.take k ++ [hd]) := Hi (by
    obtain ⟨hk2, e⟩ := List.getElem?_eq_some_iff.1 hhd
    rw [List.take_succ_eq_append_getElem hk2, e])
   have htl : (P.keys.take k).length = k := by rw [List.length_take, hn'.out]; omega
   obtain ⟨kty, kid, kadv⟩ := hd
   have hrow : Hid (w.rangeAt g (o + k * 3) [.int .i64 kty, .int .u32 kid, .int .u32 kadv]) := Hi (hrows k _ hhd)
   have htl' := Hi htl
   clear hhd hrows htl
   have kd : a03 (fun _ => False) wr wr.drew := (a03.refl _ _).drew
   have f1 := Hi (g1.out.keep kd id); have f2 := Hi (g2.out.keep kd id); have hBk := Hi (g4.out.keep kd id); have f5 := Hi (g5.out.keep kd (fun _ _ f => f)); have f6 := Hi (g6.out.keep kd (fun _ _ f => f)); have hOn := Hi (g7.out.keep kd (fun _ _ f => f)); have hKw := Hi (g8.out.trans kd)
   clear kd
   go_upto_region 10 with fail
   refine wp_region_noPanic ?_
   refine wp_region_held_drew (S := (fun W => a03 (fun _ => False) w W ∧ a06 W w.heap.size 30 cs)) (by kernel_rfl) (⟨hKw.out, f1.out⟩) (fun hHeld => ?_)
   refine tk 0 rfl ?_
   refine tk 2 rfl ?_
   refine tkL 3 rfl (a02 (by rfl) 27 (.tmp 67) rfl w.heap.size 14 rfl _ (fun _ s => s.2.cell 14 _ hc14.out) (fun w s => c0m w _ _ _ s)) ?_
   refine tk 4 rfl ?_
   refine tk 5 rfl ?_
   refine tk 6 rfl ?_
   refine tkL 7 rfl (a02 (by rfl) 3 (.tmp 71) rfl g (o + k * 3) rfl _ (fun _ s => (s.1.rangeAt hrow.out (fun f => f)) 0 (.int .i64 kty) rfl) (fun w s => a0j w _ _ _ s)) ?_
   refine tk 8 rfl ?_
   refine tkL 9 rfl (a02 (by rfl) 27 (.tmp 73) rfl w.heap.size 14 rfl _ (fun _ s => s.2.cell 14 _ hc14.out) (fun w s => c0m w _ _ _ s)) ?_
   refine tk 10 rfl ?_
   refine tk 11 rfl ?_
   refine tk 12 rfl ?_
   refine tkL 13 rfl (a02 (by rfl) 22 (.tmp 77) rfl g (o + k * 3 + 1) rfl _ (fun _ s => (s.1.rangeAt hrow.out (fun f => f)) 1 (.int .u32 kid) rfl) (fun w s => b04 w _ _ _ s)) ?_
   refine tk 14 rfl ?_
   refine tkL 15 rfl (a02 (by rfl) 27 (.tmp 79) rfl w.heap.size 14 rfl _ (fun _ s => s.2.cell 14 _ hc14.out) (fun w s => c0m w _ _ _ s)) ?_
   refine tk 16 rfl ?_
   refine tk 17 rfl ?_
   refine tk 18 rfl ?_
   refine tkL 19 rfl (a02 (by rfl) 22 (.tmp 83) rfl g (o + k * 3 + 2) rfl _ (fun _ s => (s.1.rangeAt hrow.out (fun f => f)) 2 (.int .u32 kadv) rfl) (fun w s => b04 w _ _ _ s)) ?_
   refine tk 20 rfl ?_
   obtain ⟨W0, hW0⟩ : ∃ W0, W0 = wr.drew := ⟨_, rfl⟩
   rw [← hW0] at f1 f2 hBk f5 f6 hOn hKw hHeld ⊢
   clear hW0 hb g1 g2 g4 g5 g6 g7 g8 hrow
   refine c06 1 21 rfl rfl (by kernel_rfl) (fun K hK => ?_) (fun K hK => ?_)
   focus
    have hcF := hBk.out.cell 14 (.slice q k d) rfl
    go_simp
    refine hK.out _ _ hHeld (fun hHeld => ?_)
    clear hK K hcF
    try simp only [Act.put, sA, sZ, sS]
    refine sL 21 rfl fun K hK => ?_
    go_simp
    refine hK.out _ _ (⟨hHeld.1.alloc _, hHeld.2.alloc _⟩) (fun hHeld => ?_)
    clear hK K
    try simp only [Act.put, sA, sZ, sS]
    have hka : a03 (fun _ => False) W0 (W0.alloc (.cells #[.int .i64 kty, .int .u32 kid, .int .u32 kadv] 67)) := (a03.refl _ _).alloc _
    have hnr : Hid ((W0.alloc (.cells #[.int .i64 kty, .int .u32 kid, .int .u32 kadv] 67)).rangeAt W0.heap.size 0 [.int .i64 kty, .int .u32 kid, .int .u32 kadv]) := Hi (a0i W0 _ 67)
    have hBk := Hi (hBk.out.keep hka (fun f => f)); have hOn := Hi (hOn.out.keep hka (fun _ _ f => f)); have hKw := Hi (hKw.out.alloc (.cells #[.int .i64 kty, .int .u32 kid, .int .u32 kadv] 67))
    have f1 := Hi (f1.out.keep hka id); have f2 := Hi (f2.out.keep hka id); have f5 := Hi (f5.out.keep hka (fun _ _ f => f)); have f6 := Hi (f6.out.keep hka (fun _ _ f => f))
    obtain ⟨nb, hnb⟩ : ∃ nb, nb = W0.heap.size := ⟨_, rfl⟩
    obtain ⟨W0, hWs⟩ : ∃ Wz, Wz = W0.alloc (.cells #[.int .i64 kty, .int .u32 kid, .int .u32 kadv] 67) := ⟨_, rfl⟩
    rw [← hWs] at hBk hOn hnr hHeld hKw f1 f2 f5 f6 ⊢
    rw [← hnb] at hnr ⊢
    clear hka hnb hWs
    refine sL 22 rfl fun K hK => ?_
   rotate_left 1
   focus
    go_simp
    refine hK.out _ _ (⟨hHeld.1.alloc _, hHeld.2.alloc _⟩) (fun hHeld => ?_)
    clear hK K
    try simp only [Act.put, sA, sZ, sS]
    have hka : a03 (fun _ => False) W0 (W0.alloc (.cells #[.int .i64 kty, .int .u32 kid, .int .u32 kadv] 67)) := (a03.refl _ _).alloc _
    have hnr : Hid ((W0.alloc (.cells #[.int .i64 kty, .int .u32 kid, .int .u32 kadv] 67)).rangeAt W0.heap.size 0 [.int .i64 kty, .int .u32 kid, .int .u32 kadv]) := Hi (a0i W0 _ 67)
    have hBk := Hi (hBk.out.keep hka (fun f => f)); have hOn := Hi (hOn.out.keep hka (fun _ _ f => f)); have hKw := Hi (hKw.out.alloc (.cells #[.int .i64 kty, .int .u32 kid, .int .u32 kadv] 67))
    have f1 := Hi (f1.out.keep hka id); have f2 := Hi (f2.out.keep hka id); have f5 := Hi (f5.out.keep hka (fun _ _ f => f)); have f6 := Hi (f6.out.keep hka (fun _ _ f => f))
    obtain ⟨nb, hnb⟩ : ∃ nb, nb = W0.heap.size := ⟨_, rfl⟩
    obtain ⟨W0, hWs⟩ : ∃ Wz, Wz = W0.alloc (.cells #[.int .i64 kty, .int .u32 kid, .int .u32 kadv] 67) := ⟨_, rfl⟩
    rw [← hWs] at hBk hOn hnr hHeld hKw f1 f2 f5 f6 ⊢
    rw [← hnb] at hnr ⊢
    clear hka hnb hWs
    refine sL 1 rfl fun K hK => ?_
    have hcF := hBk.out.cell 14 (.slice q k d) rfl
    go_simp
    refine hK.out _ _ hHeld (fun hHeld => ?_)
    clear hK K hcF
    try simp only [Act.put, sA, sZ, sS]
    refine sL 22 rfl fun K hK => ?_
   all_goals
    rw [if_pos (by rfl)]
    refine g09 (.tmp 66) (.tmp 86) 37 67 rfl ik (.agg #[.int .i64 0, .int .u32 0, .int .u32 0]) 16 Try.underlying37 hik hkz hksz hkby rfl (by decide) (by decide) c0f w _ k (P.keys.take k) htl'.out rfl hOn.out ⟨nb, 0, none⟩ rfl ⟨kty, kid, kadv⟩ (fun j u hu => by rw [Addr.add_mid]; exact hnr.out j u hu) (fun u hu => g04 _ u hu) (by omega) ?_
    intro q2 d2 w' hO2 hG2
    refine hK.out _ _ ⟨hHeld.1.trans' hG2.k (fun i e => .inr (hOn.out.2.1 i e)), hHeld.2.keep hG2.k (fun e => hOn.out.ne_blk f1.out (by decide) _ e rfl)⟩ (fun hHeld => ?_)
    clear hK K
    try simp only [Act.put, sA, sZ, sS]
    have e1 := Hi (f1.out.keep hG2.k (fun e => hOn.out.ne_blk f1.out (by decide) _ e rfl)); have e2 := Hi (f2.out.keep hG2.k (fun e => hOn.out.ne_blk f2.out (by decide) _ e rfl)); have e4 := Hi (hBk.out.keep hG2.k (fun e => hOn.out.ne_blk hBk.out (by decide) BP e rfl)); have e5 := Hi (f5.out.keep hG2.k (fun i e h => e0a f5.out hOn.out (by decide) i e h)); have e6 := Hi (f6.out.keep hG2.k (fun i e h => e0j f6.out hOn.out (by decide) i e h)); have e8 := Hi (hKw.out.trans' hG2.k (fun i e => .inr (hOn.out.2.1 i e)))
    have hcF := e4.out.cell 14 (.slice q k d) rfl
    have hfF := e4.out.frozen 14
    have hsF : a03 (fun i => i = BP) w' (w'.setCell ⟨BP, 14, none⟩ (.slice q2 (k + 1) d2)) := (a03.refl (fun i => i = BP) w').setCell (p := ⟨BP, 14, none⟩) (.inl rfl) _
    have hO2' := Hi hO2
    clear hO2 hG2 hOn f1 f2 hBk f5 f6 hKw
    refine tk 23 rfl ?_
    refine sL 24 rfl fun K hK => ?_
    go_simp
    refine hK.out _ _ (⟨hHeld.1.trans' hsF (fun i e => .inr (by rw [e]; exact Nat.le_of_lt (by have := g3.out; omega))), hHeld.2.keep hsF (fun e => by have := g3.out; omega)⟩) (fun hHeld => ?_)
    clear hK K
    try simp only [Act.put, sA, sZ, sS]
    refine wpAnyH_done (by kernel_rfl) (NoPanic.normal ?_) _
    clear hcF hfF
    go_wp2_with fail
    refine ⟨⟨k + 1, by omega, by go_num, Hi ⟨q2, d2, qn, qh, dn, dh, ?_, ?_, g3.out, e4.out.put 14 _, ?_, ?_, ?_, ?_⟩⟩, by simp [intOf]; omega⟩
    ·exact e1.out.keep hsF (fun e => by have := g3.out; omega)
    ·exact e2.out.keep hsF (fun e => by have := g3.out; omega)
    ·exact e5.out.keep hsF (fun i e h => (OwnN.ne_blkT e5.out e4.out) i e h)
    ·exact e6.out.keep hsF (fun i e h => e6.out.ne_blk e4.out (by decide) i e h)
    ·rw [htk.out]; exact hO2'.out.keep hsF (fun i e h => hO2'.out.ne_blk e4.out (by decide) i e h)
    ·exact e8.out.trans' hsF (fun i e => .inr (by rw [e]; exact Nat.le_of_lt (by have := g3.out; omega)))
  ·obtain rfl : k = n := by omega
   have hkni : ¬ (k : Int) < k := by omega
   go_wp2_with fail
   first | refine hJ _ _ ?_ ?_ | skip
   ·exact ⟨rfl, rfl, rfl, rfl, rfl⟩
   ·exact ⟨qn, qh, q, dn, dh, d, g1.out, g2.out, g3.out, g4.out, g5.out, g6.out, g7.out, g8.out⟩
set_option maxRecDepth 100000 in
set_option maxHeartbeats 4000000 in
theorem lwTo_f (age type seq cost : Int) (id adv mask : Nat) (links : List b09) (routers : List Nat) (p5 p7 : Option Addr) (c5 c7 : Nat) (w : World)
 (hl : Hid (b03 w (.slice p5 links.length c5) links)) (hr : Hid (a0x w (.slice p7 routers.length c7) routers)) (hll : links.length * 24 ≤ 140737488351232) (hrl : routers.length * 4 ≤ 140737488351232) :
 Calls Try.prog 23 #[.agg (La age type id adv seq (.slice p5 links.length c5) mask (.slice p7 routers.length c7) cost)] w (fun e w' => (∃ p5 c5 p7 c7, e = .returned (.agg (La age type id adv seq (.slice p5 links.length c5) mask (.slice p7 routers.length c7) cost)) ∧ b03 w' (.slice p5 links.length c5) links ∧ a0x w' (.slice p7 routers.length c7) routers ∧ (∀ i n c, (Value.slice p5 n c).ownBlock = some i → w.heap.size ≤ i) ∧ (∀ i n c, (Value.slice p7 n c).ownBlock = some i → w.heap.size ≤ i)) ∧ a03 (fun _ => False) w w') := by
 have hA : Hid (c02 w.heap.size (La' age type id adv seq (.slice p5 links.length c5) mask (.slice p7 routers.length c7) cost) w ((w.alloc (.cells (La age type id adv seq (.slice p5 links.length c5) mask (.slice p7 routers.length c7) cost) 80)).alloc (.cells Zl 76))) := Hi ((f07 w _ _).next ((a03.refl _ _).alloc _))
 have hL := Hi (hl.out.keep hA.out.k)
 have hR := Hi (hr.out.keep hA.out.k)
 clear hl hr
 go_enter Try.func23, Try.ntmps23
 go_upto_region 1 with fail
 refine wp_region_noPanic ?_
 refine wp_region_held_drew (S := (fun W => a03 (fun _ => False) ((w.alloc (.cells (La age type id adv seq (.slice p5 links.length c5) mask (.slice p7 routers.length c7) cost) 80)).alloc (.cells Zl 76)) W)) (by kernel_rfl) (((a03.refl (fun _ => False) _).drew)) (fun hHeld => ?_)
 refine tk 0 rfl ?_
 refine tkL 1 rfl (a02 (by rfl) 3 (.tmp 5) rfl w.heap.size 0 rfl _ (fun _ s => (hA.out.next s).cell 0 (.int .i64 age) rfl) (fun w s => a0j w _ _ _ s)) ?_
 refine tk 2 rfl ?_
 refine tk 3 rfl ?_
 refine tkL 4 rfl (a02 (by rfl) 3 (.tmp 8) rfl w.heap.size 1 rfl _ (fun _ s => (hA.out.next s).cell 1 (.int .i64 type) rfl) (fun w s => a0j w _ _ _ s)) ?_
 refine tk 5 rfl ?_
 refine tk 6 rfl ?_
 refine tkL 7 rfl (a02 (by rfl) 22 (.tmp 11) rfl w.heap.size 2 rfl _ (fun _ s => (hA.out.next s).cell 2 (.int .u32 id) rfl) (fun w s => b04 w _ _ _ s)) ?_
 refine tk 8 rfl ?_
 refine tk 9 rfl ?_
 refine tkL 10 rfl (a02 (by rfl) 22 (.tmp 14) rfl w.heap.size 3 rfl _ (fun _ s => (hA.out.next s).cell 3 (.int .u32 adv) rfl) (fun w s => b04 w _ _ _ s)) ?_
 refine tk 11 rfl ?_
 refine tk 12 rfl ?_
 refine tkL 13 rfl (a02 (by rfl) 3 (.tmp 17) rfl w.heap.size 4 rfl _ (fun _ s => (hA.out.next s).cell 4 (.int .i64 seq) rfl) (fun w s => a0j w _ _ _ s)) ?_
 refine tk 14 rfl ?_
 refine tkL 15 rfl (a02 (by rfl) 22 (.tmp 19) rfl w.heap.size 6 rfl _ (fun _ s => (hA.out.next s).cell 6 (.int .u32 mask) rfl) (fun w s => b04 w _ _ _ s)) ?_
 refine tk 17 rfl ?_
 refine tkL 18 rfl (a02 (by rfl) 23 (.tmp 22) rfl w.heap.size 7 rfl _ (fun _ s => (hA.out.next s).cell 7 (.slice p7 routers.length c7) rfl) (fun w s => g0s w _ _ _ s)) ?_
 refine tk 20 rfl ?_
 refine tkL 21 rfl (a02 (by rfl) 3 (.tmp 25) rfl w.heap.size 8 rfl _ (fun _ s => (hA.out.next s).cell 8 (.int .i64 cost) rfl) (fun w s => a0j w _ _ _ s)) ?_
 obtain ⟨i0, hi0, hz0, hz1, hz2⟩ := info_parts e07
 refine b0a [21, 24, 27, 3] [16, 19, 22, 23, 24] (fun L f W =>
  (L 16 = true → L 19 = false → OwnN ((w.alloc (.cells (La age type id adv seq (.slice p5 links.length c5) mask (.slice p7 routers.length c7) cost) 80)).alloc (.cells Zl 76)) W (f 21) []) ∧
  (L 19 = true → L 24 = false → L 16 = true ∧ ∃ p c, f 24 = .slice p routers.length c ∧ OwnN ((w.alloc (.cells (La age type id adv seq (.slice p5 links.length c5) mask (.slice p7 routers.length c7) cost) 80)).alloc (.cells Zl 76)) W (.slice p routers.length c) routers) ∧
  (L 22 = true → L 24 = false → L 19 = true ∧ ∀ p c, f 24 = .slice p routers.length c → f 27 = .agg (La age type id adv seq Sn mask (.slice p routers.length c) cost)) ∧
  (L 23 = true → L 24 = false → ∃ B, f 3 = .pointer (some ⟨B, 0, none⟩) ∧ ((w.alloc (.cells (La age type id adv seq (.slice p5 links.length c5) mask (.slice p7 routers.length c7) cost) 80)).alloc (.cells Zl 76)).heap.size ≤ B ∧ a06 W B 76 Zm) ∧
  (L 24 = true → L 16 = true ∧ L 19 = true ∧ L 22 = true ∧ L 23 = true ∧ ∃ B p c, f 3 = .pointer (some ⟨B, 0, none⟩) ∧ ((w.alloc (.cells (La age type id adv seq (.slice p5 links.length c5) mask (.slice p7 routers.length c7) cost) 80)).alloc (.cells Zl 76)).heap.size ≤ B ∧ a06 W B 76 (La' age type id adv seq Sn mask (.slice p routers.length c) cost) ∧ OwnN ((w.alloc (.cells (La age type id adv seq (.slice p5 links.length c5) mask (.slice p7 routers.length c7) cost) 80)).alloc (.cells Zl 76)) W (.slice p routers.length c) routers)) (by kernel_rfl) (by kernel_rfl) (by kernel_rfl) (by kernel_rfl) (Nat.le_of_ble_eq_true (by kernel_rfl)) hHeld
  (fun L f h => ⟨fun e => absurd (h 16 (by decide)) (by rw [e]; decide), fun e => absurd (h 19 (by decide)) (by rw [e]; decide), fun e => absurd (h 22 (by decide)) (by rw [e]; decide), fun e => absurd (h 23 (by decide)) (by rw [e]; decide), fun e => absurd (h 24 (by decide)) (by rw [e]; decide)⟩) ?_ ?_
 ·refine a0p.cons (d := 21) rfl rfl (by decide) ?_ (a0p.cons (d := 24) rfl rfl (by decide) ?_ (a0p.cons (d := 27) rfl rfl (by decide) ?_ (a0p.cons (d := 3) rfl rfl (by decide) ?_ (a0p.cons0 rfl rfl ?_ a0p.nil))))
  ·intro L f W hG hS hL hdep K hK
   simp only [a0q, List.foldl_cons, List.foldl_nil, Act.put, sA, sZ, sS] at hK ⊢
   rw [if_pos (by rfl)]
   go_simp
   have n24 : L 24 = false := by cases h : L 24 with
    | false => rfl
    | true => exact absurd ((hG.2.2.2.2 h).1.symm.trans hL) (by decide)
   have hk' : a03 (fun _ => False) W (W.alloc (.cells #[] 22)) := (a03.refl _ _).alloc _
   refine hK.out _ _ (hS.trans hk') ⟨fun _ _ => OwnN.new _ _ hS.size [] rfl (by unfold maxLen; omega), fun e19 _ => absurd ((hG.2.1 e19 n24).1.symm.trans hL) (by decide), hG.2.2.1, fun e23 _ => ?_, fun e24 => absurd (n24.symm.trans e24) (by decide)⟩
   obtain ⟨B, h1, h2, h3⟩ := hG.2.2.2.1 e23 n24
   exact ⟨B, h1, h2, h3.keep hk' (fun f => f)⟩
  ·intro L f W hG hS hL hdep K hK
   simp only [a0q, List.foldl_cons, List.foldl_nil, Act.put, sA, sZ, sS] at hK ⊢
   rw [if_pos (by rfl)]
   have d16 := hdep ⟨16, .data⟩ (by simp) rfl (by decide)
   have n24 : L 24 = false := by cases h : L 24 with
    | false => rfl
    | true => exact absurd ((hG.2.2.2.2 h).2.1.symm.trans hL) (by decide)
   have ho := hG.1 d16 hL
   refine b0z (.tmp 21) (.tmp 23) 23 rfl i0 Try.underlying23 hi0 hz0 hz1 hz2 ((w.alloc (.cells (La age type id adv seq (.slice p5 links.length c5) mask (.slice p7 routers.length c7) cost) 80)).alloc (.cells Zl 76)) (f 21) 0 [] rfl rfl ho _ rfl routers (hR.out.keep hS) (by omega) ?_
   intro p c w' ho' hg
   rw [Nat.zero_add, List.nil_append] at ho'
   rw [Nat.zero_add]
   refine hK.out _ _ (hS.trans' hg.k (fun i e => .inr (ho.2.1 i e))) ⟨fun _ e => absurd (show true = false from e) (by decide), fun _ _ => ⟨d16, p, c, rfl, ho'⟩, fun e22 _ => absurd ((hG.2.2.1 e22 n24).1.symm.trans hL) (by decide), fun e23 _ => ?_, fun e24 => absurd (n24.symm.trans e24) (by decide)⟩
   obtain ⟨B, h1, h2, h3⟩ := hG.2.2.2.1 e23 n24
   exact ⟨B, h1, h2, h3.keep hg.k (fun e => ho.ne_blk h3 B e rfl)⟩
  ·intro L f W hG hS hL hdep K hK
   have d19 := hdep ⟨19, .data⟩ (by simp) rfl (by decide)
   have n24 : L 24 = false := by cases h : L 24 with
    | false => rfl
    | true => exact absurd ((hG.2.2.2.2 h).2.2.1.symm.trans hL) (by decide)
   obtain ⟨d16, p, c, h24, ho⟩ := hG.2.1 d19 n24
   simp only [a0q, List.foldl_cons, List.foldl_nil, Act.put, sA, sZ, sS] at hK ⊢
   rw [if_pos (by rfl)]
   rw [h24] at hK ⊢
   go_simp
   refine hK.out _ _ hS ⟨hG.1, hG.2.1, fun _ _ => ⟨d19, fun p' c' e => ?_⟩, hG.2.2.2.1, fun e24 => absurd (n24.symm.trans e24) (by decide)⟩
   have e2 := h24.symm.trans e
   injection e2 with e3 e4 e5
   subst e3; subst e5
   rfl
  ·intro L f W hG hS hL hdep K hK
   simp only [a0q, List.foldl_cons, List.foldl_nil, Act.put, sA, sZ, sS] at hK ⊢
   rw [if_pos (by rfl)]
   go_simp
   have n24 : L 24 = false := by cases h : L 24 with
    | false => rfl
    | true => exact absurd ((hG.2.2.2.2 h).2.2.2.1.symm.trans hL) (by decide)
   have hk' : a03 (fun _ => False) W (W.alloc (.cells Zl 76)) := (a03.refl _ _).alloc _
   refine hK.out _ _ (hS.trans hk') ⟨fun e16 e19 => (hG.1 e16 e19).keep hk' (fun _ _ f => f), fun e19 e24 => ?_, hG.2.2.1, fun _ _ => ⟨W.heap.size, rfl, hS.size, a06.new W _ _⟩, fun e24 => absurd (n24.symm.trans e24) (by decide)⟩
   obtain ⟨d16, p, c, h24, ho⟩ := hG.2.1 e19 n24
   exact ⟨d16, p, c, h24, ho.keep hk' (fun _ _ f => f)⟩
  ·intro L f W hG hS hL hdep K hK
   have d22 := hdep ⟨22, .data⟩ (by simp) rfl (by decide)
   have d23 := hdep ⟨23, .data⟩ (by simp) rfl (by decide)
   obtain ⟨d19, h27⟩ := hG.2.2.1 d22 hL
   obtain ⟨d16, p, c, h24, ho⟩ := hG.2.1 d19 hL
   have h27 := h27 p c h24
   obtain ⟨B, h3, hlo, hblk⟩ := hG.2.2.2.1 d23 hL
   simp only [a0q, List.foldl_cons, List.foldl_nil, Act.put, sA, sZ, sS] at hK ⊢
   rw [if_pos (by rfl)]
   refine wp_store_mid 76 (.tmp 3) (.tmp 27) rfl B 0 (La age type id adv seq Sn mask (.slice p routers.length c) cost) h3 h27 (hblk.there 0 9 (Nat.le_refl 9)) b05 (a0y _ _ _ _ _ _ _ _ _ (a04 _ _ _) (a04 _ _ _)) ?_
   have hs9 : a03 (fun i => i = B) W (W.setCells B 0 (La' age type id adv seq Sn mask (.slice p routers.length c) cost)) := a03.setCells (F := fun i => i = B) (.inl rfl) _ _ _ (a03.refl _ _)
   refine hK.out _ (hS.trans' hs9 (fun i e => .inr (by subst e; exact hlo))) ⟨fun _ e => absurd (d19.symm.trans e) (by decide), fun _ e => absurd (show true = false from e) (by decide), fun _ e => absurd (show true = false from e) (by decide), fun _ e => absurd (show true = false from e) (by decide), fun _ => ⟨d16, d19, d22, d23, B, p, c, h3, hlo, ?_, ho.keep hs9 (fun i e h => ho.ne_blk hblk i e h)⟩⟩
   exact (((((((((hblk.put 0 (.int .i64 age)).put 1 (.int .i64 type)).put 2 (.int .u32 id)).put 3 (.int .u32 adv)).put 4 (.int .i64 seq)).put 5 (.slice none 0 0)).put 6 (.int .u32 mask)).put 7 (.slice p routers.length c)).put 8 (.int .i64 cost))
 ·intro f W hG hS
  obtain ⟨-, -, -, -, B, p, c, h3, hlo, hblk, hown⟩ := hG.2.2.2.2 rfl
  simp only [a0q, List.foldl_cons, List.foldl_nil, Act.put, sA, sZ, sS]
  rw [h3]
  generalize f 21 = f21
  generalize f 24 = f24
  generalize f 27 = f27
  obtain ⟨W1, hW1⟩ : ∃ W1, W1 = (w.alloc (.cells (La age type id adv seq (.slice p5 links.length c5) mask (.slice p7 routers.length c7) cost) 80)).alloc (.cells Zl 76) := ⟨_, rfl⟩
  have hRes : Hid (a06 W1 (w.heap.size + 1) 76 Zm) := Hi (by
   have := a06.new (w.alloc (.cells (La age type id adv seq (.slice p5 links.length c5) mask (.slice p7 routers.length c7) cost) 80)) 76 Zm
   rw [hW1]; simpa using this)
  rw [← hW1] at hS hlo hown hA hL hR
  have hS' := Hi hS; have hblk' := Hi hblk; have hown' := Hi hown; have hlo' := Hi hlo
  have hz1 : Hid (OwnL W1 W (.slice none 0 0) []) := Hi (OwnL.nil _ _ hS.size)
  obtain ⟨ii, hii, hiz, hisz, hiby⟩ := info_parts k09
  obtain ⟨n, hn⟩ : ∃ n, links.length = n := ⟨_, rfl⟩
  have hA1 := Hi (show c02 w.heap.size (La' age type id adv seq (.slice p5 n c5) mask (.slice p7 routers.length c7) cost) w W1 by rw [← hn]; exact hA.out)
  have hL1 : Hid (b03 W1 (.slice p5 n c5) links) := Hi (by rw [← hn]; exact hL.out)
  have hn' := Hi hn
  rw [hn] at hll ⊢
  clear hG h3 hS hblk hown hlo f hW1 hA hL hn
  refine NoPanic.normal ?_
  go_wp2_with fail
  go_loopw [4] (fun iv wr => ∃ (k : Nat) (q : Option Addr) (d : Nat), k ≤ n ∧ iv = .int .i64 k ∧ Hid (a06 wr B 76 (La' age type id adv seq (.slice q k d) mask (.slice p routers.length c) cost) ∧ OwnL W1 wr (.slice q k d) (links.take k) ∧ OwnN W1 wr (.slice p routers.length c) routers ∧ a03 (fun _ => False) W1 wr)) (fun iv _ => n - (intOf iv).toNat)
  case atStart => exact ⟨0, none, 0, by omega, rfl, Hi ⟨hblk'.out, hz1.out, hown'.out, hS'.out⟩⟩
  case round =>
   obtain ⟨k, q, d, hk, rfl, hinv⟩ := hrel
   have ha5 := (hA1.out.next hinv.out.2.2.2).cell 5 (.slice p5 n c5) rfl
   by_cases hkn : k < n
   ·have hkni : (k : Int) < n := by omega
    obtain ⟨g5, o5, rfl, hrows⟩ := (show ∃ g o, p5 = some ⟨g, o, none⟩ ∧ ∀ i l, links[i]? = some l → W1.rangeAt g (o + i * 4) (b0i l) from by
     obtain ⟨p', c', e, -, -, hr⟩ := hL1.out
     injection e with e1 e2 e3
     subst e1
     exact hr (by rw [hn'.out]; omega))
    obtain ⟨l, hll2⟩ : ∃ l, links[k]? = some l := ⟨_, List.getElem?_eq_getElem (by rw [hn'.out]; exact hkn)⟩
    have htk : Hid (links.take (k + 1) = links.take k ++ [l]) := Hi (by
     obtain ⟨hk2, e⟩ := List.getElem?_eq_some_iff.1 hll2
     rw [List.take_succ_eq_append_getElem hk2, e])
    have hrow := Hi (hrows k l hll2)
    obtain ⟨lid, ldata, ltype, lcost⟩ := l
    clear hrows hll2
    go_upto_region 5 with fail
    refine wp_region_noPanic ?_
    refine wp_region_held_drew (S := (fun W => a03 (fun _ => False) W1 W)) (by kernel_rfl) (hinv.out.2.2.2.drew) (fun hHeld => ?_)
    refine tk 0 rfl ?_
    refine tk 2 rfl ?_
    refine tkL 3 rfl (a02 (by rfl) 78 (.tmp 37) rfl w.heap.size 5 rfl _ (fun _ s => (hA1.out.next s).cell 5 (.slice (some ⟨g5, o5, none⟩) n c5) rfl) (fun w s => e0s w _ _ _ s)) ?_
    refine tk 4 rfl ?_
    refine tk 5 rfl ?_
    refine tk 6 rfl ?_
    refine tkL 7 rfl (a02 (by rfl) 22 (.tmp 41) rfl g5 (o5 + k * 4) rfl _ (fun _ s => (s.rangeAt hrow.out (fun f => f)) 0 (.int .u32 lid) rfl) (fun w s => b04 w _ _ _ s)) ?_
    refine tk 8 rfl ?_
    refine tkL 9 rfl (a02 (by rfl) 78 (.tmp 43) rfl w.heap.size 5 rfl _ (fun _ s => (hA1.out.next s).cell 5 (.slice (some ⟨g5, o5, none⟩) n c5) rfl) (fun w s => e0s w _ _ _ s)) ?_
    refine tk 10 rfl ?_
    refine tk 11 rfl ?_
    refine tk 12 rfl ?_
    refine tkL 13 rfl (a02 (by rfl) 22 (.tmp 47) rfl g5 (o5 + k * 4 + 1) rfl _ (fun _ s => (s.rangeAt hrow.out (fun f => f)) 1 (.int .u32 ldata) rfl) (fun w s => b04 w _ _ _ s)) ?_
    refine tk 14 rfl ?_
    refine tkL 15 rfl (a02 (by rfl) 78 (.tmp 49) rfl w.heap.size 5 rfl _ (fun _ s => (hA1.out.next s).cell 5 (.slice (some ⟨g5, o5, none⟩) n c5) rfl) (fun w s => e0s w _ _ _ s)) ?_
    refine tk 16 rfl ?_
    refine tk 17 rfl ?_
    refine tk 18 rfl ?_
    refine tkL 19 rfl (a02 (by rfl) 3 (.tmp 53) rfl g5 (o5 + k * 4 + 2) rfl _ (fun _ s => (s.rangeAt hrow.out (fun f => f)) 2 (.int .i64 ltype) rfl) (fun w s => a0j w _ _ _ s)) ?_
    refine tk 20 rfl ?_
    refine tkL 21 rfl (a02 (by rfl) 78 (.tmp 55) rfl w.heap.size 5 rfl _ (fun _ s => (hA1.out.next s).cell 5 (.slice (some ⟨g5, o5, none⟩) n c5) rfl) (fun w s => e0s w _ _ _ s)) ?_
    refine tk 22 rfl ?_
    refine tk 23 rfl ?_
    refine tk 24 rfl ?_
    refine tkL 25 rfl (a02 (by rfl) 3 (.tmp 59) rfl g5 (o5 + k * 4 + 3) rfl _ (fun _ s => (s.rangeAt hrow.out (fun f => f)) 3 (.int .i64 lcost) rfl) (fun w s => a0j w _ _ _ s)) ?_
    refine tk 26 rfl ?_
    refine b0a [36, 62, 63, 64] [1, 27, 28, 29, 30] (fun L f W =>
     (L 30 = false → a06 W B 76 (La' age type id adv seq (.slice q k d) mask (.slice p routers.length c) cost) ∧ OwnN W1 W (.slice p routers.length c) routers) ∧
     (L 28 = false → OwnL W1 W (.slice q k d) (links.take k)) ∧
     (L 1 = true → L 28 = false → f 36 = .slice q k d) ∧
     (L 27 = true → L 28 = false → ∃ nb, f 62 = .slice (some ⟨nb, 0, none⟩) 1 1 ∧ W.rangeAt nb 0 [.int .u32 lid, .int .u32 ldata, .int .i64 ltype, .int .i64 lcost]) ∧
     (L 28 = true → L 1 = true ∧ L 27 = true ∧ (L 30 = false → ∃ q2 d2, f 63 = .slice q2 (k + 1) d2 ∧ OwnL W1 W (.slice q2 (k + 1) d2) (links.take k ++ [⟨lid, ldata, ltype, lcost⟩]))) ∧
     (L 29 = true → L 28 = true ∧ f 64 = .pointer (some ⟨B, 5, none⟩)) ∧
     (L 30 = true → L 1 = true ∧ L 27 = true ∧ L 28 = true ∧ L 29 = true ∧ ∃ q2 d2, a06 W B 76 (La' age type id adv seq (.slice q2 (k + 1) d2) mask (.slice p routers.length c) cost) ∧ OwnL W1 W (.slice q2 (k + 1) d2) (links.take k ++ [⟨lid, ldata, ltype, lcost⟩]) ∧ OwnN W1 W (.slice p routers.length c) routers)) (by kernel_rfl) (by kernel_rfl) (by kernel_rfl) (by kernel_rfl) (Nat.le_of_ble_eq_true (by kernel_rfl)) hHeld
     (fun L f h => ⟨fun _ => ⟨hinv.out.1, hinv.out.2.2.1⟩, fun _ => hinv.out.2.1, fun e => absurd (h 1 (by decide)) (by rw [e]; decide), fun e => absurd (h 27 (by decide)) (by rw [e]; decide), fun e => absurd (h 28 (by decide)) (by rw [e]; decide), fun e => absurd (h 29 (by decide)) (by rw [e]; decide), fun e => absurd (h 30 (by decide)) (by rw [e]; decide)⟩) ?_ ?_
    ·refine a0p.cons (d := 36) rfl rfl (by decide) ?_ (a0p.cons (d := 62) rfl rfl (by decide) ?_ (a0p.cons (d := 63) rfl rfl (by decide) ?_ (a0p.cons (d := 64) rfl rfl (by decide) ?_ (a0p.cons0 rfl rfl ?_ a0p.nil))))
     ·intro L f W hG hS hL hdep K hK
      have n30 : L 30 = false := c0t (fun e => absurd ((hG.2.2.2.2.2.2 e).1.symm.trans hL) (by decide))
      have n28 : L 28 = false := c0t (fun e => absurd ((hG.2.2.2.2.1 e).1.symm.trans hL) (by decide))
      have n29 : L 29 = false := c0t (fun e => absurd ((hG.2.2.2.2.2.1 e).1.symm.trans n28) (by decide))
      have hc5 := (hG.1 n30).1.cell 5 (.slice q k d) rfl
      simp only [a0q, List.foldl_cons, List.foldl_nil, Act.put, sA, sZ, sS] at hK ⊢
      rw [if_pos (by rfl)]
      go_simp
      exact hK.out _ _ hS ⟨hG.1, hG.2.1, fun _ _ => rfl, hG.2.2.2.1, fun e => absurd (n28.symm.trans e) (by decide), fun e => absurd (n29.symm.trans e) (by decide), fun e => absurd (n30.symm.trans e) (by decide)⟩
     ·intro L f W hG hS hL hdep K hK
      have n30 : L 30 = false := c0t (fun e => absurd ((hG.2.2.2.2.2.2 e).2.1.symm.trans hL) (by decide))
      have n28 : L 28 = false := c0t (fun e => absurd ((hG.2.2.2.2.1 e).2.1.symm.trans hL) (by decide))
      have n29 : L 29 = false := c0t (fun e => absurd ((hG.2.2.2.2.2.1 e).1.symm.trans n28) (by decide))
      simp only [a0q, List.foldl_cons, List.foldl_nil, Act.put, sA, sZ, sS] at hK ⊢
      rw [if_pos (by rfl)]
      go_simp
      have hk' : a03 (fun _ => False) W (W.alloc (.cells #[.int .u32 lid, .int .u32 ldata, .int .i64 ltype, .int .i64 lcost] 108)) := (a03.refl _ _).alloc _
      exact hK.out _ _ (hS.trans hk') ⟨fun _ => ⟨(hG.1 n30).1.keep hk' (fun f => f), (hG.1 n30).2.keep hk' (fun _ _ f => f)⟩, fun _ => (hG.2.1 n28).keep hk' (fun _ _ f => f), hG.2.2.1, fun _ _ => ⟨W.heap.size, rfl, a0i W [.int .u32 lid, .int .u32 ldata, .int .i64 ltype, .int .i64 lcost] 108⟩, fun e => absurd (n28.symm.trans e) (by decide), fun e => absurd (n29.symm.trans e) (by decide), fun e => absurd (n30.symm.trans e) (by decide)⟩
     ·intro L f W hG hS hL hdep K hK
      have d1 := hdep ⟨1, .data⟩ (by simp) rfl (by decide)
      have d27 := hdep ⟨27, .data⟩ (by simp) rfl (by decide)
      have n30 : L 30 = false := c0t (fun e => absurd ((hG.2.2.2.2.2.2 e).2.2.1.symm.trans hL) (by decide))
      have n29 : L 29 = false := c0t (fun e => absurd ((hG.2.2.2.2.2.1 e).1.symm.trans hL) (by decide))
      obtain ⟨nb, h62, hnb⟩ := hG.2.2.2.1 d27 hL
      have h36 := hG.2.2.1 d1 hL
      have ho := hG.2.1 hL
      have hb1 := (hG.1 n30).1
      have hb2 := (hG.1 n30).2
      simp only [a0q, List.foldl_cons, List.foldl_nil, Act.put, sA, sZ, sS] at hK ⊢
      rw [if_pos (by rfl)]
      refine m0c (.tmp 36) (.tmp 62) 74 rfl ii Try.underlying74 hii hiz hisz hiby W1 (.slice q k d) k (links.take k) (by rw [List.length_take, hn'.out]; omega) h36 ho ⟨nb, 0, none⟩ h62 ⟨lid, ldata, ltype, lcost⟩ (fun j u hu => by rw [Addr.add_mid]; exact hnb j u hu) (by omega) ?_
      intro q2 d2 w' ho' hg
      refine hK.out _ _ (hS.trans' hg.k (fun i e => .inr (ho.2.1 i e))) ⟨fun _ => ⟨hb1.keep hg.k (fun e => ho.ne_blkL hb1 B e rfl), hb2.keep hg.k (fun i e1 e2 => ho.ne_nums hb2 i e2 e1)⟩, fun e => absurd (show true = false from e) (by decide), fun _ e => absurd (show true = false from e) (by decide), fun _ e => absurd (show true = false from e) (by decide), fun _ => ⟨d1, d27, fun _ => ⟨q2, d2, rfl, ho'⟩⟩, fun e => absurd (n29.symm.trans e) (by decide), fun e => absurd (n30.symm.trans e) (by decide)⟩
     ·intro L f W hG hS hL hdep K hK
      have d28 := hdep ⟨28, .phase⟩ (by simp) rfl (by decide)
      have n30 : L 30 = false := c0t (fun e => absurd ((hG.2.2.2.2.2.2 e).2.2.2.1.symm.trans hL) (by decide))
      simp only [a0q, List.foldl_cons, List.foldl_nil, Act.put, sA, sZ, sS] at hK ⊢
      rw [if_pos (by rfl)]
      go_simp
      exact hK.out _ _ hS ⟨hG.1, hG.2.1, hG.2.2.1, hG.2.2.2.1, hG.2.2.2.2.1, fun _ => ⟨d28, rfl⟩, fun e => absurd (n30.symm.trans e) (by decide)⟩
     ·intro L f W hG hS hL hdep K hK
      have d28 := hdep ⟨28, .data⟩ (by simp) rfl (by decide)
      have d29 := hdep ⟨29, .data⟩ (by simp) rfl (by decide)
      obtain ⟨e1, e27, hx⟩ := hG.2.2.2.2.1 d28
      obtain ⟨q2, d2, h63, ho⟩ := hx hL
      have h64 := (hG.2.2.2.2.2.1 d29).2
      have hb1 := (hG.1 hL).1
      have hb2 := (hG.1 hL).2
      have hc5 := hb1.cell 5 (.slice q k d) rfl
      have hf5 := hb1.frozen 5
      have hs5 : a03 (fun i => i = B) W (W.setCell ⟨B, 5, none⟩ (.slice q2 (k + 1) d2)) := (a03.refl (fun i => i = B) W).setCell (.inl rfl) _
      simp only [a0q, List.foldl_cons, List.foldl_nil, Act.put, sA, sZ, sS] at hK ⊢
      rw [h63, h64] at hK ⊢
      rw [if_pos (by rfl)]
      go_simp
      refine hK.out _ (hS.trans' hs5 (fun i e => .inr (by rw [e]; exact hlo'.out))) ⟨fun e => absurd (show true = false from e) (by decide), fun e => absurd (d28.symm.trans e) (by decide), fun _ e => absurd (d28.symm.trans e) (by decide), fun _ e => absurd (d28.symm.trans e) (by decide), fun _ => ⟨e1, e27, fun e => absurd (show true = false from e) (by decide)⟩, fun _ => ⟨d28, rfl⟩, fun _ => ⟨e1, e27, d28, d29, q2, d2, hb1.put 5 _, ho.keep hs5 (fun i e h => ho.ne_blkL hb1 i e h), hb2.keep hs5 (fun i e h => hb2.ne_blk hb1 i e h)⟩⟩
    ·intro f W hG hS
     obtain ⟨-, -, -, -, q2, d2, hb, hol, hon⟩ := hG.2.2.2.2.2.2 rfl
     simp only [a0q, List.foldl_cons, List.foldl_nil, Act.put, sA, sZ, sS]
     generalize f 36 = f36
     generalize f 62 = f62
     generalize f 63 = f63
     generalize f 64 = f64
     have hnew : Hid (a06 W B 76 (La' age type id adv seq (.slice q2 (k + 1) d2) mask (.slice p routers.length c) cost) ∧ OwnL W1 W (.slice q2 (k + 1) d2) (links.take (k + 1)) ∧ OwnN W1 W (.slice p routers.length c) routers ∧ a03 (fun _ => False) W1 W) := Hi ⟨hb, by rw [htk.out]; exact hol, hon, hS⟩
     clear hG hS hb hol hon hHeld
     refine NoPanic.normal ?_
     go_wp2_with fail
     exact ⟨⟨k + 1, q2, d2, by omega, by go_num, hnew⟩, by simp [intOf]; omega⟩
   ·obtain rfl : k = n := by omega
    have htk : links.take k = links := List.take_of_length_le (by rw [hn'.out]; omega)
    rw [htk] at hinv
    have hRR := Hi (hRes.out.keep hinv.out.2.2.2 (fun f => f))
    have hBB := Hi hinv.out.1
    have hOL := Hi hinv.out.2.1
    have hON := Hi hinv.out.2.2.1
    have hKK := Hi (hA1.out.k.trans hinv.out.2.2.2)
    clear htk hinv hL1 hz1 hblk' hown'
    go_wp2_with (first | ((with_reducible refine a0a 65 ?_); refine wpList_load_mid rfl 76 (.tmp 3) rfl B 0 rfl (La' age type id adv seq (.slice q k d) mask (.slice p routers.length c) cost) _ hBB.out.range Try.underlying76 rfl b05 ?_) | ((with_reducible refine a09 2 ?_); refine a05 rfl 76 (.tmp 2) (.tmp 65) rfl (w.heap.size + 1) (La age type id adv seq (.slice q k d) mask (.slice p routers.length c) cost) rfl rfl (a06.there hRR.out 0 9 (Nat.le_refl 9)) b05 (a0y _ _ _ _ _ _ _ _ _ (a04 _ _ _) (a04 _ _ _)) ?_; intro w9 hr9 hs9))
    have c0 := a01 hr9.out 0 (.int .i64 age) rfl
    have c1 := a01 hr9.out 1 (.int .i64 type) rfl
    have c2 := a01 hr9.out 2 (.int .u32 id) rfl
    have c3 := a01 hr9.out 3 (.int .u32 adv) rfl
    have c4 := a01 hr9.out 4 (.int .i64 seq) rfl
    have c5 := a01 hr9.out 5 (.slice q k d) rfl
    have c6 := a01 hr9.out 6 (.int .u32 mask) rfl
    have c7 := a01 hr9.out 7 (.slice p routers.length c) rfl
    have c8 := a01 hr9.out 8 (.int .i64 cost) rfl
    refine bodyPost_ret (v := .agg (La age type id adv seq (.slice q k d) mask (.slice p routers.length c) cost)) (by simp [results, Try.results23, go_sem, c0, c1, c2, c3, c4, c5, c6, c7, c8]) rfl ?_
    have hfl := (hOL.out.keep hs9.out (fun i e h => hOL.out.ne_blkL hRR.out i e h)).at
    have hfn := (hON.out.keep hs9.out (fun i e h => hON.out.ne_blk hRR.out i e h)).at
    refine ⟨⟨q, d, p, c, ?_, ?_, hfn, fun i n' c' e => Nat.le_trans hA1.out.k.size (hOL.out.2.1 i (b0u e)), fun i n' c' e => Nat.le_trans hA1.out.k.size (hON.out.2.1 i (b0u e))⟩, hKK.out.trans' hs9.out (fun i e => .inr (by rw [e]; omega))⟩
    ·rw [hn'.out]
    ·rw [hn'.out]; exact hfl
end Go.Proofs.Ytmggbljkehclpaa
