/- QE3 QE4 QE5 -/
import Derived.Test.YtmggbljkehclpaaP35
set_option linter.unusedVariables false
set_option linter.unusedSimpArgs false
namespace Go.Proofs.Ytmggbljkehclpaa
open Go.RowKit
set_option maxRecDepth 100000 in
set_option maxHeartbeats 32000000 in
theorem r11Get_3 (g o n c : Nat) (x a : List UInt8) (G : a0m × Int) (BP : Nat) (w w8 : World) (hn' : Hid (x.length = n)) (hn24 : 24 ≤ n) (hn9 : n ≤ 900000) (hcn : n ≤ c) (hal9 : a.length ≤ 9223372036854775807) (kk : Hid (∀ W : World, a03 (fun _ => False) w W → W.rangeAt g o (x.map bv)))
 (hk8 : Hid (a03 (fun _ => False) w w8)) (hR8 : Hid (a06 w8 w.heap.size 30 Zq)) (hRB : Hid (w.heap.size < BP)) (hB8 : Hid (BP < w8.heap.size))
 (ty rt ar : Nat) (S : ByteArray) (y : List UInt8) (P : a0m) (er : Int) (pp : Option Addr) (ny cy : Nat) (hS : Hid (S = ⟨a.toArray⟩)) (lty : ty < 256) (hny9 : ny ≤ 900000) (hnyc : ny ≤ cy) (hyl : Hid (y.length = ny)) (hxy : Hid (x.length = ny + 24)) (hyb : Hid (∀ W, a03 (fun _ => False) w W → a0b W (.slice pp ny cy) y)) (hBP : Hid (a06 w8 BP 30 (Pa' ty rt ar S 0 0 0 0 0 0 Sn 0 0 Sn Sn Sn))) (hPy : Hid (b0p (ty : Int) rt ar a y = (P, er))) (hokP : Hid P.ok) (hGg : Hid (G = if er ≠ 0 then (c08, er) else f0i P x)) (t3 : ty = 3)
 (T : Array Value) (hT : T.size = 306) (e0 : gd T 0 = .slice (some ⟨g, o, none⟩) n c) (e4 : gd T 4 = .pointer (some ⟨w.heap.size, 0, none⟩)) (e9 : gd T 9 = .pointer (some ⟨BP, 0, none⟩)) (e10 : gd T 10 = .slice pp ny cy) (e11 : gd T 11 = .int .i64 0) (e100 : gd T 100 = .int .i64 ty) (K : Act → World → Prop) (hJ : ∀ a' w', MidP g o n c x a G BP w w8 a' w' → K a' w') :
 Code.wp Try.prog n0a (Exit.then K (bodyPost Try.prog Try.f11 (f0g G w))) ⟨T, []⟩ w8 := by
 rw [e0x hT]
 rw [e0, e4, e9, e10, e11, e100]
 conv => arg 2; whnf
 clear hT e0 e4 e9 e10 e11 e100
 have hkx0 : Hid (a03 (fun i => i = BP) w8 w8) := Hi (a03.refl _ _)
 obtain ⟨py, hpy⟩ : ∃ q, q = pp := ⟨_, rfl⟩
 subst hpy
 have d1 : ((ty : Int) == 1) = false := by rw [beq_eq_false_iff_ne]; omega
 have d2 : ((ty : Int) == 2) = false := by rw [beq_eq_false_iff_ne]; omega
 have d3 : ((ty : Int) == 3) = true := by rw [t3]; rfl
 obtain ⟨W3, hW3⟩ : ∃ W3, W3 = w8 := ⟨_, rfl⟩
 have hsz3 : Hid (w.heap.size ≤ W3.heap.size) := Hi (by rw [hW3]; exact hk8.out.size)
 have hk3 : Hid (a03 (fun _ => False) w W3) := Hi (by rw [hW3]; exact hk8.out)
 have hx1 : Hid (a03 (fun i => i = BP) w8 W3) := Hi (by rw [hW3]; exact a03.refl _ _)
 have hinit : Hid (a06 W3 BP 30 (Pa' ty rt ar S 0 0 0 0 0 0 Sn 0 0 Sn Sn Sn) ∧ OwnR 71 3 b0m W3 W3 (.slice none 0 0) (e0h y 0) ∧ a03 (fun i => i = BP) W3 W3) := Hi ⟨by rw [hW3]; exact hBP.out, OwnR.nil _ _ (Nat.le_refl _), a03.refl _ _⟩
 have hR3 : Hid (a06 W3 w.heap.size 30 Zq) := Hi (by rw [hW3]; exact hR8.out)
 rw [← hW3]
 obtain ⟨ik, hik0, hkz, hksz, hkby⟩ := info_parts i0a
 have hgl : Hid (P = b08 ⟨3, rt, ar, a, 0, 0, 0, 0, 0, 0, [], 0, 0, [], e0h y (ny / 12), []⟩ y ny ∧ er = 0) := Hi (by
  have e := hPy.out
  rw [t3, show ((3 : Nat) : Int) = 3 from rfl, hear_3 rt ar a y, hyl.out] at e
  injection e with e1 e2
  exact ⟨e1.symm, e2.symm⟩)
 clear hW3 hBP hR8 hk8
 go_wp2_with fail
 go_loopw [13] (fun iv wr => ∃ (k i : Nat) (q : Option Addr) (d : Nat), i = 12 * k ∧ i ≤ ny ∧ iv = .int .i64 i ∧ Hid (a06 wr BP 30 (Pa' ty rt ar S 0 0 0 0 0 0 Sn 0 0 Sn (.slice q k d) Sn) ∧ OwnR 71 3 b0m W3 wr (.slice q k d) (e0h y k) ∧ a03 (fun i => i = BP) W3 wr)) (fun iv _ => ny - (intOf iv).toNat)
 case atStart => exact ⟨0, 0, none, 0, rfl, Nat.zero_le _, rfl, hinit⟩
 case round =>
  obtain ⟨k, i, q, d, hik, hib, rfl, hinv⟩ := hrel
  by_cases hin : i + 12 ≤ ny
  ·as_aux_lemma =>
   have hini : (i : Int) + 12 ≤ ny := by omega
   obtain ⟨gy, oy, hpy, hry⟩ := e0d hyb.out (by rw [hyl.out]; omega)
   subst hpy
   obtain ⟨n1, hn1⟩ : ∃ n, a0d (sub y i 4) = n := ⟨_, rfl⟩
   obtain ⟨n2, hn2⟩ : ∃ n, a0d (sub y (i + 4) 4) = n := ⟨_, rfl⟩
   obtain ⟨n3, hn3⟩ : ∃ n, a0d (sub y (i + 8) 4) = n := ⟨_, rfl⟩
   have g2 := b0g y (i + 4) 4 (by omega)
   have g3 := b0g y (i + 8) 4 (by omega)
   rw [hn2] at g2; rw [hn3] at g3
   have hn1' := Hi hn1; have hn2' := Hi hn2; have hn3' := Hi hn3
   have hrs : Hid (e0h y (k + 1) = e0h y k ++ [⟨(n1 : Nat), n2, n3⟩]) := Hi (by rw [k0z, ← hn1, ← hn2, ← hn3, hik]; rfl)
   have hik' := Hi hik
   have e1 : (sub y i 4).length ≤ 4 := by rw [a0o (by rw [hyl.out]; omega)]; omega
   have e2 : (sub y (i + 4) 4).length ≤ 4 := by rw [a0o (by rw [hyl.out]; omega)]; omega
   have e3 : (sub y (i + 8) 4).length ≤ 4 := by rw [a0o (by rw [hyl.out]; omega)]; omega
   have y1 : Hid (∀ W, a03 (fun _ => False) w W → Hid (a0b W (.slice (some ⟨gy, oy + i, none⟩) 4 (cy - i)) (sub y i 4))) := Hi (fun W k => Hi (a0c (hry.out W k) (by rw [hyl.out]; omega) i 4 (by rw [hyl.out]; omega)))
   have y2 : Hid (∀ W, a03 (fun _ => False) w W → Hid (a0b W (.slice (some ⟨gy, oy + (i + 4), none⟩) 4 (cy - (i + 4))) (sub y (i + 4) 4))) := Hi (fun W k => Hi (a0c (hry.out W k) (by rw [hyl.out]; omega) (i + 4) 4 (by rw [hyl.out]; omega)))
   have y3 : Hid (∀ W, a03 (fun _ => False) w W → Hid (a0b W (.slice (some ⟨gy, oy + (i + 8), none⟩) 4 (cy - (i + 8))) (sub y (i + 8) 4))) := Hi (fun W k => Hi (a0c (hry.out W k) (by rw [hyl.out]; omega) (i + 8) 4 (by rw [hyl.out]; omega)))
   clear hn1 hn2 hn3 hik
   have f1 : IntKind.i64.wrap ((i : Int) + 4) = (i : Int) + 4 := IntWalk.i64_in _ (by omega)
   have f2 : IntKind.i64.wrap ((i : Int) + 8) = (i : Int) + 8 := IntWalk.i64_in _ (by omega)
   have f4 : IntKind.i64.wrap ((i : Int) + 12) = (i : Int) + 12 := IntWalk.i64_in _ (by omega)
   have a1 : (i : Int) + 4 ≤ cy := by omega
   have a2 : (i : Int) + 8 ≤ cy := by omega
   have a4 : (i : Int) + 12 ≤ cy := by omega
   have z1 : 0 ≤ (i : Int) + 4 := by omega
   have z2 : 0 ≤ (i : Int) + 8 := by omega
   have z4 : 0 ≤ (i : Int) + 12 := by omega
   have m1 : max ((i : Int) + 4) 0 = (i : Int) + 4 := by omega
   have m2 : max ((i : Int) + 8) 0 = (i : Int) + 8 := by omega
   have m4 : max ((i : Int) + 12) 0 = (i : Int) + 12 := by omega
   have u1 : ((i : Int) + 4).toNat = i + 4 := by omega
   have u2 : ((i : Int) + 8).toNat = i + 8 := by omega
   have u4 : ((i : Int) + 12).toNat = i + 12 := by omega
   have v1 : i + 4 - i = 4 := by omega
   have v2 : i + 8 - (i + 4) = 4 := by omega
   have v3 : i + 12 - (i + 8) = 4 := by omega
   have l1 : (i : Int) ≤ (i : Int) + 4 := by omega
   have l2 : (i : Int) + 4 ≤ (i : Int) + 8 := by omega
   have l3 : (i : Int) + 8 ≤ (i : Int) + 12 := by omega
   have c1 : ¬ cy = i := by omega
   have c2 : ¬ cy = i + 4 := by omega
   have c3 : ¬ cy = i + 8 := by omega
   have w2 : IntKind.u32.wrap (n2 : Int) = (n2 : Int) := by rw [c0b]; omega
   have w3 : IntKind.u32.wrap (n3 : Int) = (n3 : Int) := by rw [c0b]; omega
   go_upto_region 38 with fail
   refine wp_region_noPanic ?_
   refine wp_region_held_drew (S := (fun W => a03 (fun _ => False) w W)) (by kernel_rfl) ((hk3.out.trans' hinv.out.2.2 (fun i e => .inr (by rw [e]; exact Nat.le_of_lt hRB.out))).drew) (fun hHeld => ?_)
   refine tk 0 rfl ?_
   refine tk 2 rfl ?_
   refine tk 3 rfl ?_
   refine tk 4 rfl ?_
   refine tk 5 rfl ?_
   refine tk 6 rfl ?_
   refine tk 8 rfl ?_
   refine tk 9 rfl ?_
   refine tk 10 rfl ?_
   refine tk 11 rfl ?_
   refine tk 12 rfl ?_
   refine tk 13 rfl ?_
   refine tk 16 rfl ?_
   refine tk 17 rfl ?_
   refine tk 18 rfl ?_
   refine tk 19 rfl ?_
   refine tk 20 rfl ?_
   refine tk 21 rfl ?_
   have hBk := Hi (hinv.out.1.keep ((a03.refl (fun _ => False) wr).drew) (fun f => f))
   have hOn := Hi (hinv.out.2.1.keep ((a03.refl (fun _ => False) wr).drew) (fun _ _ f => f))
   have hKw := Hi (hinv.out.2.2.drew)
   obtain ⟨W0, hW0⟩ : ∃ W0, W0 = wr.drew := ⟨_, rfl⟩
   rw [← hW0] at hBk hOn hHeld hKw ⊢
   clear hW0 hinv f1 f2 f4 a1 a2 a4 z1 z2 z4 m1 m2 m4 u1 u2 u4 v1 v2 v3 l1 l2 l3 c1 c2 c3
   refine c06 1 7 rfl rfl (by kernel_rfl) (fun K hK => ?_) (fun K hK => ?_)
   focus
    have hcF := hBk.out.cell 14 (.slice q k d) rfl
    go_simp
    refine hK.out _ _ hHeld (fun hHeld => ?_)
    clear hK K hcF
    try simp only [Act.put, sA, sZ, sS]
    refine sL 7 rfl fun K hK => ?_
    go_simp
    refine (b02 _ _ n1 e1 _ (y1.out _ hHeld) hn1').mono ?_
    rintro e Wa ⟨rfl, rfl⟩
    go_wp2_with fail
    refine hK.out _ _ hHeld (fun hHeld => ?_)
    clear hK K
    try simp only [Act.put, sA, sZ, sS]
    refine sL 14 rfl fun K hK => ?_
    go_simp
    refine (b02 _ _ n2 e2 _ (y2.out _ hHeld) hn2').mono ?_
    rintro e Wa ⟨rfl, rfl⟩
    go_wp2_with fail
    refine hK.out _ _ hHeld (fun hHeld => ?_)
    clear hK K
    try simp only [Act.put, sA, sZ, sS]
    refine tk 15 rfl ?_
    refine sL 22 rfl fun K hK => ?_
    go_simp
    refine (b02 _ _ n3 e3 _ (y3.out _ hHeld) hn3').mono ?_
    rintro e Wa ⟨rfl, rfl⟩
    go_wp2_with fail
    refine hK.out _ _ hHeld (fun hHeld => ?_)
    clear hK K
    try simp only [Act.put, sA, sZ, sS]
    refine tk 23 rfl ?_
    refine tk 24 rfl ?_
    refine sL 25 rfl fun K hK => ?_
    go_simp
    refine hK.out _ _ (hHeld.alloc _) (fun hHeld => ?_)
    clear hK K
    try simp only [Act.put, sA, sZ, sS]
    have hka : a03 (fun _ => False) W0 (W0.alloc (.cells #[.int .i64 (n1 : Nat), .int .u32 (n2 : Nat), .int .u32 (n3 : Nat)] 71)) := (a03.refl _ _).alloc _
    have hnr : Hid ((W0.alloc (.cells #[.int .i64 (n1 : Nat), .int .u32 (n2 : Nat), .int .u32 (n3 : Nat)] 71)).rangeAt W0.heap.size 0 [.int .i64 (n1 : Nat), .int .u32 (n2 : Nat), .int .u32 (n3 : Nat)]) := Hi (a0i W0 _ 71)
    have hBk := Hi (hBk.out.keep hka (fun f => f)); have hOn := Hi (hOn.out.keep hka (fun _ _ f => f)); have hKw := Hi (hKw.out.alloc (.cells #[.int .i64 (n1 : Nat), .int .u32 (n2 : Nat), .int .u32 (n3 : Nat)] 71))
    obtain ⟨nb, hnb⟩ : ∃ nb, nb = W0.heap.size := ⟨_, rfl⟩
    obtain ⟨W0, hWs⟩ : ∃ Wz, Wz = W0.alloc (.cells #[.int .i64 (n1 : Nat), .int .u32 (n2 : Nat), .int .u32 (n3 : Nat)] 71) := ⟨_, rfl⟩
    rw [← hWs] at hBk hOn hnr hHeld hKw  ⊢
    rw [← hnb] at hnr ⊢
    clear hka hnb hWs
    refine sL 26 rfl fun K hK => ?_
   rotate_left 1
   focus
    go_simp
    refine (b02 _ _ n1 e1 _ (y1.out _ hHeld) hn1').mono ?_
    rintro e Wa ⟨rfl, rfl⟩
    go_wp2_with fail
    refine hK.out _ _ hHeld (fun hHeld => ?_)
    clear hK K
    try simp only [Act.put, sA, sZ, sS]
    refine c06 1 14 rfl rfl (by kernel_rfl) (fun K hK => ?_) (fun K hK => ?_)
    focus
     have hcF := hBk.out.cell 14 (.slice q k d) rfl
     go_simp
     refine hK.out _ _ hHeld (fun hHeld => ?_)
     clear hK K hcF
     try simp only [Act.put, sA, sZ, sS]
     refine sL 14 rfl fun K hK => ?_
     go_simp
     refine (b02 _ _ n2 e2 _ (y2.out _ hHeld) hn2').mono ?_
     rintro e Wa ⟨rfl, rfl⟩
     go_wp2_with fail
     refine hK.out _ _ hHeld (fun hHeld => ?_)
     clear hK K
     try simp only [Act.put, sA, sZ, sS]
     refine tk 15 rfl ?_
     refine sL 22 rfl fun K hK => ?_
     go_simp
     refine (b02 _ _ n3 e3 _ (y3.out _ hHeld) hn3').mono ?_
     rintro e Wa ⟨rfl, rfl⟩
     go_wp2_with fail
     refine hK.out _ _ hHeld (fun hHeld => ?_)
     clear hK K
     try simp only [Act.put, sA, sZ, sS]
     refine tk 23 rfl ?_
     refine tk 24 rfl ?_
     refine sL 25 rfl fun K hK => ?_
     go_simp
     refine hK.out _ _ (hHeld.alloc _) (fun hHeld => ?_)
     clear hK K
     try simp only [Act.put, sA, sZ, sS]
     have hka : a03 (fun _ => False) W0 (W0.alloc (.cells #[.int .i64 (n1 : Nat), .int .u32 (n2 : Nat), .int .u32 (n3 : Nat)] 71)) := (a03.refl _ _).alloc _
     have hnr : Hid ((W0.alloc (.cells #[.int .i64 (n1 : Nat), .int .u32 (n2 : Nat), .int .u32 (n3 : Nat)] 71)).rangeAt W0.heap.size 0 [.int .i64 (n1 : Nat), .int .u32 (n2 : Nat), .int .u32 (n3 : Nat)]) := Hi (a0i W0 _ 71)
     have hBk := Hi (hBk.out.keep hka (fun f => f)); have hOn := Hi (hOn.out.keep hka (fun _ _ f => f)); have hKw := Hi (hKw.out.alloc (.cells #[.int .i64 (n1 : Nat), .int .u32 (n2 : Nat), .int .u32 (n3 : Nat)] 71))
     obtain ⟨nb, hnb⟩ : ∃ nb, nb = W0.heap.size := ⟨_, rfl⟩
     obtain ⟨W0, hWs⟩ : ∃ Wz, Wz = W0.alloc (.cells #[.int .i64 (n1 : Nat), .int .u32 (n2 : Nat), .int .u32 (n3 : Nat)] 71) := ⟨_, rfl⟩
     rw [← hWs] at hBk hOn hnr hHeld hKw  ⊢
     rw [← hnb] at hnr ⊢
     clear hka hnb hWs
     refine sL 26 rfl fun K hK => ?_
    rotate_left 1
    focus
     go_simp
     refine (b02 _ _ n2 e2 _ (y2.out _ hHeld) hn2').mono ?_
     rintro e Wa ⟨rfl, rfl⟩
     go_wp2_with fail
     refine hK.out _ _ hHeld (fun hHeld => ?_)
     clear hK K
     try simp only [Act.put, sA, sZ, sS]
     refine tk 15 rfl ?_
     refine c06 1 22 rfl rfl (by kernel_rfl) (fun K hK => ?_) (fun K hK => ?_)
     focus
      have hcF := hBk.out.cell 14 (.slice q k d) rfl
      go_simp
      refine hK.out _ _ hHeld (fun hHeld => ?_)
      clear hK K hcF
      try simp only [Act.put, sA, sZ, sS]
      refine sL 22 rfl fun K hK => ?_
      go_simp
      refine (b02 _ _ n3 e3 _ (y3.out _ hHeld) hn3').mono ?_
      rintro e Wa ⟨rfl, rfl⟩
      go_wp2_with fail
      refine hK.out _ _ hHeld (fun hHeld => ?_)
      clear hK K
      try simp only [Act.put, sA, sZ, sS]
      refine tk 23 rfl ?_
      refine tk 24 rfl ?_
      refine sL 25 rfl fun K hK => ?_
      go_simp
      refine hK.out _ _ (hHeld.alloc _) (fun hHeld => ?_)
      clear hK K
      try simp only [Act.put, sA, sZ, sS]
      have hka : a03 (fun _ => False) W0 (W0.alloc (.cells #[.int .i64 (n1 : Nat), .int .u32 (n2 : Nat), .int .u32 (n3 : Nat)] 71)) := (a03.refl _ _).alloc _
      have hnr : Hid ((W0.alloc (.cells #[.int .i64 (n1 : Nat), .int .u32 (n2 : Nat), .int .u32 (n3 : Nat)] 71)).rangeAt W0.heap.size 0 [.int .i64 (n1 : Nat), .int .u32 (n2 : Nat), .int .u32 (n3 : Nat)]) := Hi (a0i W0 _ 71)
      have hBk := Hi (hBk.out.keep hka (fun f => f)); have hOn := Hi (hOn.out.keep hka (fun _ _ f => f)); have hKw := Hi (hKw.out.alloc (.cells #[.int .i64 (n1 : Nat), .int .u32 (n2 : Nat), .int .u32 (n3 : Nat)] 71))
      obtain ⟨nb, hnb⟩ : ∃ nb, nb = W0.heap.size := ⟨_, rfl⟩
      obtain ⟨W0, hWs⟩ : ∃ Wz, Wz = W0.alloc (.cells #[.int .i64 (n1 : Nat), .int .u32 (n2 : Nat), .int .u32 (n3 : Nat)] 71) := ⟨_, rfl⟩
      rw [← hWs] at hBk hOn hnr hHeld hKw  ⊢
      rw [← hnb] at hnr ⊢
      clear hka hnb hWs
      refine sL 26 rfl fun K hK => ?_
     rotate_left 1
     focus
      go_simp
      refine (b02 _ _ n3 e3 _ (y3.out _ hHeld) hn3').mono ?_
      rintro e Wa ⟨rfl, rfl⟩
      go_wp2_with fail
      refine hK.out _ _ hHeld (fun hHeld => ?_)
      clear hK K
      try simp only [Act.put, sA, sZ, sS]
      refine tk 23 rfl ?_
      refine tk 24 rfl ?_
      refine c06 1 25 rfl rfl (by kernel_rfl) (fun K hK => ?_) (fun K hK => ?_)
      focus
       have hcF := hBk.out.cell 14 (.slice q k d) rfl
       go_simp
       refine hK.out _ _ hHeld (fun hHeld => ?_)
       clear hK K hcF
       try simp only [Act.put, sA, sZ, sS]
       refine sL 25 rfl fun K hK => ?_
       go_simp
       refine hK.out _ _ (hHeld.alloc _) (fun hHeld => ?_)
       clear hK K
       try simp only [Act.put, sA, sZ, sS]
       have hka : a03 (fun _ => False) W0 (W0.alloc (.cells #[.int .i64 (n1 : Nat), .int .u32 (n2 : Nat), .int .u32 (n3 : Nat)] 71)) := (a03.refl _ _).alloc _
       have hnr : Hid ((W0.alloc (.cells #[.int .i64 (n1 : Nat), .int .u32 (n2 : Nat), .int .u32 (n3 : Nat)] 71)).rangeAt W0.heap.size 0 [.int .i64 (n1 : Nat), .int .u32 (n2 : Nat), .int .u32 (n3 : Nat)]) := Hi (a0i W0 _ 71)
       have hBk := Hi (hBk.out.keep hka (fun f => f)); have hOn := Hi (hOn.out.keep hka (fun _ _ f => f)); have hKw := Hi (hKw.out.alloc (.cells #[.int .i64 (n1 : Nat), .int .u32 (n2 : Nat), .int .u32 (n3 : Nat)] 71))
       obtain ⟨nb, hnb⟩ : ∃ nb, nb = W0.heap.size := ⟨_, rfl⟩
       obtain ⟨W0, hWs⟩ : ∃ Wz, Wz = W0.alloc (.cells #[.int .i64 (n1 : Nat), .int .u32 (n2 : Nat), .int .u32 (n3 : Nat)] 71) := ⟨_, rfl⟩
       rw [← hWs] at hBk hOn hnr hHeld hKw  ⊢
       rw [← hnb] at hnr ⊢
       clear hka hnb hWs
       refine sL 26 rfl fun K hK => ?_
      rotate_left 1
      focus
       go_simp
       refine hK.out _ _ (hHeld.alloc _) (fun hHeld => ?_)
       clear hK K
       try simp only [Act.put, sA, sZ, sS]
       have hka : a03 (fun _ => False) W0 (W0.alloc (.cells #[.int .i64 (n1 : Nat), .int .u32 (n2 : Nat), .int .u32 (n3 : Nat)] 71)) := (a03.refl _ _).alloc _
       have hnr : Hid ((W0.alloc (.cells #[.int .i64 (n1 : Nat), .int .u32 (n2 : Nat), .int .u32 (n3 : Nat)] 71)).rangeAt W0.heap.size 0 [.int .i64 (n1 : Nat), .int .u32 (n2 : Nat), .int .u32 (n3 : Nat)]) := Hi (a0i W0 _ 71)
       have hBk := Hi (hBk.out.keep hka (fun f => f)); have hOn := Hi (hOn.out.keep hka (fun _ _ f => f)); have hKw := Hi (hKw.out.alloc (.cells #[.int .i64 (n1 : Nat), .int .u32 (n2 : Nat), .int .u32 (n3 : Nat)] 71))
       obtain ⟨nb, hnb⟩ : ∃ nb, nb = W0.heap.size := ⟨_, rfl⟩
       obtain ⟨W0, hWs⟩ : ∃ Wz, Wz = W0.alloc (.cells #[.int .i64 (n1 : Nat), .int .u32 (n2 : Nat), .int .u32 (n3 : Nat)] 71) := ⟨_, rfl⟩
       rw [← hWs] at hBk hOn hnr hHeld hKw  ⊢
       rw [← hnb] at hnr ⊢
       clear hka hnb hWs
       refine sL 1 rfl fun K hK => ?_
       have hcF := hBk.out.cell 14 (.slice q k d) rfl
       go_simp
       refine hK.out _ _ hHeld (fun hHeld => ?_)
       clear hK K hcF
       try simp only [Act.put, sA, sZ, sS]
       refine sL 26 rfl fun K hK => ?_
   all_goals
    rw [if_pos (by rfl)]
    refine c0v (.tmp 180) (.tmp 204) 27 71 rfl ik (.agg #[.int .i64 0, .int .u32 0, .int .u32 0]) 16 Try.underlying27 hik0 hkz hksz hkby rfl (by decide) (by decide) c0f W3 _ k (e0h y k) (f0q _ _) rfl hOn.out ⟨nb, 0, none⟩ rfl ⟨(n1 : Nat), n2, n3⟩ (fun j u hu => by rw [Addr.add_mid]; exact hnr.out j u hu) (fun u hu => g04 _ u hu) (by have := hik'.out; omega) ?_
    intro q2 d2 w' hO2 hG2
    refine hK.out _ _ (hHeld.trans' hG2.k (fun i e => .inr (Nat.le_trans hsz3.out (hOn.out.2.1 i e)))) (fun hHeld => ?_)
    clear hK K
    try simp only [Act.put, sA, sZ, sS]
    have hKw := Hi (hKw.out.trans' hG2.k (fun i e => .inr (hOn.out.2.1 i e)))
    have hBk := Hi (hBk.out.keep hG2.k (fun e => hOn.out.ne_blk hBk.out (by decide) BP e rfl))
    have hcF := hBk.out.cell 14 (.slice q k d) rfl
    have hfF := hBk.out.frozen 14
    have hsF : a03 (fun i => i = BP) w' (w'.setCell ⟨BP, 14, none⟩ (.slice q2 (k + 1) d2)) := (a03.refl (fun i => i = BP) w').setCell (p := ⟨BP, 14, none⟩) (.inl rfl) _
    have hO2' := Hi (hO2.keep hsF (fun i e h => hO2.ne_blk hBk.out (by decide) i e h))
    clear hO2 hG2 hOn
    refine tk 27 rfl ?_
    refine sL 28 rfl fun K hK => ?_
    go_simp
    refine hK.out _ _ ((hHeld.setCell (p := ⟨BP, 14, none⟩) (.inr (Nat.le_of_lt hRB.out)) _)) (fun hHeld => ?_)
    clear hK K
    try simp only [Act.put, sA, sZ, sS]
    refine wpAnyH_done (by kernel_rfl) (NoPanic.normal ?_) _
    clear hcF hfF
    have hnew : Hid (a06 (w'.setCell ⟨BP, 14, none⟩ (.slice q2 (k + 1) d2)) BP 30 (Pa' ty rt ar S 0 0 0 0 0 0 Sn 0 0 Sn (.slice q2 (k + 1) d2) Sn) ∧ OwnR 71 3 b0m W3 (w'.setCell ⟨BP, 14, none⟩ (.slice q2 (k + 1) d2)) (.slice q2 (k + 1) d2) (e0h y (k + 1)) ∧ a03 (fun i => i = BP) W3 (w'.setCell ⟨BP, 14, none⟩ (.slice q2 (k + 1) d2))) := Hi ⟨hBk.out.put 14 _, by rw [hrs.out]; exact hO2'.out, hKw.out.trans hsF⟩
    clear hBk hO2' hHeld hKw hsF
    go_wp2_with fail
    have hik2 := hik'.out
    exact ⟨⟨k + 1, i + 12, q2, d2, by omega, by omega, by go_num, hnew⟩, by simp [intOf]; omega⟩
  ·as_aux_lemma =>
   have hkm : ny / 12 = k := by omega
   have hkb : k ≤ 1000000 := by omega
   obtain ⟨rs, hrs⟩ : ∃ rs, e0h y k = rs := ⟨_, rfl⟩
   have hrl : rs.length = k := by rw [← hrs, f0q]
   have hfin : Hid (P = b08 ⟨3, rt, ar, a, 0, 0, 0, 0, 0, 0, [], 0, 0, [], rs, []⟩ y ny ∧ er = 0) := Hi (by
    refine ⟨?_, hgl.out.2⟩
    rw [hgl.out.1, hkm, hrs])
   rw [hrs] at hinv
   clear hgl hrs hkm
   subst hrl
   have hinv' := hinv
   have hini : ¬ (i : Int) + 12 ≤ ny := by omega
   have f1 : IntKind.i64.wrap ((i : Int) + 12) = (i : Int) + 12 := IntWalk.i64_in _ (by omega)
   clear hinv hik hin
   have hkx1 := Hi (hx1.out.trans hinv'.out.2.2)
   have hsx : Hid (w8.heap.size ≤ W3.heap.size) := Hi hx1.out.size
   go_wp2_with fail
   first | refine hJ _ _ ?_ | skip
   unfold MidP
   refine ⟨rfl, rfl, rfl, rfl, rfl, ⟨3, rt, ar, a, 0, 0, 0, 0, 0, 0, [], 0, 0, [], rs, []⟩, y, ny, none, q, none, 0, d, 0, py, ny, cy, rfl, rfl, by omega, (Nat.le_refl _), by omega, hyl, hyb, Hi ?_, Hi ?_, hkx1, Hi ?_, Hi ?_, Hi rfl⟩
   ·have h1 := hinv'.out.1
    rw [t3, hS.out] at h1
    exact h1
   ·exact ⟨a0x.nil _, hinv'.out.2.1.at c0f, e05.nil _ _, c01.nil _, fun i n c e => Nat.le_trans hsx.out (hinv'.out.2.1.2.1 i (b0u e))⟩
   ·rw [hGg.out, hfin.out.2, if_neg (by simp), ← hfin.out.1]
   ·rw [← hfin.out.1]; exact hokP.out
set_option maxRecDepth 100000 in
set_option maxHeartbeats 32000000 in
theorem r11Get_4 (g o n c : Nat) (x a : List UInt8) (G : a0m × Int) (BP : Nat) (w w8 : World) (hn' : Hid (x.length = n)) (hn24 : 24 ≤ n) (hn9 : n ≤ 900000) (hcn : n ≤ c) (hal9 : a.length ≤ 9223372036854775807) (kk : Hid (∀ W : World, a03 (fun _ => False) w W → W.rangeAt g o (x.map bv)))
 (hk8 : Hid (a03 (fun _ => False) w w8)) (hR8 : Hid (a06 w8 w.heap.size 30 Zq)) (hRB : Hid (w.heap.size < BP)) (hB8 : Hid (BP < w8.heap.size))
 (ty rt ar : Nat) (S : ByteArray) (y : List UInt8) (P : a0m) (er : Int) (pp : Option Addr) (ny cy : Nat) (hS : Hid (S = ⟨a.toArray⟩)) (lty : ty < 256) (hny9 : ny ≤ 900000) (hnyc : ny ≤ cy) (hyl : Hid (y.length = ny)) (hxy : Hid (x.length = ny + 24)) (hyb : Hid (∀ W, a03 (fun _ => False) w W → a0b W (.slice pp ny cy) y)) (hBP : Hid (a06 w8 BP 30 (Pa' ty rt ar S 0 0 0 0 0 0 Sn 0 0 Sn Sn Sn))) (hPy : Hid (b0p (ty : Int) rt ar a y = (P, er))) (hokP : Hid P.ok) (hGg : Hid (G = if er ≠ 0 then (c08, er) else f0i P x)) (t4 : ty = 4)
 (T : Array Value) (hT : T.size = 306) (e0 : gd T 0 = .slice (some ⟨g, o, none⟩) n c) (e4 : gd T 4 = .pointer (some ⟨w.heap.size, 0, none⟩)) (e9 : gd T 9 = .pointer (some ⟨BP, 0, none⟩)) (e10 : gd T 10 = .slice pp ny cy) (e11 : gd T 11 = .int .i64 0) (e100 : gd T 100 = .int .i64 ty) (K : Act → World → Prop) (hJ : ∀ a' w', MidP g o n c x a G BP w w8 a' w' → K a' w') :
 Code.wp Try.prog n0a (Exit.then K (bodyPost Try.prog Try.f11 (f0g G w))) ⟨T, []⟩ w8 := by
 rw [e0x hT]
 rw [e0, e4, e9, e10, e11, e100]
 conv => arg 2; whnf
 clear hT e0 e4 e9 e10 e11 e100
 have hkx0 : Hid (a03 (fun i => i = BP) w8 w8) := Hi (a03.refl _ _)
 obtain ⟨py, hpy⟩ : ∃ q, q = pp := ⟨_, rfl⟩
 subst hpy
 have d1 : ((ty : Int) == 1) = false := by rw [beq_eq_false_iff_ne]; omega
 have d2 : ((ty : Int) == 2) = false := by rw [beq_eq_false_iff_ne]; omega
 have d3 : ((ty : Int) == 3) = false := by rw [beq_eq_false_iff_ne]; omega
 have d4 : ((ty : Int) == 4) = true := by rw [t4]; rfl
 have her : Hid (er = (d02 y).2 ∧ ∀ z : List UInt8, P = b08 ⟨4, rt, ar, a, 0, 0, 0, 0, 0, 0, [], 0, 0, [], [], (d02 y).1⟩ z z.length) := Hi (by
  have e := hPy.out
  rw [t4, show ((4 : Nat) : Int) = 4 from rfl] at e
  refine ⟨?_, fun z => ?_⟩
  ·rw [hear_4 rt ar a y []] at e
   injection e with e1 e2
   exact e2.symm
  ·rw [hear_4 rt ar a y z] at e
   injection e with e1 e2
   exact e1.symm)
 by_cases h4 : ny < 4
 ·have hg : Hid (G = (c08, 3)) := Hi (by
   have e : (d02 y).2 = 3 := by unfold d02; rw [if_pos (.inl (by rw [hyl.out]; exact h4))]
   rw [hGg.out, her.out.1, e, if_pos (by decide)])
  have i4 : (ny : Int) < 4 := by omega
  go_wp2_with ((with_reducible refine a09 4 ?_); go_must (refine a05 rfl 30 (.tmp 4) (.tmp 214) rfl w.heap.size Zp rfl rfl (a06.there hR8.out 0 16 (Nat.le_refl 16)) a0r (a0u _ _ _ _ _ _ _ _ _ _ _ _ _ _ _ _ (a04 _ _ _) (a04 _ _ _) (a04 _ _ _) (a04 _ _ _)) ?_; intro w9 hr9 hs9))
  refine bodyPost_ret (v := .tuple #[.agg Zp, .int .i64 3]) (a0g Try.results11 _ _ w.heap.size Zq _ rfl hr9.out Try.underlying30 rfl a0r) rfl ⟨⟨_, by rw [hg.out], by rw [hg.out]; exact b0k.zero _ _⟩, hk8.out.trans' hs9.out (fun i e => .inr (by omega))⟩
 ·have i4 : ¬ (ny : Int) < 4 := by omega
  obtain ⟨gy, oy, hpy, hry⟩ := e0d hyb.out (by rw [hyl.out]; omega)
  subst hpy
  obtain ⟨n0, hn0⟩ : ∃ m, a0d (sub y 0 4) = m := ⟨_, rfl⟩
  have hn0' := Hi hn0
  have l0 : n0 < 4294967296 := by rw [← hn0]; exact b0g y 0 4 (by omega)
  have s0 : (sub y 0 4).length ≤ 4 := by rw [a0o (by rw [hyl.out]; omega)]; omega
  have y0b : Hid (a0b w8 (.slice (some ⟨gy, oy, none⟩) 4 cy) (sub y 0 4)) := Hi (by have := a0c (hry.out w8 hk8.out) (by rw [hyl.out]; omega : y.length ≤ cy) 0 4 (by rw [hyl.out]; omega); rwa [Nat.add_zero, Nat.sub_zero] at this)
  have q4 : (4 : Int) ≤ cy := by omega
  have q4n : (4 : Int) ≤ ny := by omega
  obtain ⟨pp0, hpp0⟩ : ∃ pp, (if cy = 4 then some (⟨gy, oy, none⟩ : Addr) else some ⟨gy, oy + 4, none⟩) = pp := ⟨_, rfl⟩
  have kt : Hid (∀ W, a03 (fun _ => False) w W → a0b W (.slice pp0 (ny - 4) (cy - 4)) (y.drop 4)) := Hi (fun W k => by
   have := b01 (hry.out W k) (by rw [hyl.out]; omega : y.length ≤ cy) 4 (by rw [hyl.out]; omega)
   rw [hpp0, hyl.out] at this; exact this)
  have hpp0' := Hi hpp0
  clear hpp0 hn0
  go_wp2_with fail
  refine (b02 _ _ n0 s0 _ y0b hn0').mono ?_
  rintro e w' ⟨rfl, rfl⟩
  by_cases h20 : 20 < n0
  ·have hg : Hid (G = (c08, 3)) := Hi (by
    have e : (d02 y).2 = 3 := by unfold d02; rw [if_pos (.inr (by rw [hn0'.out]; exact h20))]
    rw [hGg.out, her.out.1, e, if_pos (by decide)])
   have i20 : (20 : Int) < n0 := by omega
   go_upto_region 45 with fail
   rw [hpp0'.out]
   go_wp2_with ((with_reducible refine a09 4 ?_); go_must (refine a05 rfl 30 (.tmp 4) (.tmp 222) rfl w.heap.size Zp rfl rfl (a06.there hR8.out 0 16 (Nat.le_refl 16)) a0r (a0u _ _ _ _ _ _ _ _ _ _ _ _ _ _ _ _ (a04 _ _ _) (a04 _ _ _) (a04 _ _ _) (a04 _ _ _)) ?_; intro w9 hr9 hs9))
   refine bodyPost_ret (v := .tuple #[.agg Zp, .int .i64 3]) (a0g Try.results11 _ _ w.heap.size Zq _ rfl hr9.out Try.underlying30 rfl a0r) rfl ⟨⟨_, by rw [hg.out], by rw [hg.out]; exact b0k.zero _ _⟩, hk8.out.trans' hs9.out (fun i e => .inr (by omega))⟩
  have i20 : ¬ (20 : Int) < n0 := by omega
  obtain ⟨E, hE⟩ : ∃ E, d0w n0 (y.drop 4) = E := ⟨_, rfl⟩
  have hEq : Hid (d02 y = E) := Hi (by unfold d02; rw [if_neg (by rw [hyl.out, hn0'.out]; omega), hn0'.out, hE])
  have hE' := Hi hE
  have hRl : Hid ((y.drop 4).length = ny - 4) := Hi (by rw [List.length_drop, hyl.out])
  obtain ⟨W3, hW3⟩ : ∃ W3, W3 = w8 := ⟨_, rfl⟩
  have hsz3 : Hid (w.heap.size ≤ W3.heap.size) := Hi (by rw [hW3]; exact hk8.out.size)
  have hk3 : Hid (a03 (fun _ => False) w W3) := Hi (by rw [hW3]; exact hk8.out)
  have hx1 : Hid (a03 (fun i => i = BP) w8 W3) := Hi (by rw [hW3]; exact a03.refl _ _)
  have hB3 : Hid (a06 W3 BP 30 (Pa' ty rt ar S 0 0 0 0 0 0 Sn 0 0 Sn Sn Sn)) := Hi (by rw [hW3]; exact hBP.out)
  have hR3 : Hid (a06 W3 w.heap.size 30 Zq) := Hi (by rw [hW3]; exact hR8.out)
  have hBW : Hid (BP < W3.heap.size) := Hi (lt_of_block hB3.out)
  rw [← hW3]
  obtain ⟨il, hil, hlz, hlsz, hlby⟩ := info_parts i09
  clear hW3 hBP hR8 hk8 y0b s0 hE q4
  go_upto_region 45 with fail
  rw [hpp0'.out]
  go_wp2_with fail
  go_loopw [10, 15] (fun rv iv wr => ∃ (k : Nat) (R : List UInt8) (pp : Option Addr) (N cc : Nat), k ≤ n0 ∧ iv = .int .i64 k ∧ rv = .slice pp N cc ∧ N ≤ 900000 ∧ N ≤ cc ∧ Hid (R.length = N) ∧ Hid (∀ W, a03 (fun _ => False) w W → a0b W (.slice pp N cc) R) ∧ Hid (∃ ms q d, ms.length = k ∧ a06 wr BP 30 (Pa' ty rt ar S 0 0 0 0 0 0 Sn 0 0 Sn Sn (.slice q k d)) ∧ h0h W3 wr (.slice q k d) ms ∧ a03 (fun i => i = BP) W3 wr ∧ comb (ms.map (·.d)) (d0w (n0 - k) R) = E)) (fun _ iv _ => n0 - (intOf iv).toNat)
  case atStart =>
   refine ⟨0, y.drop 4, pp0, ny - 4, cy - 4, by omega, rfl, rfl, by omega, by omega, hRl, kt, Hi ⟨[], none, 0, rfl, hB3.out, h0h.nil _ _ (Nat.le_refl _), a03.refl _ _, ?_⟩⟩
   rw [← hE'.out, Nat.sub_zero]
   exact p0a n0 _
  case round =>
   obtain ⟨k, R, pp, N, cc, hk, rfl, rfl, hN, hNc, hRN, hRb, hrest⟩ := hrel
   obtain ⟨ms, q, d, hml, hBk, hinv, hkw, hcomb⟩ := hrest.out
   have hml' := Hi hml; have hinv' := Hi hinv; have hkw' := Hi hkw; have hcomb' := Hi hcomb; have hBk' := Hi hBk
   clear hml hinv hkw hcomb hrest hBk
   have hkr := Hi (hk3.out.trans' hkw'.out (fun i e => .inr (by rw [e]; exact Nat.le_of_lt hRB.out)))
   have hRr := Hi (hR3.out.keep hkw'.out (fun e => by have := hRB.out; omega))
   by_cases hkn : k < n0
   ·as_aux_lemma =>
    have hkni : (k : Int) < n0 := by omega
    obtain ⟨m0, hm0⟩ : ∃ m, n0 - k = m + 1 := ⟨n0 - k - 1, by omega⟩
    have hm1 : n0 - (k + 1) = m0 := by omega
    have hm0' := Hi hm0; have hm1' := Hi hm1
    clear hm0 hm1
    by_cases h20 : N < 20
    ·have hg : Hid (G = (c08, 3)) := Hi (by
      have e : E = ([], 3) := by rw [← hcomb'.out, hm0'.out, e08 m0 R (.inl (by rw [hRN.out]; exact h20))]; exact f0e _ _ (by decide)
      rw [hGg.out, her.out.1, hEq.out, e, if_pos (by decide)])
     have j20 : (N : Int) < 20 := by omega
     clear h20 hkn
     go_wp2_with ((with_reducible refine a09 4 ?_); go_must (refine a05 rfl 30 (.tmp 4) (.tmp 245) rfl w.heap.size Zp rfl rfl (a06.there hRr.out 0 16 (Nat.le_refl 16)) a0r (a0u _ _ _ _ _ _ _ _ _ _ _ _ _ _ _ _ (a04 _ _ _) (a04 _ _ _) (a04 _ _ _) (a04 _ _ _)) ?_; intro w9 hr9 hs9))
     refine bodyPost_ret (v := .tuple #[.agg Zp, .int .i64 3]) (a0g Try.results11 _ _ w.heap.size Zq _ rfl hr9.out Try.underlying30 rfl a0r) rfl ⟨⟨_, by rw [hg.out], by rw [hg.out]; exact b0k.zero _ _⟩, hkr.out.trans' hs9.out (fun i e => .inr (by omega))⟩
    ·have j20 : ¬ (N : Int) < 20 := by omega
     obtain ⟨g2, o2, hpp, hry2⟩ := e0d hRb.out (by rw [hRN.out]; omega)
     subst hpp
     obtain ⟨lv, hlv⟩ : ∃ m, a0d (sub R 18 2) = m := ⟨_, rfl⟩
     have hlv' := Hi hlv
     have llv : lv < 65536 := by rw [← hlv]; exact q0s R 18
     have s18 : (sub R 18 2).length ≤ 4 := by rw [a0o (by rw [hRN.out]; omega)]; omega
     have y18 : Hid (a0b wr (.slice (some ⟨g2, o2 + 18, none⟩) 2 (cc - 18)) (sub R 18 2)) := Hi (a0c (hry2.out wr hkr.out) (by rw [hRN.out]; omega) 18 2 (by rw [hRN.out]; omega))
     have q20 : (20 : Int) ≤ cc := by omega
     have n18 : ¬ cc = 18 := by omega
     have hlen : Hid ((a0f R).len = (lv : Nat)) := Hi (by rw [← hlv]; rfl)
     clear hlv
     go_wp2_with fail
     refine (b02 _ _ lv s18 _ y18 hlv').mono ?_
     rintro e w' ⟨rfl, rfl⟩
     by_cases hl1 : lv < 20
     ·have hg : Hid (G = (c08, 3)) := Hi (by
       have e : E = ([], 3) := by rw [← hcomb'.out, hm0'.out, e08 m0 R (.inr (.inl (by rw [hlen.out]; omega)))]; exact f0e _ _ (by decide)
       rw [hGg.out, her.out.1, hEq.out, e, if_pos (by decide)])
      have j1 : (lv : Int) < 20 := by omega
      clear hl1 hkn
      go_wp2_with ((with_reducible refine a09 4 ?_); go_must (refine a05 rfl 30 (.tmp 4) (.tmp 245) rfl w.heap.size Zp rfl rfl (a06.there hRr.out 0 16 (Nat.le_refl 16)) a0r (a0u _ _ _ _ _ _ _ _ _ _ _ _ _ _ _ _ (a04 _ _ _) (a04 _ _ _) (a04 _ _ _) (a04 _ _ _)) ?_; intro w9 hr9 hs9))
      refine bodyPost_ret (v := .tuple #[.agg Zp, .int .i64 3]) (a0g Try.results11 _ _ w.heap.size Zq _ rfl hr9.out Try.underlying30 rfl a0r) rfl ⟨⟨_, by rw [hg.out], by rw [hg.out]; exact b0k.zero _ _⟩, hkr.out.trans' hs9.out (fun i e => .inr (by omega))⟩
     ·have j1 : ¬ (lv : Int) < 20 := by omega
      go_wp2_with fail
      refine (b02 _ _ lv s18 _ y18 hlv').mono ?_
      rintro e w' ⟨rfl, rfl⟩
      by_cases hl2 : N < lv
      ·have hg : Hid (G = (c08, 3)) := Hi (by
        have e : E = ([], 3) := by rw [← hcomb'.out, hm0'.out, e08 m0 R (.inr (.inr (by rw [hlen.out, hRN.out]; omega)))]; exact f0e _ _ (by decide)
        rw [hGg.out, her.out.1, hEq.out, e, if_pos (by decide)])
       have j2 : (N : Int) < lv := by omega
       clear hl2 hkn
       go_wp2_with ((with_reducible refine a09 4 ?_); go_must (refine a05 rfl 30 (.tmp 4) (.tmp 245) rfl w.heap.size Zp rfl rfl (a06.there hRr.out 0 16 (Nat.le_refl 16)) a0r (a0u _ _ _ _ _ _ _ _ _ _ _ _ _ _ _ _ (a04 _ _ _) (a04 _ _ _) (a04 _ _ _) (a04 _ _ _)) ?_; intro w9 hr9 hs9))
       refine bodyPost_ret (v := .tuple #[.agg Zp, .int .i64 3]) (a0g Try.results11 _ _ w.heap.size Zq _ rfl hr9.out Try.underlying30 rfl a0r) rfl ⟨⟨_, by rw [hg.out], by rw [hg.out]; exact b0k.zero _ _⟩, hkr.out.trans' hs9.out (fun i e => .inr (by omega))⟩
      ·have j2 : ¬ (N : Int) < lv := by omega
       have hLt : Hid ((a0f R).len.toNat = lv) := Hi (by rw [hlen.out]; simp)
       have hngood : Hid (¬ (R.length < 20 ∨ (a0f R).len < 20 ∨ (R.length : Int) < (a0f R).len)) := Hi (by rw [hlen.out, hRN.out]; omega)
       cases hgl : getL (R.take lv) with
       | mk mm e0 =>
       have hgl' := Hi hgl
       have hbt := Hi (h0b (hry2.out wr hkr.out) (by rw [hRN.out]; omega : R.length ≤ cc) lv (by rw [hRN.out]; omega))
       have hi1 : (lv : Int) ≤ cc := by omega
       have hiL : (0 : Int) ≤ lv := by omega
       have htl : (R.take lv).length ≤ 1000000 := by rw [List.length_take, hRN.out]; omega
       clear hgl hl1
       go_wp2_with fail
       refine (b02 _ _ lv s18 _ y18 hlv').mono ?_
       rintro e w' ⟨rfl, rfl⟩
       clear y18
       go_wp2_with fail
       refine (q0x _ (R.take lv) mm e0 htl _ hbt hgl').mono ?_
       rintro e w4 ⟨⟨v, rfl, p5, c5, p7, c7, rfl, q1, q2, f5, f7⟩, k4⟩
       have hk4 := Hi (hkr.out.trans k4)
       have hR4 := Hi (hRr.out.keep k4 id)
       by_cases he : e0 = 0
       rotate_left
       ·have hb0 : (e0 != 0) = true := by simp [he]
        have hg : Hid (G = (c08, e0)) := Hi (by
         have e : E = ([], e0) := by rw [← hcomb'.out, hm0'.out, m0s m0 R hngood.out mm e0 (by rw [hLt.out]; exact hgl'.out) he]; exact f0e _ _ he
         rw [hGg.out, her.out.1, hEq.out, e, if_pos he])
        have hka : Hid (a03 (fun _ => False) w (w4.alloc (.cells (La mm.age mm.type mm.id mm.adv mm.seq (.slice p5 mm.links.length c5) mm.mask (.slice p7 mm.routers.length c7) mm.cost) 80))) := Hi (hk4.out.alloc _)
        have hRa : Hid (a06 (w4.alloc (.cells (La mm.age mm.type mm.id mm.adv mm.seq (.slice p5 mm.links.length c5) mm.mask (.slice p7 mm.routers.length c7) mm.cost) 80)) w.heap.size 30 Zq) := Hi (hR4.out.keep ((a03.refl (fun _ => False) _).alloc _) id)
        clear q1 q2 f5 f7 k4 he hgl' hcomb' hbt hkn
        go_upto_region 54 with ((with_reducible refine a09 17 ?_); refine a07 rfl 80 (.tmp 17) (.tmp 254) rfl _ (La mm.age mm.type mm.id mm.adv mm.seq (.slice p5 mm.links.length c5) mm.mask (.slice p7 mm.routers.length c7) mm.cost) rfl rfl a0t rfl (a0y _ _ _ _ _ _ _ _ _ (a04 _ _ _) (a04 _ _ _)) ?_)
        generalize w4.alloc (.cells (La mm.age mm.type mm.id mm.adv mm.seq (.slice p5 mm.links.length c5) mm.mask (.slice p7 mm.routers.length c7) mm.cost) 80) = w5 at hka hRa ⊢
        go_wp2_with ((with_reducible refine a09 4 ?_); go_must (refine a05 rfl 30 (.tmp 4) (.tmp 258) rfl w.heap.size Zp rfl rfl (a06.there hRa.out 0 16 (Nat.le_refl 16)) a0r (a0u _ _ _ _ _ _ _ _ _ _ _ _ _ _ _ _ (a04 _ _ _) (a04 _ _ _) (a04 _ _ _) (a04 _ _ _)) ?_; intro w9 hr9 hs9))
        refine bodyPost_ret (v := .tuple #[.agg Zp, .int .i64 e0]) (a0g Try.results11 _ _ w.heap.size Zq _ rfl hr9.out Try.underlying30 rfl a0r) rfl ⟨⟨_, by rw [hg.out], by rw [hg.out]; exact b0k.zero _ _⟩, hka.out.trans' hs9.out (fun i e => .inr (by omega))⟩
       subst he
       have hcb : Hid (comb ((ms ++ [(⟨mm, p5, c5, p7, c7⟩ : LsaM)]).map (fun m : LsaM => m.d)) (d0w (n0 - (k + 1)) (R.drop lv)) = E) := Hi (by
        rw [← hcomb'.out, hm0'.out, hm1'.out, l02 m0 R hngood.out mm (by rw [hLt.out]; exact hgl'.out), hLt.out, List.map_append]; rfl)
       have hfrm : Hid (f0v W3.heap.size ⟨mm, p5, c5, p7, c7⟩) := Hi ⟨fun i n c e => Nat.le_trans hkw'.out.size (f5 i n c e), fun i n c e => Nat.le_trans hkw'.out.size (f7 i n c e)⟩
       have hsep : Hid (SepM (.slice q k d) ⟨mm, p5, c5, p7, c7⟩) := Hi (SepM.new (w0 := w) (fun k e => hinv'.out.own.own_lt k e) ⟨f5, f7⟩ rfl)
       have ka4 : a03 (fun _ => False) w4 (w4.alloc (.cells (La mm.age mm.type mm.id mm.adv mm.seq (.slice p5 mm.links.length c5) mm.mask (.slice p7 mm.routers.length c7) mm.cost) 80)) := (a03.refl _ _).alloc _
       have kab : a03 (fun _ => False) w4 (w4.alloc (.cells (La mm.age mm.type mm.id mm.adv mm.seq (.slice p5 mm.links.length c5) mm.mask (.slice p7 mm.routers.length c7) mm.cost) 80)).drew := ka4.drew
       have kwr := k4.trans kab
       have hHs := hkr.out.trans kwr
       have hInv := Hi (hinv'.out.keep kwr)
       have hBk := Hi (hBk'.out.keep kwr id)
       have hRw := Hi (hRr.out.keep kwr id)
       have hKw := Hi (hkw'.out.trans' kwr (fun i e => e.elim))
       have hq5 : Hid (f0j (w4.alloc (.cells (La mm.age mm.type mm.id mm.adv mm.seq (.slice p5 mm.links.length c5) mm.mask (.slice p7 mm.routers.length c7) mm.cost) 80)).drew ⟨mm, p5, c5, p7, c7⟩) := Hi ⟨q1.keep kab, q2.keep kab⟩
       have hC5 : Hid (a06 (w4.alloc (.cells (La mm.age mm.type mm.id mm.adv mm.seq (.slice p5 mm.links.length c5) mm.mask (.slice p7 mm.routers.length c7) mm.cost) 80)).drew w4.heap.size 80 (d0t ⟨mm, p5, c5, p7, c7⟩)) := Hi ((a06.new w4 _ _).keep ((a03.refl (fun _ => False) _).drew) id)
       have hown4 : Hid (∀ i, (Value.slice q k d).ownBlock = some i → i ≠ w4.heap.size) := Hi (fun i e => by have := hinv'.out.own.own_lt i e; have := k4.size; omega)
       have hBw4 : Hid (BP ≠ w4.heap.size) := Hi (by have := lt_of_block hBk'.out; have := k4.size; omega)
       have hb0 : ((0 : Int) != 0) = false := rfl
       obtain ⟨np, hnp⟩ : ∃ np, (if cc = lv then some (⟨g2, o2, none⟩ : Addr) else some ⟨g2, o2 + lv, none⟩) = np := ⟨_, rfl⟩
       have hbtail : Hid (∀ W, a03 (fun _ => False) w W → a0b W (.slice np (N - lv) (cc - lv)) (R.drop lv)) := Hi (fun W k => by
        have := b01 (hry2.out W k) (by rw [hRN.out]; omega : R.length ≤ cc) lv (by rw [hRN.out]; omega)
        rw [hnp, hRN.out] at this; exact this)
       have hdl : Hid ((R.drop lv).length = N - lv) := Hi (by rw [List.length_drop, hRN.out])
       have hnp' := Hi hnp
       have jlN : (lv : Int) ≤ N := by omega
       have hlN : lv ≤ N := by omega
       clear k4 q1 q2 f5 f7 ka4 kab kwr hnp hbt hgl' hcomb' hinv' hBk' hk4 hR4 hRr hkr hkw' hngood
       go_upto_region 54 with ((with_reducible refine a09 17 ?_); refine a07 rfl 80 (.tmp 17) (.tmp 254) rfl _ (La mm.age mm.type mm.id mm.adv mm.seq (.slice p5 mm.links.length c5) mm.mask (.slice p7 mm.routers.length c7) mm.cost) rfl rfl a0t rfl (a0y _ _ _ _ _ _ _ _ _ (a04 _ _ _) (a04 _ _ _)) ?_)
       go_upto_region 56 with fail
       obtain ⟨b4, hb4⟩ : ∃ b, w4.heap.size = b := ⟨_, rfl⟩
       rw [hb4] at hC5 hown4 hBw4 ⊢
       clear hb4
       refine wp_region_noPanic ?_
       refine wp_region_held_drew (S := (fun W => a03 (fun _ => False) w W ∧ a06 W b4 80 (d0t ⟨mm, p5, c5, p7, c7⟩))) (by kernel_rfl) (⟨hHs, hC5.out⟩) (fun hHeld => ?_)
       generalize (w4.alloc (.cells (La mm.age mm.type mm.id mm.adv mm.seq (.slice p5 mm.links.length c5) mm.mask (.slice p7 mm.routers.length c7) mm.cost) 80)).drew = W0 at hHeld hInv hBk hRw hKw hq5 hC5 ⊢
       clear hHs
       refine tk 0 rfl ?_
       refine tkL 2 rfl (yieldsIf_load_mid (by rfl) 80 (.tmp 17) rfl b4 0 rfl (La' mm.age mm.type mm.id mm.adv mm.seq (.slice p5 mm.links.length c5) mm.mask (.slice p7 mm.routers.length c7) mm.cost) _ (fun _ s => s.2.range) Try.underlying80 rfl a0t) ?_
       refine tk 5 rfl ?_
       refine tk 6 rfl ?_
       refine tk 7 rfl ?_
       rw [hnp'.out]
       refine c06 1 3 rfl rfl (by kernel_rfl) (fun K hK => ?_) (fun K hK => ?_)
       focus
        have hcF := hBk.out.cell 15 (.slice q k d) rfl
        go_simp
        refine hK.out _ _ hHeld (fun hHeld => ?_)
        clear hK K hcF
        try simp only [Act.put, sA, sZ, sS]
        refine sL 3 rfl fun K hK => ?_
        rw [if_pos (by rfl)]
        refine h0q 28 80 (.tmp 262) rfl _ rfl _ (fun W => f0p W _ _ _ _ _ _ _ _ _ _ _ _ _) ?_
        refine hK.out _ _ (⟨hHeld.1.alloc _, hHeld.2.alloc _⟩) (fun hHeld => ?_)
        clear hK K
        try simp only [Act.put, sA, sZ, sS]
        have hka : a03 (fun _ => False) W0 (W0.alloc (.cells (La mm.age mm.type mm.id mm.adv mm.seq (.slice p5 mm.links.length c5) mm.mask (.slice p7 mm.routers.length c7) mm.cost) 80)) := (a03.refl _ _).alloc _
        have hnr : Hid ((W0.alloc (.cells (La mm.age mm.type mm.id mm.adv mm.seq (.slice p5 mm.links.length c5) mm.mask (.slice p7 mm.routers.length c7) mm.cost) 80)).rangeAt W0.heap.size 0 (La' mm.age mm.type mm.id mm.adv mm.seq (.slice p5 mm.links.length c5) mm.mask (.slice p7 mm.routers.length c7) mm.cost)) := Hi (a0i W0 _ 80)
        have hBk := Hi (hBk.out.keep hka (fun f => f)); have hKw := Hi (hKw.out.alloc (.cells (La mm.age mm.type mm.id mm.adv mm.seq (.slice p5 mm.links.length c5) mm.mask (.slice p7 mm.routers.length c7) mm.cost) 80))
        have hInv := Hi (hInv.out.keep hka); have hq5 := Hi (hq5.out.keep hka)
        obtain ⟨nb, hnb⟩ : ∃ nb, nb = W0.heap.size := ⟨_, rfl⟩
        obtain ⟨W0, hWs⟩ : ∃ Wz, Wz = W0.alloc (.cells (La mm.age mm.type mm.id mm.adv mm.seq (.slice p5 mm.links.length c5) mm.mask (.slice p7 mm.routers.length c7) mm.cost) 80) := ⟨_, rfl⟩
        rw [← hWs] at hBk hnr hHeld hKw hInv hq5 ⊢
        rw [← hnb] at hnr ⊢
        clear hka hnb hWs
        refine sL 4 rfl fun K hK => ?_
       rotate_left 1
       focus
        rw [if_pos (by rfl)]
        refine h0q 28 80 (.tmp 262) rfl _ rfl _ (fun W => f0p W _ _ _ _ _ _ _ _ _ _ _ _ _) ?_
        refine hK.out _ _ (⟨hHeld.1.alloc _, hHeld.2.alloc _⟩) (fun hHeld => ?_)
        clear hK K
        try simp only [Act.put, sA, sZ, sS]
        have hka : a03 (fun _ => False) W0 (W0.alloc (.cells (La mm.age mm.type mm.id mm.adv mm.seq (.slice p5 mm.links.length c5) mm.mask (.slice p7 mm.routers.length c7) mm.cost) 80)) := (a03.refl _ _).alloc _
        have hnr : Hid ((W0.alloc (.cells (La mm.age mm.type mm.id mm.adv mm.seq (.slice p5 mm.links.length c5) mm.mask (.slice p7 mm.routers.length c7) mm.cost) 80)).rangeAt W0.heap.size 0 (La' mm.age mm.type mm.id mm.adv mm.seq (.slice p5 mm.links.length c5) mm.mask (.slice p7 mm.routers.length c7) mm.cost)) := Hi (a0i W0 _ 80)
        have hBk := Hi (hBk.out.keep hka (fun f => f)); have hKw := Hi (hKw.out.alloc (.cells (La mm.age mm.type mm.id mm.adv mm.seq (.slice p5 mm.links.length c5) mm.mask (.slice p7 mm.routers.length c7) mm.cost) 80))
        have hInv := Hi (hInv.out.keep hka); have hq5 := Hi (hq5.out.keep hka)
        obtain ⟨nb, hnb⟩ : ∃ nb, nb = W0.heap.size := ⟨_, rfl⟩
        obtain ⟨W0, hWs⟩ : ∃ Wz, Wz = W0.alloc (.cells (La mm.age mm.type mm.id mm.adv mm.seq (.slice p5 mm.links.length c5) mm.mask (.slice p7 mm.routers.length c7) mm.cost) 80) := ⟨_, rfl⟩
        rw [← hWs] at hBk hnr hHeld hKw hInv hq5 ⊢
        rw [← hnb] at hnr ⊢
        clear hka hnb hWs
        refine sL 1 rfl fun K hK => ?_
        have hcF := hBk.out.cell 15 (.slice q k d) rfl
        go_simp
        refine hK.out _ _ hHeld (fun hHeld => ?_)
        clear hK K hcF
        try simp only [Act.put, sA, sZ, sS]
        refine sL 4 rfl fun K hK => ?_
       all_goals
        rw [if_pos (by rfl)]
        refine c0v (.tmp 261) (.tmp 263) 28 80 rfl il (.agg Zl) 96 Try.underlying28 hil hlz hlsz hlby rfl (by decide) (by decide) c0r W3 _ k ms hml'.out rfl hInv.out.own ⟨nb, 0, none⟩ rfl ⟨mm, p5, c5, p7, c7⟩ (fun j u hu => by rw [Addr.add_mid]; exact hnr.out j u hu) (h07 _) (by omega) ?_
        intro q8 d8 w8' hO8 hg8
        refine hK.out _ _ ⟨hHeld.1.trans' hg8.k (fun i e => .inr (Nat.le_trans hsz3.out (hInv.out.own.2.1 i e))), hHeld.2.keep hg8.k (fun e => hown4.out _ e rfl)⟩ (fun hHeld => ?_)
        clear hK K
        try simp only [Act.put, sA, sZ, sS]
        have hInv8 := Hi (hInv.out.push _ hO8 hg8 hq5.out hfrm.out hsep.out)
        have hKw := Hi (hKw.out.trans' hg8.k (fun i e => .inr (hInv.out.own.2.1 i e)))
        have hBk := Hi (hBk.out.keep hg8.k (fun e => hInv.out.own.ne_blk hBk.out (by decide) BP e rfl))
        have hcF := hBk.out.cell 15 (.slice q k d) rfl
        have hfF := hBk.out.frozen 15
        have hsF : a03 (fun i => i = BP) w8' (w8'.setCell ⟨BP, 15, none⟩ (.slice q8 (k + 1) d8)) := (a03.refl (fun i => i = BP) w8').setCell (p := ⟨BP, 15, none⟩) (.inl rfl) _
        have hInv9 := Hi (hInv8.out.keepB hsF hBW.out (hInv8.out.own.ne_blk hBk.out (by decide)))
        clear hO8 hg8 hInv hInv8
        refine tk 8 rfl ?_
        refine sL 9 rfl fun K hK => ?_
        go_simp
        refine hK.out _ _ (⟨hHeld.1.setCell (p := ⟨BP, 15, none⟩) (.inr (Nat.le_of_lt hRB.out)) _, hHeld.2.keep hsF (fun e => hBw4.out e.symm)⟩) (fun hHeld => ?_)
        clear hK K
        try simp only [Act.put, sA, sZ, sS]
        refine tk 10 rfl ?_
        refine wpAnyH_done (by kernel_rfl) (NoPanic.normal ?_) _
        clear hcF hfF
        have hnew : Hid (a06 (w8'.setCell ⟨BP, 15, none⟩ (.slice q8 (k + 1) d8)) BP 30 (Pa' ty rt ar S 0 0 0 0 0 0 Sn 0 0 Sn Sn (.slice q8 (k + 1) d8)) ∧ a03 (fun i => i = BP) W3 (w8'.setCell ⟨BP, 15, none⟩ (.slice q8 (k + 1) d8))) := Hi ⟨hBk.out.put 15 _, hKw.out.trans hsF⟩
        clear hBk hHeld hKw hsF
        go_wp2_with fail
        exact ⟨⟨k + 1, R.drop lv, np, N - lv, cc - lv, by omega, by go_num, rfl, by omega, by omega, hdl, hbtail, Hi ⟨ms ++ [⟨mm, p5, c5, p7, c7⟩], q8, d8, by rw [List.length_append, hml'.out]; rfl, hnew.out.1, hInv9.out, hnew.out.2, hcb.out⟩⟩, by simp [intOf]; omega⟩
   ·as_aux_lemma =>
    have hkni : ¬ (k : Int) < n0 := by omega
    obtain rfl : k = n0 := by omega
    have hE1 : Hid (E = (ms.map (·.d), 0)) := Hi (by
     rw [← hcomb'.out, Nat.sub_self]; unfold comb; simp [d0w])
    have hfin : Hid (P = b08 ⟨4, rt, ar, a, 0, 0, 0, 0, 0, 0, [], 0, 0, [], [], ms.map (·.d)⟩ R N ∧ er = 0) := Hi (by
     have e := hEq.out.trans hE1.out
     refine ⟨?_, by rw [her.out.1, e]⟩
     have := her.out.2 R
     rw [e, hRN.out] at this; exact this)
    have hkx1 := Hi (hx1.out.trans hkw'.out)
    have hsx : Hid (w8.heap.size ≤ W3.heap.size) := Hi hx1.out.size
    have hll : Hid ((ms.map (·.d)).length = k) := Hi (by rw [List.length_map, hml'.out])
    have hBm : Hid (a06 wr BP 30 (Pa' ty rt ar S 0 0 0 0 0 0 Sn 0 0 Sn Sn (.slice q (ms.map (·.d)).length d))) := Hi (by rw [hll.out]; exact hBk'.out)
    have hLm : Hid (e05 w8.heap.size wr (.slice q (ms.map (·.d)).length d) (ms.map (·.d))) := Hi (by
     rw [hll.out]
     refine ⟨ms, rfl, ?_, hinv'.out.in_, fun m hm => ⟨fun i n c e => Nat.le_trans hsx.out ((hinv'.out.fr m hm).1 i n c e), fun i n c e => Nat.le_trans hsx.out ((hinv'.out.fr m hm).2 i n c e)⟩, fun i e => Nat.le_trans hsx.out (hinv'.out.own.2.1 i e)⟩
     exact hinv'.out.own.at c0r)
    clear hcomb' hE' hE1 hll hBk' hinv'
    go_wp2_with fail
    first | refine hJ _ _ ?_ | skip
    unfold MidP
    refine ⟨rfl, rfl, rfl, rfl, rfl, ⟨4, rt, ar, a, 0, 0, 0, 0, 0, 0, [], 0, 0, [], [], ms.map (·.d)⟩, R, N, none, none, q, 0, 0, d, pp, N, cc, rfl, rfl, by omega, (Nat.le_refl _), by omega, hRN, hRb, Hi ?_, Hi ?_, hkx1, Hi ?_, Hi ?_, Hi rfl⟩
    ·have h1 := hBm.out
     rw [t4, hS.out] at h1
     exact h1
    ·exact ⟨a0x.nil _, d08 _, hLm.out, c01.nil _, c01.nil _⟩
    ·rw [hGg.out, hfin.out.2, if_neg (by simp), ← hfin.out.1]
    ·rw [← hfin.out.1]; exact hokP.out
set_option maxRecDepth 100000 in
set_option maxHeartbeats 32000000 in
theorem r11Get_5 (g o n c : Nat) (x a : List UInt8) (G : a0m × Int) (BP : Nat) (w w8 : World) (hn' : Hid (x.length = n)) (hn24 : 24 ≤ n) (hn9 : n ≤ 900000) (hcn : n ≤ c) (hal9 : a.length ≤ 9223372036854775807) (kk : Hid (∀ W : World, a03 (fun _ => False) w W → W.rangeAt g o (x.map bv)))
 (hk8 : Hid (a03 (fun _ => False) w w8)) (hR8 : Hid (a06 w8 w.heap.size 30 Zq)) (hRB : Hid (w.heap.size < BP)) (hB8 : Hid (BP < w8.heap.size))
 (ty rt ar : Nat) (S : ByteArray) (y : List UInt8) (P : a0m) (er : Int) (pp : Option Addr) (ny cy : Nat) (hS : Hid (S = ⟨a.toArray⟩)) (lty : ty < 256) (hny9 : ny ≤ 900000) (hnyc : ny ≤ cy) (hyl : Hid (y.length = ny)) (hxy : Hid (x.length = ny + 24)) (hyb : Hid (∀ W, a03 (fun _ => False) w W → a0b W (.slice pp ny cy) y)) (hBP : Hid (a06 w8 BP 30 (Pa' ty rt ar S 0 0 0 0 0 0 Sn 0 0 Sn Sn Sn))) (hPy : Hid (b0p (ty : Int) rt ar a y = (P, er))) (hokP : Hid P.ok) (hGg : Hid (G = if er ≠ 0 then (c08, er) else f0i P x)) (t1 : ty ≠ 1) (t2 : ty ≠ 2) (t3 : ty ≠ 3) (t4 : ty ≠ 4)
 (T : Array Value) (hT : T.size = 306) (e0 : gd T 0 = .slice (some ⟨g, o, none⟩) n c) (e4 : gd T 4 = .pointer (some ⟨w.heap.size, 0, none⟩)) (e9 : gd T 9 = .pointer (some ⟨BP, 0, none⟩)) (e10 : gd T 10 = .slice pp ny cy) (e11 : gd T 11 = .int .i64 0) (e100 : gd T 100 = .int .i64 ty) (K : Act → World → Prop) (hJ : ∀ a' w', MidP g o n c x a G BP w w8 a' w' → K a' w') :
 Code.wp Try.prog n0a (Exit.then K (bodyPost Try.prog Try.f11 (f0g G w))) ⟨T, []⟩ w8 := by
 rw [e0x hT]
 rw [e0, e4, e9, e10, e11, e100]
 conv => arg 2; whnf
 clear hT e0 e4 e9 e10 e11 e100
 have hkx0 : Hid (a03 (fun i => i = BP) w8 w8) := Hi (a03.refl _ _)
 obtain ⟨py, hpy⟩ : ∃ q, q = pp := ⟨_, rfl⟩
 subst hpy
 have d1 : ((ty : Int) == 1) = false := by rw [beq_eq_false_iff_ne]; omega
 have d2 : ((ty : Int) == 2) = false := by rw [beq_eq_false_iff_ne]; omega
 have d3 : ((ty : Int) == 3) = false := by rw [beq_eq_false_iff_ne]; omega
 have d4 : ((ty : Int) == 4) = false := by rw [beq_eq_false_iff_ne]; omega
 have hgo : Hid (G = f0i (b08 (e0e (ty : Int) rt ar a) y 0) x ∧ (b08 (e0e (ty : Int) rt ar a) y 0).ok) := Hi (by
  by_cases t5 : ty = 5
  ·have e := hPy.out
   rw [t5, show ((5 : Nat) : Int) = 5 from rfl, hear_5 rt ar a y] at e
   injection e with e1 e2
   rw [t5, show ((5 : Nat) : Int) = 5 from rfl, hGg.out, ← e2, if_neg (by simp), e1]
   exact ⟨rfl, hokP.out⟩
  ·have e := hPy.out
   rw [hear_o rt ar a y (t := (ty : Int)) (by omega) (by omega) (by omega) (by omega) (by omega)] at e
   injection e with e1 e2
   rw [hGg.out, ← e2, if_neg (by simp), ← e1]
   refine ⟨last_o rt ar a y x (by omega) (by omega) (by omega) (by omega) (by omega), ?_⟩
   rw [e1]
   exact r0h hokP.out y 0 (by rw [hyl.out]; omega))
 go_wp2_with fail
 first | refine hJ _ _ ?_ | skip
 unfold MidP
 refine ⟨rfl, rfl, rfl, rfl, rfl, (e0e (ty : Int) rt ar a), y, 0, none, none, none, 0, 0, 0, py, ny, cy, rfl, rfl, by omega, (Nat.zero_le _), by omega, hyl, hyb, Hi ?_, Hi ?_, hkx0, Hi ?_, Hi ?_, Hi rfl⟩
 ·have h1 := hBP.out
  rw [hS.out] at h1
  exact h1
 ·exact ⟨a0x.nil _, d08 _, e05.nil _ _, c01.nil _, c01.nil _⟩
 ·exact hgo.out.1
 ·exact hgo.out.2
end Go.Proofs.Ytmggbljkehclpaa
