/- lsa.PutHeader, walked. -/
import Derived.Test.YtiogeepffdpafaaLC
namespace Go.Proofs.Ytiogeepffdpafaa
open Go.RowKit

theorem be_mod (k n m : Nat) (h : n % 256 ^ k = m % 256 ^ k) : be k n = be k m := by
  have h1 := be_beVal (be k n)
  have h2 := be_beVal (be k m)
  rw [be_len, beVal_be] at h1 h2
  rw [← h1, ← h2, h]
theorem be4_lo (n : Int) : be 4 (lo32 n) = be 4 (lo64 n) := be_mod 4 _ _ (by unfold lo32 lo64; omega)
theorem be2_lo (n : Int) : be 2 (lo16 n) = be 2 (lo64 n) := be_mod 2 _ _ (by unfold lo16 lo64; omega)
theorem Grown.nil {W W' : World} {p : Option Addr} {n c : Nat} (g : Grown W (.slice none 0 0) p n c W') : Keeps (fun _ => False) W W' := g.k.mono (fun i e => by simp [Value.ownBlock] at e)
/-- a new block of numbers -/
theorem NumsAt.new (w : World) (l : List Nat) {n : Nat} (hn : l.length = n) : NumsAt (w.alloc (.cells (l.map nv).toArray 22)) (.slice (some ⟨w.heap.size, 0, none⟩) n n) l := by
  subst hn
  refine ⟨some ⟨w.heap.size, 0, none⟩, l.length, rfl, (fun h => nomatch h), Nat.le_refl _, fun _ => ⟨w.heap.size, 0, rfl, fun j u hu => ?_⟩⟩
  have := cells_new (w := w) (n := w.heap.size) rfl (l.map nv) 22 j u hu
  rw [Addr.add_mid] at this; exact this

set_option maxRecDepth 100000 in
set_option maxHeartbeats 1000000 in
theorem lsPutHeader_any (age type seq len : Int) (id adv sum : Nat) (hid : id < 4294967296) (hadv : adv < 4294967296) (hsum : sum < 65536) (w : World) :
    Calls Try.prog 23 #[.agg #[.int .i64 age, .int .i64 type, .int .u32 id, .int .u32 adv, .int .i64 seq, .int .u16 sum, .int .i64 len]] w (NewOwn (headB ⟨age, type, id, adv, seq, sum, len⟩) w) := by
  obtain ⟨i0, hi0, hz0, hz1, hz2⟩ := info_parts u8InfoAll
  obtain ⟨cs, hcs⟩ : ∃ cs : List Value, cs = [.int .i64 age, .int .i64 type, .int .u32 id, .int .u32 adv, .int .i64 seq, .int .u16 sum, .int .i64 len] := ⟨_, rfl⟩
  have hB : Hid (Boxed w.heap.size cs (w.alloc (.cells #[.int .i64 age, .int .i64 type, .int .u32 id, .int .u32 adv, .int .i64 seq, .int .u16 sum, .int .i64 len] 45)) (w.alloc (.cells #[.int .i64 age, .int .i64 type, .int .u32 id, .int .u32 adv, .int .i64 seq, .int .u16 sum, .int .i64 len] 45))) := Lib.hid (by rw [hcs]; exact boxed_new0 w _ _)
  have hsz : Hid (w.heap.size < (w.alloc (.cells #[.int .i64 age, .int .i64 type, .int .u32 id, .int .u32 adv, .int .i64 seq, .int .u16 sum, .int .i64 len] 45)).heap.size) := Lib.hid (by simp)
  have hwB : Hid (Keeps (fun _ => False) w (w.alloc (.cells #[.int .i64 age, .int .i64 type, .int .u32 id, .int .u32 adv, .int .i64 seq, .int .u16 sum, .int .i64 len] 45))) := Lib.hid ((Keeps.refl _ _).alloc _)
  have hcs' := Lib.hid hcs; clear hcs
  obtain ⟨U, hU, lU, hUl⟩ := u16_nat age
  obtain ⟨T, hT, lT, hTl⟩ := u8_nat type
  obtain ⟨Z, hZ, lZ, hZl⟩ := u32_nat seq
  obtain ⟨Y, hY, lY, hYl⟩ := u16_nat len
  go_enter Try.func23, Try.ntmps23
  go_upto_region 1 with fail
  generalize w.alloc (.cells #[.int .i64 age, .int .i64 type, .int .u32 id, .int .u32 adv, .int .i64 seq, .int .u16 sum, .int .i64 len] 45) = wB at hB hsz hwB ⊢
  refine wp_region_noPanic ?_
  refine wp_region_held_drew (S := (fun W => Boxed w.heap.size cs wB W)) (by kernel_rfl) (hB.out.next ((Keeps.refl _ _).drew)) (fun hHeld => ?_)
  refine takeL 0 (v := ?_) rfl (by kernel_rfl) (by kernel_rfl) (by kernel_rfl) (fun _ _ _ h => h) (Or.inl ⟨by rfl, ?_⟩) (by assumption) ?_
  rotate_left
  · (intro wS hSw; go_simp; try with_reducible rfl)
  try simp only [Act.put, List.setIfInBounds_toArray, List.set_cons_zero, List.set_cons_succ]
  refine takeL 1 rfl (by kernel_rfl) (by kernel_rfl) (by kernel_rfl) (fun _ _ _ h => h) (yieldsIf_load_cell (by rfl) 3 (.tmp 4) rfl w.heap.size 0 rfl _ (fun _ s => s.cell 0 (.int .i64 age) (by rw [hcs'.out]; rfl)) (fun w s => load_int w _ _ _ s)) (by assumption) ?_
  try simp only [Act.put, List.setIfInBounds_toArray, List.set_cons_zero, List.set_cons_succ]
  refine takeL 2 (v := ?_) rfl (by kernel_rfl) (by kernel_rfl) (by kernel_rfl) (fun _ _ _ h => h) (Or.inl ⟨by rfl, ?_⟩) (by assumption) ?_
  rotate_left
  · (intro wS hSw; go_simp; try with_reducible rfl)
  try simp only [Act.put, List.setIfInBounds_toArray, List.set_cons_zero, List.set_cons_succ]
  refine takeL 4 (v := ?_) rfl (by kernel_rfl) (by kernel_rfl) (by kernel_rfl) (fun _ _ _ h => h) (Or.inl ⟨by rfl, ?_⟩) (by assumption) ?_
  rotate_left
  · (intro wS hSw; go_simp; try with_reducible rfl)
  try simp only [Act.put, List.setIfInBounds_toArray, List.set_cons_zero, List.set_cons_succ]
  refine takeL 5 (v := ?_) rfl (by kernel_rfl) (by kernel_rfl) (by kernel_rfl) (fun _ _ _ h => h) (Or.inl ⟨by rfl, ?_⟩) (by assumption) ?_
  rotate_left
  · (intro wS hSw; go_simp; try with_reducible rfl)
  try simp only [Act.put, List.setIfInBounds_toArray, List.set_cons_zero, List.set_cons_succ]
  refine takeL 6 rfl (by kernel_rfl) (by kernel_rfl) (by kernel_rfl) (fun _ _ _ h => h) (yieldsIf_load_cell (by rfl) 3 (.tmp 9) rfl w.heap.size 1 rfl _ (fun _ s => s.cell 1 (.int .i64 type) (by rw [hcs'.out]; rfl)) (fun w s => load_int w _ _ _ s)) (by assumption) ?_
  try simp only [Act.put, List.setIfInBounds_toArray, List.set_cons_zero, List.set_cons_succ]
  refine takeL 7 (v := ?_) rfl (by kernel_rfl) (by kernel_rfl) (by kernel_rfl) (fun _ _ _ h => h) (Or.inl ⟨by rfl, ?_⟩) (by assumption) ?_
  rotate_left
  · (intro wS hSw; go_simp; try with_reducible rfl)
  try simp only [Act.put, List.setIfInBounds_toArray, List.set_cons_zero, List.set_cons_succ]
  refine wpAnyH_slots [7, 12, 13, 3] [3, 8, 9, 10] (fun L f W =>
      (L 3 = true → L 9 = false → ∃ p c, f 7 = .slice p (be 2 U).length c ∧ OwnB wB W (f 7) (be 2 U)) ∧
      (L 8 = true → L 9 = false → ∃ g, f 12 = .slice (some ⟨g, 0, none⟩) 2 2 ∧ BytesAt W (f 12) [2, UInt8.ofNat T]) ∧
      (L 9 = true → ∃ p c, f 13 = .slice p ((be 2 U).length + 2) c ∧ OwnB wB W (f 13) (be 2 U ++ [2, UInt8.ofNat T])) ∧
      (L 10 = true → L 9 = true ∧ f 3 = f 13)) (by kernel_rfl) (by kernel_rfl) (by kernel_rfl) (by kernel_rfl) (Nat.le_of_ble_eq_true (by kernel_rfl)) hHeld
    (fun L f h => ⟨fun e => absurd (h 3 (by decide)) (by rw [e]; decide), fun e => absurd (h 8 (by decide)) (by rw [e]; decide), fun e => absurd (h 9 (by decide)) (by rw [e]; decide), fun e => absurd (h 10 (by decide)) (by rw [e]; decide)⟩) ?_ ?_
  · refine StepsG.cons (d := 7) rfl rfl (by decide) ?_ (StepsG.cons (d := 12) rfl rfl (by decide) ?_ (StepsG.cons (d := 13) rfl rfl (by decide) ?_ (StepsG.cons (d := 3) rfl rfl (by decide) ?_ StepsG.nil)))
    · intro L f W hG hS hL hdep K hK
      simp only [actOf, List.foldl_cons, List.foldl_nil, Act.put, List.setIfInBounds_toArray, List.set_cons_zero, List.set_cons_succ] at hK ⊢
      rw [if_pos (by rfl)]
      go_simp
      refine (wiLay16_any wB _ [] U lU (by simp) _ (Lib.hid (OwnB.nil wB W hS.k.size))).mono ?_
      rintro e W' ⟨p, c, rfl, hO, hg⟩
      have hk := hg.nil
      rw [List.nil_append, show ([] : List UInt8).length + (be 2 U).length = (be 2 U).length by simp] at hO
      rw [show ([] : List UInt8).length + (be 2 U).length = (be 2 U).length by simp]
      go_wp2_with fail
      refine hK.out _ _ (hS.next hk) ⟨fun _ _ => ⟨p, c, rfl, hO⟩, fun e8 e9 => ?_, fun e9 => ?_, fun e10 => hG.2.2.2 e10⟩
      · obtain ⟨g, h1, h2⟩ := hG.2.1 e8 e9
        exact ⟨g, h1, h2.keep hk⟩
      · obtain ⟨p, c, h1, h2⟩ := hG.2.2.1 e9
        exact ⟨p, c, h1, h2.keep hk (fun _ _ f => f)⟩
    · intro L f W hG hS hL hdep K hK
      simp only [actOf, List.foldl_cons, List.foldl_nil, Act.put, List.setIfInBounds_toArray, List.set_cons_zero, List.set_cons_succ] at hK ⊢
      rw [if_pos (by rfl)]
      go_simp
      have hk : Keeps (fun _ => False) W (W.alloc (.cells #[.int .u8 2, .int .u8 T] 5)) := (Keeps.refl _ _).alloc _
      refine hK.out _ _ (hS.next hk) ⟨fun e3 e9 => ?_, fun _ _ => ⟨W.heap.size, rfl, ?_⟩, fun e9 => ?_, fun e10 => hG.2.2.2 e10⟩
      · obtain ⟨p, c, h1, h2⟩ := hG.1 e3 e9
        exact ⟨p, c, h1, h2.keep hk (fun _ _ f => f)⟩
      · have := (OwnB.new W W (Nat.le_refl _) [2, UInt8.ofNat T] (n := 2) rfl (by unfold maxLen; omega)).bytes
        rw [List.map_cons, List.map_cons, List.map_nil, bv_lt T lT] at this
        exact this
      · obtain ⟨p, c, h1, h2⟩ := hG.2.2.1 e9
        exact ⟨p, c, h1, h2.keep hk (fun _ _ f => f)⟩
    · intro L f W hG hS hL hdep K hK
      simp only [actOf, List.foldl_cons, List.foldl_nil, Act.put, List.setIfInBounds_toArray, List.set_cons_zero, List.set_cons_succ] at hK ⊢
      rw [if_pos (by rfl)]
      have d3 := hdep ⟨3, .data⟩ (by simp) rfl (by decide)
      have d8 := hdep ⟨8, .data⟩ (by simp) rfl (by decide)
      obtain ⟨p7, c7, h7, hO⟩ := hG.1 d3 hL
      obtain ⟨g, h12, hB12⟩ := hG.2.1 d8 hL
      refine wp_append_b (.tmp 7) (.tmp 12) 29 rfl i0 Try.underlying29 hi0 hz0 hz1 hz2 wB (f 7) (be 2 U) rfl hO (f 12) rfl [2, UInt8.ofNat T] hB12 (by rw [be_len]; simp) ?_
      intro p c W' hO' hG'
      exact hK.out _ _ (hS.grow hsz.out hG' hO.2.1) ⟨fun _ e => absurd (show true = false from e) (by decide), fun _ e => absurd (show true = false from e) (by decide), fun _ => ⟨p, c, rfl, hO'⟩, fun e10 => absurd ((hG.2.2.2 e10).1.symm.trans hL) (by decide)⟩
    · intro L f W hG hS hL hdep K hK
      simp only [actOf, List.foldl_cons, List.foldl_nil, Act.put, List.setIfInBounds_toArray, List.set_cons_zero, List.set_cons_succ] at hK ⊢
      rw [if_pos (by rfl)]
      go_simp
      have d9 := hdep ⟨9, .data⟩ (by simp) rfl (by decide)
      exact hK.out _ _ hS ⟨fun e3 e9 => hG.1 e3 e9, fun e8 e9 => hG.2.1 e8 e9, fun e9 => hG.2.2.1 e9, fun _ => ⟨d9, rfl⟩⟩
  · intro f W hG hS
    obtain ⟨p13, c13, h13, hO13⟩ := hG.2.2.1 rfl
    have h3 := (hG.2.2.2 rfl).2
    simp only [actOf, List.foldl_cons, List.foldl_nil, Act.put, List.setIfInBounds_toArray, List.set_cons_zero, List.set_cons_succ]
    rw [h13] at hO13 h3
    rw [h3]
    have hO' := Lib.hid hO13; have hS' := Lib.hid hS
    generalize f 7 = f7
    generalize f 12 = f12
    generalize f 13 = f13
    clear hG h13 h3 hO13 hS f
    refine NoPanic.normal ?_
    obtain ⟨X1, hX1⟩ : ∃ X, X = be 2 U ++ [2, UInt8.ofNat T] := ⟨_, rfl⟩
    have hX1l : X1.length = 4 := by rw [hX1, List.length_append, be_len]; rfl
    rw [← hX1, show (be 2 U).length + 2 = X1.length by rw [hX1l, be_len]] at hO'
    rw [show (be 2 U).length + 2 = X1.length by rw [hX1l, be_len]]
    have hX1' := Lib.hid hX1; have hX1l' := Lib.hid hX1l
    clear hX1 hX1l
    have c2 := hS'.out.cell 2 (.int .u32 id) (by rw [hcs'.out]; rfl)
    have c3 := hS'.out.cell 3 (.int .u32 adv) (by rw [hcs'.out]; rfl)
    have c4 := hS'.out.cell 4 (.int .i64 seq) (by rw [hcs'.out]; rfl)
    go_wp2_with fail
    have hN : Hid (NumsAt (W.alloc (.cells #[.int .u32 id, .int .u32 adv, .int .u32 Z] 22)) (.slice (some ⟨W.heap.size, 0, none⟩) 3 3) [id, adv, Z]) := Lib.hid (NumsAt.new W [id, adv, Z] rfl)
    refine (wiLayAll_any wB _ X1 _ [id, adv, Z] (Lib.hid (by intro n hn; simp at hn; rcases hn with rfl | rfl | rfl <;> assumption)) (by rw [hX1l'.out]; simp) _ (Lib.hid (hO'.out.keep ((Keeps.refl (fun _ => False) _).alloc _) (fun _ _ f => f))) hN (Lib.hid (fun _ k e => by
      simp only [Value.ownBlock, Option.some.injEq] at e
      subst e
      refine ⟨fun e => ?_, by simp⟩
      have := lt_own hO'.out _ e; omega))).mono ?_
    rintro e W2 ⟨p2, d2, rfl, hO2, hg2⟩
    have hS2 := Lib.hid ((hS'.out.next ((Keeps.refl (fun _ => False) _).alloc (.cells #[.int .u32 id, .int .u32 adv, .int .u32 Z] 22))).grow hsz.out hg2 hO'.out.2.1)
    obtain ⟨X2, hX2⟩ : ∃ X, X = X1 ++ bes [id, adv, Z] := ⟨_, rfl⟩
    have hX2l : X2.length = 16 := by rw [hX2, List.length_append, hX1l'.out, bes_len]; rfl
    rw [← hX2, show X1.length + (bes [id, adv, Z]).length = X2.length by rw [hX2, List.length_append]] at hO2
    rw [show X1.length + (bes [id, adv, Z]).length = X2.length by rw [hX2, List.length_append]]
    have hX2' := Lib.hid hX2; have hX2l' := Lib.hid hX2l; have hO2' := Lib.hid hO2
    clear hX2 hX2l hO2 hg2 hS' hO' hN c2 c3 c4
    go_upto_region 3 with fail
    refine wp_region_noPanic ?_
    refine wp_region_held_drew (S := (fun W => Boxed w.heap.size cs wB W)) (by kernel_rfl) (hS2.out.next ((Keeps.refl _ _).drew)) (fun hHeld => ?_)
    refine takeL 0 (v := ?_) rfl (by kernel_rfl) (by kernel_rfl) (by kernel_rfl) (fun _ _ _ h => h) (Or.inl ⟨by rfl, ?_⟩) (by assumption) ?_
    rotate_left
    · (intro wS hSw; go_simp; try with_reducible rfl)
    try simp only [Act.put, List.setIfInBounds_toArray, List.set_cons_zero, List.set_cons_succ]
    refine takeL 1 (v := ?_) rfl (by kernel_rfl) (by kernel_rfl) (by kernel_rfl) (fun _ _ _ h => h) (Or.inl ⟨by rfl, ?_⟩) (by assumption) ?_
    rotate_left
    · (intro wS hSw; go_simp; try with_reducible rfl)
    try simp only [Act.put, List.setIfInBounds_toArray, List.set_cons_zero, List.set_cons_succ]
    refine takeL 2 rfl (by kernel_rfl) (by kernel_rfl) (by kernel_rfl) (fun _ _ _ h => h) (yieldsIf_load_cell (by rfl) 43 (.tmp 27) rfl w.heap.size 5 rfl _ (fun _ s => s.cell 5 (.int .u16 sum) (by rw [hcs'.out]; rfl)) (fun w s => load_u16 w _ _ _ s)) (by assumption) ?_
    try simp only [Act.put, List.setIfInBounds_toArray, List.set_cons_zero, List.set_cons_succ]
    refine takeL 4 (v := ?_) rfl (by kernel_rfl) (by kernel_rfl) (by kernel_rfl) (fun _ _ _ h => h) (Or.inl ⟨by rfl, ?_⟩) (by assumption) ?_
    rotate_left
    · (intro wS hSw; go_simp; try with_reducible rfl)
    try simp only [Act.put, List.setIfInBounds_toArray, List.set_cons_zero, List.set_cons_succ]
    refine takeL 5 rfl (by kernel_rfl) (by kernel_rfl) (by kernel_rfl) (fun _ _ _ h => h) (yieldsIf_load_cell (by rfl) 3 (.tmp 30) rfl w.heap.size 6 rfl _ (fun _ s => s.cell 6 (.int .i64 len) (by rw [hcs'.out]; rfl)) (fun w s => load_int w _ _ _ s)) (by assumption) ?_
    try simp only [Act.put, List.setIfInBounds_toArray, List.set_cons_zero, List.set_cons_succ]
    refine takeL 6 (v := ?_) rfl (by kernel_rfl) (by kernel_rfl) (by kernel_rfl) (fun _ _ _ h => h) (Or.inl ⟨by rfl, ?_⟩) (by assumption) ?_
    rotate_left
    · (intro wS hSw; go_simp; try with_reducible rfl)
    try simp only [Act.put, List.setIfInBounds_toArray, List.set_cons_zero, List.set_cons_succ]
    have hO3 := Lib.hid (hO2'.out.keep ((Keeps.refl (fun _ => False) _).drew) (fun _ _ f => f))
    refine stepL 3 rfl (by kernel_rfl) (fun K hK => ?_)
    go_simp
    (refine (wiLay16_any wB _ X2 sum hsum (by rw [hX2l'.out]; omega) _ hO3).mono ?_; rintro e W4 ⟨p4, d4, rfl, hO4, hg4⟩)
    go_wp2_with fail
    refine hK.out _ _ (hHeld.grow hsz.out hg4 hO3.out.2.1) (fun hHeld => ?_)
    clear hK K
    try simp only [Act.put, List.setIfInBounds_toArray, List.set_cons_zero, List.set_cons_succ]
    obtain ⟨X3, hX3⟩ : ∃ X, X = X2 ++ be 2 sum := ⟨_, rfl⟩
    have hX3l : X3.length = 18 := by rw [hX3, List.length_append, hX2l'.out, be_len]
    rw [← hX3, show X2.length + (be 2 sum).length = X3.length by rw [hX3, List.length_append]] at hO4
    rw [show X2.length + (be 2 sum).length = X3.length by rw [hX3, List.length_append]]
    have hX3' := Lib.hid hX3; have hX3l' := Lib.hid hX3l; have hO4' := Lib.hid hO4
    clear hX3 hX3l hO4 hg4 hO3
    refine stepL 7 rfl (by kernel_rfl) (fun K hK => ?_)
    go_simp
    (refine (wiLay16_any wB _ X3 Y lY (by rw [hX3l'.out]; omega) _ hO4').mono ?_; rintro e W5 ⟨p5, d5, rfl, hO5, hg5⟩)
    go_wp2_with fail
    refine hK.out _ _ (hHeld.grow hsz.out hg5 hO4'.out.2.1) (fun hHeld => ?_)
    clear hK K
    try simp only [Act.put, List.setIfInBounds_toArray, List.set_cons_zero, List.set_cons_succ]
    refine takeL 8 (v := ?_) rfl (by kernel_rfl) (by kernel_rfl) (by kernel_rfl) (fun _ _ _ h => h) (Or.inl ⟨by rfl, ?_⟩) (by assumption) ?_
    rotate_left
    · (intro wS hSw; go_simp; try with_reducible rfl)
    try simp only [Act.put, List.setIfInBounds_toArray, List.set_cons_zero, List.set_cons_succ]
    refine wpAnyH_done (by kernel_rfl) (NoPanic.normal ?_) _
    have hfin : X3 ++ be 2 Y = headB ⟨age, type, id, adv, seq, sum, len⟩ := by
      rw [hX3'.out, hX2'.out, hX1'.out]
      unfold headB
      simp only [← hUl.out, ← hTl.out, ← hZl.out, ← hYl.out, be4_lo, be2_lo, bes, List.flatMap_cons, List.flatMap_nil, List.append_nil, List.append_assoc]
    have hl20 : X3.length + (be 2 Y).length = (headB ⟨age, type, id, adv, seq, sum, len⟩).length := by rw [← hfin, List.length_append]
    rw [hfin] at hO5
    have hO6 := Lib.hid hO5; have hS6 := Lib.hid hHeld; have hl20' := Lib.hid hl20
    clear hO5 hHeld hfin hl20 hg5
    go_wp2_with fail
    go_ret
    exact ⟨p5, d5, by rw [← hl20'.out]; rfl, by rw [← hl20'.out]; exact hO6.out.older (by have := hsz.out; omega), hwB.out.trans hS6.out.k⟩
end Go.Proofs.Ytiogeepffdpafaa
