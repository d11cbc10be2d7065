/- Slots and frames read. -/
import Derived.Test.YtdannodhlaaoiaaGreatDoorWT32
set_option linter.unusedVariables false
set_option linter.unusedSimpArgs false
namespace Go.Proofs.YtdannodhlaaoiaaGreatDoor
open Go.RowKit

/-- what a sector tells as slot i -/
def slotOf (x : List UInt8) (i : Nat) : Option (Nat × Nat) :=
  let gen := beVal ((x.drop 4).take 8)
  let half := (x.getD 12 0).toNat
  if half ≤ 1 ∧ gen % 2 = i ∧ x = slotB gen half then some (gen, half) else none
def slotV (o : Option (Nat × Nat)) : Value := .tuple #[.agg #[.int .u64 ((o.getD (0, 0)).1 : Nat), .int .i64 ((o.getD (0, 0)).2 : Nat)], .bool o.isSome]

theorem Keeps.new {w w1 : World} {ob : Obj} (h : w1 = w.alloc ob) : Keeps (fun _ => False) w w1 := by rw [h]; exact (Keeps.refl _ _).alloc _
theorem two_vars {w Wa Wb : World} {a b c d : Value} {t : TypeId} (h : Wa = w.alloc (.cells #[a, b] t)) (hb : Wb = (Wa.alloc (.cells #[c, d] t)).drew) :
    Wb.cell? ⟨Wa.heap.size, 0, none⟩ = some c ∧ Wb.cell? ⟨Wa.heap.size, 1, none⟩ = some d ∧ Wb.cell? ⟨w.heap.size, 0, none⟩ = some a ∧ Wb.cell? ⟨w.heap.size, 1, none⟩ = some b ∧
    Wb.frozen? ⟨w.heap.size, 0, none⟩ = false ∧ Wb.frozen? ⟨w.heap.size, 1, none⟩ = false ∧ Keeps (fun _ => False) Wa Wb ∧ w.heap.size < Wa.heap.size := by
  have k : Keeps (fun _ => False) Wa Wb := by rw [hb]; exact ((Keeps.refl _ _).alloc _).drew
  have h1 : Wb.heap[Wa.heap.size]? = some (.cells #[c, d] t (0, 0)) := by rw [hb]; exact heap_alloc_last Wa _
  have h2 : Wa.heap[w.heap.size]? = some (.cells #[a, b] t (0, 0)) := by rw [h]; exact heap_alloc_last w _
  have h3 : Wb.heap[w.heap.size]? = some (.cells #[a, b] t (0, 0)) := by rw [k.block _ (lt_of_block h2) id]; exact h2
  refine ⟨by unfold World.cell?; simp only [h1]; rfl, by unfold World.cell?; simp only [h1]; rfl, by unfold World.cell?; simp only [h3]; rfl, by unfold World.cell?; simp only [h3]; rfl, by unfold World.frozen?; simp only [h3]; rfl, by unfold World.frozen?; simp only [h3]; rfl, k, lt_of_block h2⟩
/-- a struct of two in b, one in a that may be written -/
structure TV (a b : Nat) (v0 v1 c d : Value) (W : World) : Prop where
  s0 : W.cell? ⟨b, 0, none⟩ = some c
  s1 : W.cell? ⟨b, 1, none⟩ = some d
  v0 : W.cell? ⟨a, 0, none⟩ = some v0
  v1 : W.cell? ⟨a, 1, none⟩ = some v1
  f0 : W.frozen? ⟨a, 0, none⟩ = false
  f1 : W.frozen? ⟨a, 1, none⟩ = false
theorem TV.keep {a b : Nat} {v0 v1 c d : Value} {W W' : World} (h : TV a b v0 v1 c d W) (k : Keeps (fun _ => False) W W') : TV a b v0 v1 c d W' :=
  have l1 := World.block_lt_of_cell? W _ h.s0
  have l2 := World.block_lt_of_cell? W _ h.v0
  ⟨by rw [k.cell (p := ⟨b, 0, none⟩) l1 id]; exact h.s0, by rw [k.cell (p := ⟨b, 1, none⟩) l1 id]; exact h.s1, by rw [k.cell (p := ⟨a, 0, none⟩) l2 id]; exact h.v0, by rw [k.cell (p := ⟨a, 1, none⟩) l2 id]; exact h.v1,
   by rw [k.frozen (p := ⟨a, 0, none⟩) l2 id]; exact h.f0, by rw [k.frozen (p := ⟨a, 1, none⟩) l2 id]; exact h.f1⟩
theorem TV.put {a b : Nat} {v0 v1 c d : Value} {W : World} (h : TV a b v0 v1 c d W) (x y : Value) (W' : World) (hW : W' = (W.setCell ⟨a, 0, none⟩ x).setCell ⟨a, 1, none⟩ y) :
    W'.cell? ⟨a, 0, none⟩ = some x ∧ W'.cell? ⟨a, 1, none⟩ = some y ∧ Keeps (fun k => k = a) W W' := by
  subst hW
  have h1 : (W.setCell ⟨a, 0, none⟩ x).cell? ⟨a, 1, none⟩ = some v1 := by rw [World.cell?_setCell_other _ _ _ _ (by simp)]; exact h.v1
  refine ⟨?_, World.cell?_setCell_same _ _ _ h1, ((Keeps.refl (fun k => k = a) _).setCell (p := ⟨a, 0, none⟩) (.inl rfl) x).setCell (p := ⟨a, 1, none⟩) (.inl rfl) y⟩
  rw [World.cell?_setCell_other _ _ _ _ (by simp)]
  exact World.cell?_setCell_same _ _ _ h.v0
theorem slotOf_none {x : List UInt8} {i gen half : Nat} (hg : gen = beVal ((x.drop 4).take 8)) (hx : 12 < x.length) (hh : half = (x[12]'hx).toNat) (h : ¬ (half ≤ 1 ∧ gen % 2 = i ∧ x = slotB gen half)) : slotOf x i = none := by
  unfold slotOf
  have e : x.getD 12 0 = x[12]'hx := by rw [List.getD_eq_getElem?_getD, List.getElem?_eq_getElem hx]; rfl
  simp only [e, ← hg, ← hh]
  rw [if_neg h]
theorem slotOf_some {x : List UInt8} {i gen half : Nat} (hg : gen = beVal ((x.drop 4).take 8)) (hx : 12 < x.length) (hh : half = (x[12]'hx).toNat) (h : half ≤ 1 ∧ gen % 2 = i ∧ x = slotB gen half) : slotOf x i = some (gen, half) := by
  unfold slotOf
  have e : x.getD 12 0 = x[12]'hx := by rw [List.getD_eq_getElem?_getD, List.getElem?_eq_getElem hx]; rfl
  simp only [e, ← hg, ← hh]
  rw [if_pos h]
def RS (g : Nat) (x : List UInt8) (W : World) : Prop := W.rangeAt g 0 (x.map bv)
theorem RS.cell {g : Nat} {x : List UInt8} (i : Nat) (hi : i < x.length) : ∀ W : World, RS g x W → W.cell? ⟨g, i, none⟩ = some (.int .u8 (x[i]).toNat) := fun W h => by
  have := h i (bv x[i]) (by simp [hi])
  rw [Nat.zero_add] at this
  exact this
theorem RS.part {g : Nat} {x : List UInt8} {W : World} (h : RS g x W) (o n : Nat) : W.rangeAt g o (((x.drop o).take n).map bv) := fun j u hu => by
  rw [List.map_take, List.getElem?_take] at hu
  split at hu
  · rw [List.map_drop, List.getElem?_drop] at hu
    have := h (o + j) u hu
    simpa using this
  · cases hu
theorem RS.bytes64 {g : Nat} {x : List UInt8} {W : World} (h : RS g x W) (hx : x.length = 64) : BytesAt W (.slice (some ⟨g, 0, none⟩) 64 64) x :=
  ⟨_, 64, by rw [hx], (fun e => by cases e), by rw [hx]; exact Nat.le_refl _, fun _ => ⟨g, 0, rfl, h⟩⟩
theorem BufAt.whole {w : World} {g : Nat} {x : List UInt8} (h : BufAt w g x) : BytesAt w (.slice (some ⟨g, 0, none⟩) x.length x.length) x := ⟨_, _, rfl, (fun h => by cases h), Nat.le_refl _, fun _ => ⟨g, 0, rfl, h.range⟩⟩
theorem RS.keep {g : Nat} {x : List UInt8} {W W' : World} (h : RS g x W) (k : Keeps (fun _ => False) W W') : RS g x W' := k.rangeAt h id

set_option maxRecDepth 100000 in
set_option maxHeartbeats 2000000 in
theorem readSlot_any (x : List UInt8) (i g : Nat) (hx : x.length = 64) (w : World) (h : RS g x w) :
    Calls Tryz.prog 75 #[.slice (some ⟨g, 0, none⟩) 64 64, .int .i64 i] w fun e w' => e = .returned (slotV (slotOf x i)) ∧ Keeps (fun _ => False) w w' := by
  have h' := Lib.hid h; clear h
  have hcell := RS.cell (g := g) (x := x) 12 (by omega)
  have hgv : beVal ((x.drop 4).take 8) < 18446744073709551616 := by
    have := beVal_lt ((x.drop 4).take 8)
    rw [show ((x.drop 4).take 8).length = 8 by simp; omega] at this
    exact this
  have hh := (x[12]'(by omega)).toNat_lt
  obtain ⟨gen, hgen⟩ : ∃ m, m = beVal ((x.drop 4).take 8) := ⟨_, rfl⟩
  obtain ⟨half, hhalf⟩ : ∃ m, m = (x[12]'(by omega)).toNat := ⟨_, rfl⟩
  rw [← hgen] at hgv
  rw [← hhalf] at hcell hh
  have hgen' := Lib.hid hgen; clear hgen
  have hhalf' := Lib.hid hhalf; clear hhalf
  have hwr : IntKind.i64.wrap (half : Int) = half := by
    have : (half : Int) < 256 := by omega
    simp [IntKind.wrap, IntKind.signed, IntKind.bits]; omega
  go_enter Tryz.func75, Tryz.ntmps75
  go_wp2
  obtain ⟨Wa, hWa⟩ : ∃ Wa, Wa = w.alloc (.cells #[.int .u64 0, .int .i64 0] 90) := ⟨_, rfl⟩
  rw [← hWa]
  have hka := Lib.hid (Keeps.new hWa)
  have hWa' := Lib.hid hWa; clear hWa
  have hRa := Lib.hid (h'.out.keep hka.out)
  refine wp_region_noPanic ?_
  refine wp_region_held_drew (S := (RS g x)) (by kernel_rfl) ((hRa.out)) (fun hHeld => ?_)
  refine tk 0 rfl ?_
  refine tk 1 rfl ?_
  refine tk 3 rfl ?_
  refine tk 4 rfl ?_
  refine tk 5 rfl ?_
  refine tk 6 rfl ?_
  have hHeld' := hHeld
  refine step2L 2 8 rfl rfl (by kernel_rfl) (fun K hK => ?_) (fun K hK => ?_)
  focus
    go_simp
    refine (read64_any g 4 60 ((x.drop 4).take 8) (by simp; omega) Wa.drew (Lib.hid (hRa.out.part 4 8))).mono ?_
    rintro e w' ⟨rfl, rfl⟩
    rw [← hgen'.out]
    go_wp2_with fail
    refine hK.out _ _ hHeld (fun hHeld => ?_)
    clear hK K
    try simp only [Act.put, sA, sZ, sS]
    refine tk 7 rfl ?_
    refine stepL 8 rfl (by kernel_rfl) (fun K hK => ?_)
    go_simp
    refine hK.out _ _ ((hHeld.keep ((Keeps.refl _ _).alloc _))) (fun hHeld => ?_)
    clear hK K
    try simp only [Act.put, sA, sZ, sS]
    refine stepL 9 rfl (by kernel_rfl) (fun K hK => ?_)
    go_simp
    refine hK.out _ _ ((hHeld'.keep ((Keeps.refl _ _).alloc _))) (fun hHeld => ?_)
    clear hK K
    try simp only [Act.put, sA, sZ, sS]
    refine wpAnyH_done (by kernel_rfl) (NoPanic.normal ?_) _
  rotate_left
  focus
    go_simp
    refine hK.out _ _ ((hHeld.keep ((Keeps.refl _ _).alloc _))) (fun hHeld => ?_)
    clear hK K
    try simp only [Act.put, sA, sZ, sS]
    refine stepL 2 rfl (by kernel_rfl) (fun K hK => ?_)
    go_simp
    (refine (read64_any g 4 60 ((x.drop 4).take 8) (by simp; omega) (Wa.alloc (.cells #[.int .u64 0, .int .i64 0] 90)).drew (Lib.hid (hHeld.part 4 8))).mono ?_; rintro e w' ⟨rfl, rfl⟩; rw [← hgen'.out])
    go_wp2_with fail
    refine hK.out _ _ (hHeld) (fun hHeld => ?_)
    clear hK K
    try simp only [Act.put, sA, sZ, sS]
    refine tk 7 rfl ?_
    refine stepL 9 rfl (by kernel_rfl) (fun K hK => ?_)
    go_simp
    refine hK.out _ _ ((hHeld'.keep ((Keeps.refl _ _).alloc _))) (fun hHeld => ?_)
    clear hK K
    try simp only [Act.put, sA, sZ, sS]
    refine wpAnyH_done (by kernel_rfl) (NoPanic.normal ?_) _
  all_goals
    obtain ⟨Wb, hWb⟩ : ∃ Wb, Wb = (Wa.alloc (.cells #[.int .u64 gen, .int .i64 half] 90)).drew := ⟨_, rfl⟩
    rw [← hWb]
    obtain ⟨s0, s1, v0, v1, f0, f1, hkb, hlt⟩ := two_vars hWa'.out hWb
    clear hWb
    have hRb := Lib.hid (hRa.out.keep hkb); clear hHeld
    have hkw := Lib.hid (hka.out.trans hkb); clear hkb
    have hT := Lib.hid (TV.mk s0 s1 v0 v1 f0 f1)
    by_cases hh1 : half ≤ 1
    · by_cases hgi : gen % 2 = i
      · by_cases heq : x = slotB gen half
        · have heq' := heq
          replace heq : (x == slotB gen half) = true := by simp [heq]
          have heq2 := Lib.hid heq'; clear heq'
          go_wp2_with (first | (go_at_call 35; refine (slotAt_any gen _ hgv _).mono ?_; rintro e wA ⟨rfl, hkA⟩; have hTA := Lib.hid (hT.out.keep hkA); have hkA' := Lib.hid hkA; clear hkA s0 s1 v0 v1 f0 f1; obtain ⟨s0, s1, v0, v1, f0, f1⟩ := hTA.out; rw [hgi]) | (go_at_call 37; refine (sector_any gen half hgv hh1 _).mono ?_; rintro e wB ⟨sb, rfl, hsb, hBB, hkB⟩; have hTB := Lib.hid (hTA.out.keep hkB); have hkB' := Lib.hid (hkA'.out.trans hkB); have hBB' := Lib.hid hBB; clear hBB hkB s0 s1 v0 v1 f0 f1; obtain ⟨s0, s1, v0, v1, f0, f1⟩ := hTB.out) | (go_at_call 105; refine (bytesEqual_any _ _ x (slotB gen half) _ ((hRb.out.keep hkB'.out).bytes64 hx) hBB'.out.whole (by omega) (by rw [slotB_len]; omega)).mono ?_; rintro e w' ⟨rfl, rfl⟩; rw [heq]))
          go_wp2_with fail
          obtain ⟨Wc, hWc⟩ : ∃ Wc, Wc = (wB.setCell ⟨w.heap.size, 0, none⟩ (.int .u64 gen)).setCell ⟨w.heap.size, 1, none⟩ (.int .i64 half) := ⟨_, rfl⟩
          rw [← hWc]
          obtain ⟨c0, c1, hkc⟩ := hTB.out.put (.int .u64 gen) (.int .i64 half) Wc hWc
          clear hWc s0 s1 v0 v1 f0 f1
          refine bodyPost_ret (v := slotV (some (gen, half))) (by simp [results, Tryz.results75, go_sem, c0, c1, slotV]) rfl ⟨by rw [slotOf_some hgen'.out _ hhalf'.out ⟨hh1, hgi, heq2.out⟩], (hkw.out.trans hkB'.out).trans' hkc (fun k e => .inr (by rw [e]; exact Nat.le_refl _))⟩

        · have heq2 := Lib.hid heq
          replace heq : (x == slotB gen half) = false := by simp [heq]
          go_wp2_with (first | (go_at_call 35; refine (slotAt_any gen _ hgv _).mono ?_; rintro e wA ⟨rfl, hkA⟩; have hTA := Lib.hid (hT.out.keep hkA); have hkA' := Lib.hid hkA; clear hkA s0 s1 v0 v1 f0 f1; obtain ⟨s0, s1, v0, v1, f0, f1⟩ := hTA.out; rw [hgi]) | (go_at_call 37; refine (sector_any gen half hgv hh1 _).mono ?_; rintro e wB ⟨sb, rfl, hsb, hBB, hkB⟩; have hTB := Lib.hid (hTA.out.keep hkB); have hkB' := Lib.hid (hkA'.out.trans hkB); have hBB' := Lib.hid hBB; clear hBB hkB s0 s1 v0 v1 f0 f1; obtain ⟨s0, s1, v0, v1, f0, f1⟩ := hTB.out) | (go_at_call 105; refine (bytesEqual_any _ _ x (slotB gen half) _ ((hRb.out.keep hkB'.out).bytes64 hx) hBB'.out.whole (by omega) (by rw [slotB_len]; omega)).mono ?_; rintro e w' ⟨rfl, rfl⟩; rw [heq]))
          go_wp2_with fail
          obtain ⟨Wc, hWc⟩ : ∃ Wc, Wc = (wB.setCell ⟨w.heap.size, 0, none⟩ (.int .u64 0)).setCell ⟨w.heap.size, 1, none⟩ (.int .i64 0) := ⟨_, rfl⟩
          rw [← hWc]
          obtain ⟨c0, c1, hkc⟩ := hTB.out.put (.int .u64 0) (.int .i64 0) Wc hWc
          clear hWc s0 s1 v0 v1 f0 f1
          refine bodyPost_ret (v := slotV (none)) (by simp [results, Tryz.results75, go_sem, c0, c1, slotV]) rfl ⟨by rw [slotOf_none hgen'.out _ hhalf'.out (fun h => heq2.out h.2.2)], (hkw.out.trans hkB'.out).trans' hkc (fun k e => .inr (by rw [e]; exact Nat.le_refl _))⟩

      · have hgi2 := Lib.hid hgi
        have hgi3 : ((gen % 2 : Nat) : Int) ≠ i := by omega
        go_wp2_with (first | (go_at_call 35; refine (slotAt_any gen _ hgv _).mono ?_; rintro e wA ⟨rfl, hkA⟩; have hTA := Lib.hid (hT.out.keep hkA); have hkA' := Lib.hid hkA; clear hkA s0 s1 v0 v1 f0 f1; obtain ⟨s0, s1, v0, v1, f0, f1⟩ := hTA.out))
        go_wp2_with fail
        obtain ⟨Wc, hWc⟩ : ∃ Wc, Wc = (wA.setCell ⟨w.heap.size, 0, none⟩ (.int .u64 0)).setCell ⟨w.heap.size, 1, none⟩ (.int .i64 0) := ⟨_, rfl⟩
        rw [← hWc]
        obtain ⟨c0, c1, hkc⟩ := hTA.out.put (.int .u64 0) (.int .i64 0) Wc hWc
        clear hWc s0 s1 v0 v1 f0 f1
        refine bodyPost_ret (v := slotV (none)) (by simp [results, Tryz.results75, go_sem, c0, c1, slotV]) rfl ⟨by rw [slotOf_none hgen'.out _ hhalf'.out (fun h => hgi2.out h.2.1)], (hkw.out.trans hkA'.out).trans' hkc (fun k e => .inr (by rw [e]; exact Nat.le_refl _))⟩

    · have hh2 := Lib.hid hh1
      go_wp2_with fail
      obtain ⟨Wc, hWc⟩ : ∃ Wc, Wc = (Wb.setCell ⟨w.heap.size, 0, none⟩ (.int .u64 0)).setCell ⟨w.heap.size, 1, none⟩ (.int .i64 0) := ⟨_, rfl⟩
      rw [← hWc]
      obtain ⟨c0, c1, hkc⟩ := hT.out.put (.int .u64 0) (.int .i64 0) Wc hWc
      clear hWc s0 s1 v0 v1 f0 f1
      refine bodyPost_ret (v := slotV (none)) (by simp [results, Tryz.results75, go_sem, c0, c1, slotV]) rfl ⟨by rw [slotOf_none hgen'.out _ hhalf'.out (fun h => hh2.out h.1)], (hkw.out).trans' hkc (fun k e => .inr (by rw [e]; exact Nat.le_refl _))⟩

end Go.Proofs.YtdannodhlaaoiaaGreatDoor
/- The halves; the newest slot. -/
namespace Go.Proofs.YtdannodhlaaoiaaGreatDoor
open Go.RowKit

theorem halfSize_any (F : Nat → Prop) (D : Dk) (w : World) (h : OwnDisk F D w) (hn : D.n ≤ 1024) (h2 : 4 ≤ D.n) : Calls Tryz.prog 84 #[.pointer (some ⟨D.b, 0, none⟩)] w fun e w' => e = .returned (.int .i64 ((D.n - 2) / 2 : Nat)) ∧ w = w' := by
  have h' := Lib.hid h; clear h
  go_enter Tryz.func84, Tryz.ntmps84
  go_wp2_with (go_at_call 31; refine (own_size F D _ h'.out).mono ?_; rintro e w' ⟨rfl, rfl⟩)
  go_ret
  refine ⟨?_, rfl⟩
  show Ending.returned (.int .i64 (((D.n : Int) - 2) / 2)) = _
  rw [show ((D.n : Int) - 2) / 2 = (((D.n - 2) / 2 : Nat) : Int) by omega]
theorem halfStart_any (F : Nat → Prop) (D : Dk) (half : Nat) (hh : half ≤ 1) (w : World) (h : OwnDisk F D w) (hn : D.n ≤ 1024) (h2 : 4 ≤ D.n) : Calls Tryz.prog 77 #[.pointer (some ⟨D.b, 0, none⟩), .int .i64 half] w fun e w' => e = .returned (.int .i64 (2 + half * ((D.n - 2) / 2) : Nat)) ∧ w = w' := by
  have hs := halfSize_any F D w h hn h2
  obtain ⟨H, hH⟩ : ∃ H, H = (D.n - 2) / 2 := ⟨_, rfl⟩
  have hH2 : H ≤ 511 := by omega
  rw [← hH] at hs ⊢
  have hs' := Lib.hid hs; clear hs h hH
  have h01 : half = 0 ∨ half = 1 := by omega
  rcases h01 with rfl | rfl
  all_goals
    go_enter Tryz.func77, Tryz.ntmps77
    go_wp2_with (go_at_call 84; refine hs'.out.mono ?_; rintro e w' ⟨rfl, rfl⟩)
    go_ret
    exact ⟨by simp, rfl⟩

/-- the better of two slots -/
def pick (b s : Option (Nat × Nat)) : Option (Nat × Nat) :=
  match s, b with
  | none, b => b
  | some s, none => some s
  | some s, some b => if b.1 < s.1 then some s else some b
def newestOf (x y : List UInt8) : Option (Nat × Nat) := pick (slotOf x 0) (slotOf y 1)
def newV (o : Option (Nat × Nat)) : Value := .tuple #[.agg #[.int .u64 ((o.getD (0, 0)).1 : Nat), .int .i64 ((o.getD (0, 0)).2 : Nat)], .bool o.isSome, .int .i64 0]

def gv (o : Option (Nat × Nat)) : Value := .int .u64 ((o.getD (0, 0)).1 : Nat)
def hv (o : Option (Nat × Nat)) : Value := .int .i64 ((o.getD (0, 0)).2 : Nat)
/-- the loop's head in newest -/
structure NI (D : Dk) (w : World) (o : Option (Nat × Nat)) (W : World) : Prop where
  own : OwnDisk (fun k => k < w.heap.size) D W
  keeps : Keeps (fun _ => False) w W
  tv : TV w.heap.size (w.heap.size + 1) (.int .u64 0) (.int .i64 0) (gv o) (hv o) W
  g0 : W.frozen? ⟨w.heap.size + 1, 0, none⟩ = false
  g1 : W.frozen? ⟨w.heap.size + 1, 1, none⟩ = false
theorem NI.start {F : Nat → Prop} {D : Dk} {w : World} (h : OwnDisk F D w) : NI D w none ((w.alloc (.cells #[.int .u64 0, .int .i64 0] 90)).alloc (.cells #[.int .u64 0, .int .i64 0] 90)) := by
  have k : Keeps (fun _ => False) w ((w.alloc (.cells #[.int .u64 0, .int .i64 0] 90)).alloc (.cells #[.int .u64 0, .int .i64 0] 90)) := ((Keeps.refl _ _).alloc _).alloc _
  have h1 : ((w.alloc (.cells #[.int .u64 0, .int .i64 0] 90)).alloc (.cells #[.int .u64 0, .int .i64 0] 90)).heap[w.heap.size + 1]? = some (.cells #[.int .u64 0, .int .i64 0] 90 (0, 0)) := by
    have := heap_alloc_last (w.alloc (.cells #[.int .u64 0, .int .i64 0] 90)) (.cells #[.int .u64 0, .int .i64 0] 90)
    simpa using this
  have h2 : ((w.alloc (.cells #[.int .u64 0, .int .i64 0] 90)).alloc (.cells #[.int .u64 0, .int .i64 0] 90)).heap[w.heap.size]? = some (.cells #[.int .u64 0, .int .i64 0] 90 (0, 0)) := by
    have h3 := heap_alloc_last w (.cells #[.int .u64 0, .int .i64 0] 90)
    rw [← h3]
    exact ((Keeps.refl (fun _ => False) _).alloc _).block _ (lt_of_block h3) id
  exact ⟨(h.turn (fun k hk _ => hk)).keepF k, k, ⟨by unfold World.cell?; simp only [h1]; rfl, by unfold World.cell?; simp only [h1]; rfl, by unfold World.cell?; simp only [h2]; rfl, by unfold World.cell?; simp only [h2]; rfl, by unfold World.frozen?; simp only [h2]; rfl, by unfold World.frozen?; simp only [h2]; rfl⟩,
    by unfold World.frozen?; simp only [h1]; rfl, by unfold World.frozen?; simp only [h1]; rfl⟩
theorem NI.keep {D : Dk} {w W W' : World} {o : Option (Nat × Nat)} (h : NI D w o W) (k : Keeps (fun _ => False) W W') : NI D w o W' :=
  have l1 := World.block_lt_of_cell? W _ h.tv.s0
  ⟨h.own.keepF k, h.keeps.trans k, h.tv.keep k, by rw [k.frozen (p := ⟨w.heap.size + 1, 0, none⟩) l1 id]; exact h.g0, by rw [k.frozen (p := ⟨w.heap.size + 1, 1, none⟩) l1 id]; exact h.g1⟩
theorem NI.put {D : Dk} {w W W' : World} {o : Option (Nat × Nat)} (h : NI D w o W) (a b : Nat) (hW : W' = (W.setCell ⟨w.heap.size + 1, 0, none⟩ (.int .u64 a)).setCell ⟨w.heap.size + 1, 1, none⟩ (.int .i64 b)) : NI D w (some (a, b)) W' := by
  have hk : Keeps (fun k => k = w.heap.size + 1) W W' := by rw [hW]; exact ((Keeps.refl (fun k => k = w.heap.size + 1) W).setCell (p := ⟨w.heap.size + 1, 0, none⟩) (.inl rfl) _).setCell (p := ⟨w.heap.size + 1, 1, none⟩) (.inl rfl) _
  have l1 := World.block_lt_of_cell? W _ h.tv.s0
  have l2 := World.block_lt_of_cell? W _ h.tv.v0
  have h1 : (W.setCell ⟨w.heap.size + 1, 0, none⟩ (.int .u64 a)).cell? ⟨w.heap.size + 1, 1, none⟩ = some (hv o) := by rw [World.cell?_setCell_other _ _ _ _ (by simp)]; exact h.tv.s1
  have hne : ¬ (w.heap.size = w.heap.size + 1) := by omega
  refine ⟨h.own.keep hk (fun i _ hi e => by omega), h.keeps.trans' hk (fun i e => .inr (by omega)), ⟨?_, ?_, ?_, ?_, ?_, ?_⟩, ?_, ?_⟩
  · rw [hW, World.cell?_setCell_other _ _ _ _ (by simp)]; exact World.cell?_setCell_same _ _ _ h.tv.s0
  · rw [hW]; exact World.cell?_setCell_same _ _ _ h1
  · rw [hk.cell (p := ⟨w.heap.size, 0, none⟩) l2 hne]; exact h.tv.v0
  · rw [hk.cell (p := ⟨w.heap.size, 1, none⟩) l2 hne]; exact h.tv.v1
  · rw [hk.frozen (p := ⟨w.heap.size, 0, none⟩) l2 hne]; exact h.tv.f0
  · rw [hk.frozen (p := ⟨w.heap.size, 1, none⟩) l2 hne]; exact h.tv.f1
  · rw [hW, World.frozen?_setCell, World.frozen?_setCell]; exact h.g0
  · rw [hW, World.frozen?_setCell, World.frozen?_setCell]; exact h.g1
theorem RS.made {w w1 : World} {x : List UInt8} {t : TypeId} (h : w1 = w.alloc (.cells (x.map bv).toArray t)) : RS w.heap.size x w1 := by
  have hb : w1.heap[w.heap.size]? = some (.cells (x.map bv).toArray t (0, 0)) := by rw [h]; exact heap_alloc_last w _
  intro j u hu
  unfold World.cell?; simp only [hb]
  simpa using hu
theorem OwnDisk.la_len {F : Nat → Prop} {D : Dk} {W : World} (h : OwnDisk F D W) (i : Nat) (hi : i < D.n) : (D.la i).length = 64 := by
  obtain ⟨v, hm, hf⟩ := h
  exact hm.secs.lla i hi
def bestK (D : Dk) : Nat → Option (Nat × Nat)
  | 0 => none
  | k + 1 => pick (bestK D k) (slotOf (D.la k) k)

set_option maxRecDepth 100000 in
set_option maxHeartbeats 4000000 in
theorem newest_any (F : Nat → Prop) (D : Dk) (w : World) (h : OwnDisk F D w) (h2 : 4 ≤ D.n) (hon : D.on = true) : Calls Tryz.prog 32 #[.pointer (some ⟨D.b, 0, none⟩)] w fun e w' => e = .returned (newV (bestK D 2)) ∧ Keeps (fun _ => False) w w' := by
  have hN := Lib.hid (NI.start h)
  clear h
  go_enter Tryz.func32, Tryz.ntmps32
  go_wp2
  go_loopw [6, 13] (fun fv iv wr => ∃ k : Nat, k ≤ 2 ∧ iv = .int .i64 k ∧ fv = .bool (bestK D k).isSome ∧ Hid (NI D w (bestK D k) wr)) (fun _ iv _ => 2 - (intOf iv).toNat)
  case atStart => exact ⟨0, by omega, rfl, rfl, hN⟩
  case round =>
    clear hN
    obtain ⟨k, hk, rfl, rfl, hP⟩ := hrel
    by_cases hlt : k < 2
    · have hlen := hP.out.own.la_len k (by omega)
      have hlen' := Lib.hid hlen; clear hlen
      have hnext : bestK D (k + 1) = pick (bestK D k) (slotOf (D.la k) k) := rfl
      have hnext' := Lib.hid hnext; clear hnext
      obtain ⟨bo, hbo⟩ : ∃ bo, bo = bestK D k := ⟨_, rfl⟩
      rw [← hbo] at hP hnext' ⊢
      have hbo' := Lib.hid hbo; clear hbo
      obtain ⟨so, hso⟩ : ∃ so, so = slotOf (D.la k) k := ⟨_, rfl⟩
      rw [← hso] at hnext'
      have hso' := Lib.hid hso; clear hso
      cases so with
      | none =>
        have hsv : slotV none = .tuple #[.agg #[.int .u64 0, .int .i64 0], .bool false] := rfl
        go_wp2_with (first | (go_at_call 74; refine (own_read_yes _ D _ k hP.out.own hon (by omega)).mono ?_; rintro e w1 ⟨rfl, hw1⟩; have hR1 := Lib.hid (RS.made hw1); have hP1 := Lib.hid (hP.out.keep (Keeps.new hw1)); clear hw1) | (go_at_call 75; refine (readSlot_any (D.la k) k wr.heap.size hlen'.out _ hR1.out).mono ?_; rintro e w2 ⟨rfl, hk2⟩; rw [← hso'.out]; have hP2 := Lib.hid (hP1.out.keep hk2); clear hk2; obtain ⟨hq1, hq2, hq3, hq4, hq5, hq6⟩ := hP2.out.tv; have hq7 := hP2.out.g0; have hq8 := hP2.out.g1; have hq9 := World.block_lt_of_cell? w2 _ hq1; have hq10 := World.block_lt_of_cell? w2 _ hq3; rw [hsv]))
        have hn2 := hnext'.out
        have hP3 := Lib.hid (hP2.out.keep ((Keeps.refl _ _).alloc (.cells #[.int .u64 0, .int .i64 0] 90)))
        have e : bestK D (k + 1) = bo := by rw [hn2]; cases bo <;> rfl
        exact ⟨⟨k + 1, by omega, by go_num, by rw [e], by rw [e]; exact hP3⟩, by simp [intOf]; omega⟩
      | some s =>
        obtain ⟨sg, sh⟩ := s
        have hsv : slotV (some (sg, sh)) = .tuple #[.agg #[.int .u64 sg, .int .i64 sh], .bool true] := rfl
        cases bo with
        | none =>
          have hfo : (none : Option (Nat × Nat)).isSome = false := rfl
          go_wp2_with (first | (go_at_call 74; refine (own_read_yes _ D _ k hP.out.own hon (by omega)).mono ?_; rintro e w1 ⟨rfl, hw1⟩; have hR1 := Lib.hid (RS.made hw1); have hP1 := Lib.hid (hP.out.keep (Keeps.new hw1)); clear hw1) | (go_at_call 75; refine (readSlot_any (D.la k) k wr.heap.size hlen'.out _ hR1.out).mono ?_; rintro e w2 ⟨rfl, hk2⟩; rw [← hso'.out]; have hP2 := Lib.hid (hP1.out.keep hk2); clear hk2; obtain ⟨hq1, hq2, hq3, hq4, hq5, hq6⟩ := hP2.out.tv; have hq7 := hP2.out.g0; have hq8 := hP2.out.g1; have hq9 := World.block_lt_of_cell? w2 _ hq1; have hq10 := World.block_lt_of_cell? w2 _ hq3; rw [hsv]))
          have hn2 := hnext'.out
          have hP3 := Lib.hid ((hP2.out.put sg sh rfl).keep ((Keeps.refl _ _).alloc (.cells #[.int .u64 sg, .int .i64 sh] 90)))
          have e : bestK D (k + 1) = some (sg, sh) := by rw [hn2]; rfl
          exact ⟨⟨k + 1, by omega, by go_num, by rw [e]; rfl, by rw [e]; exact hP3⟩, by simp [intOf]; omega⟩
        | some b =>
          obtain ⟨bg, bh⟩ := b
          have hfo : (some (bg, bh)).isSome = true := rfl
          have hgv : gv (some (bg, bh)) = .int .u64 bg := rfl
          have hhv : hv (some (bg, bh)) = .int .i64 bh := rfl
          by_cases hbs : bg < sg
          · go_wp2_with (first | (go_at_call 74; refine (own_read_yes _ D _ k hP.out.own hon (by omega)).mono ?_; rintro e w1 ⟨rfl, hw1⟩; have hR1 := Lib.hid (RS.made hw1); have hP1 := Lib.hid (hP.out.keep (Keeps.new hw1)); clear hw1) | (go_at_call 75; refine (readSlot_any (D.la k) k wr.heap.size hlen'.out _ hR1.out).mono ?_; rintro e w2 ⟨rfl, hk2⟩; rw [← hso'.out]; have hP2 := Lib.hid (hP1.out.keep hk2); clear hk2; obtain ⟨hq1, hq2, hq3, hq4, hq5, hq6⟩ := hP2.out.tv; rw [hgv] at hq1; rw [hhv] at hq2; have hq7 := hP2.out.g0; have hq8 := hP2.out.g1; have hq9 := World.block_lt_of_cell? w2 _ hq1; have hq10 := World.block_lt_of_cell? w2 _ hq3; rw [hsv]))
            have hn2 := hnext'.out
            have hP3 := Lib.hid ((hP2.out.put sg sh rfl).keep ((Keeps.refl _ _).alloc (.cells #[.int .u64 sg, .int .i64 sh] 90)))
            have e : bestK D (k + 1) = some (sg, sh) := by rw [hn2]; show (if bg < sg then some (sg, sh) else some (bg, bh)) = _; rw [if_pos hbs]
            exact ⟨⟨k + 1, by omega, by go_num, by rw [e]; rfl, by rw [e]; exact hP3⟩, by simp [intOf]; omega⟩
          · go_wp2_with (first | (go_at_call 74; refine (own_read_yes _ D _ k hP.out.own hon (by omega)).mono ?_; rintro e w1 ⟨rfl, hw1⟩; have hR1 := Lib.hid (RS.made hw1); have hP1 := Lib.hid (hP.out.keep (Keeps.new hw1)); clear hw1) | (go_at_call 75; refine (readSlot_any (D.la k) k wr.heap.size hlen'.out _ hR1.out).mono ?_; rintro e w2 ⟨rfl, hk2⟩; rw [← hso'.out]; have hP2 := Lib.hid (hP1.out.keep hk2); clear hk2; obtain ⟨hq1, hq2, hq3, hq4, hq5, hq6⟩ := hP2.out.tv; rw [hgv] at hq1; rw [hhv] at hq2; have hq7 := hP2.out.g0; have hq8 := hP2.out.g1; have hq9 := World.block_lt_of_cell? w2 _ hq1; have hq10 := World.block_lt_of_cell? w2 _ hq3; rw [hsv]))
            have hn2 := hnext'.out
            have hP3 := Lib.hid (hP2.out.keep ((Keeps.refl _ _).alloc (.cells #[.int .u64 sg, .int .i64 sh] 90)))
            have e : bestK D (k + 1) = some (bg, bh) := by rw [hn2]; show (if bg < sg then some (sg, sh) else some (bg, bh)) = _; rw [if_neg hbs]
            exact ⟨⟨k + 1, by omega, by go_num, by rw [e]; rfl, by rw [e]; exact hP3⟩, by simp [intOf]; omega⟩
    · obtain rfl : k = 2 := by omega
      obtain ⟨og, hog⟩ : ∃ og : Nat, og = ((bestK D 2).getD (0, 0)).1 := ⟨_, rfl⟩
      obtain ⟨oh, hoh⟩ : ∃ oh : Nat, oh = ((bestK D 2).getD (0, 0)).2 := ⟨_, rfl⟩
      have hgv : gv (bestK D 2) = .int .u64 og := by rw [hog]; rfl
      have hhv : hv (bestK D 2) = .int .i64 oh := by rw [hoh]; rfl
      have hnv : newV (bestK D 2) = .tuple #[.agg #[.int .u64 og, .int .i64 oh], .bool (bestK D 2).isSome, .int .i64 0] := by rw [hog, hoh]; rfl
      have hnv' := Lib.hid hnv
      have hT := Lib.hid hP.out.tv
      have hK := Lib.hid hP.out.keeps
      obtain ⟨hq1, hq2, hq3, hq4, hq5, hq6⟩ := hP.out.tv
      rw [hgv] at hq1
      rw [hhv] at hq2
      clear hog hoh hgv hhv hnv
      go_wp2_with fail
      obtain ⟨Wc, hWc⟩ : ∃ Wc, Wc = (wr.setCell ⟨w.heap.size, 0, none⟩ (.int .u64 og)).setCell ⟨w.heap.size, 1, none⟩ (.int .i64 oh) := ⟨_, rfl⟩
      rw [← hWc]
      obtain ⟨c0, c1, hkc⟩ := hT.out.put (.int .u64 og) (.int .i64 oh) Wc hWc
      clear hWc hq1 hq2 hq3 hq4 hq5 hq6
      refine bodyPost_ret (v := .tuple #[.agg #[.int .u64 og, .int .i64 oh], .bool (bestK D 2).isSome, .int .i64 0]) (by simp [results, Tryz.results32, go_sem, c0, c1]) rfl ⟨by rw [hnv'.out], hK.out.trans' hkc (fun k e => .inr (by rw [e]; exact Nat.le_refl _))⟩
end Go.Proofs.YtdannodhlaaoiaaGreatDoor
