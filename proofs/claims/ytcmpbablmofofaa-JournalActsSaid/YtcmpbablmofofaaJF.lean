/- Slots and frames read. -/
import Derived.Test.YtcmpbablmofofaaJG
namespace Go.Proofs.Ytcmpbablmofofaa
open Go.RowKit

/-- what a sector tells as slot i -/
def slotOf (x : List UInt8) (i : Nat) : Option (Nat × Nat) :=
  let gen := beVal ((x.drop 4).take 8)
  let half := (x.getD 12 0).toNat
  if half ≤ 1 ∧ gen % 2 = i ∧ x = slotB gen half then some (gen, half) else none
def slotV (o : Option (Nat × Nat)) : Value := .tuple #[.agg #[.int .u64 ((o.getD (0, 0)).1 : Nat), .int .i64 ((o.getD (0, 0)).2 : Nat)], .bool o.isSome]

theorem Keeps.new {w w1 : World} {ob : Obj} (h : w1 = w.alloc ob) : Keeps (fun _ => False) w w1 := by rw [h]; exact (Keeps.refl _ _).alloc _
theorem two_vars {w Wa Wb : World} {a b c d : Value} {t : TypeId} (h : Wa = w.alloc (.cells #[a, b] t)) (hb : Wb = (Wa.alloc (.cells #[c, d] t)).drew) :
    Wb.cell? ⟨Wa.heap.size, 0, none⟩ = some c ∧ Wb.cell? ⟨Wa.heap.size, 1, none⟩ = some d ∧ Wb.cell? ⟨w.heap.size, 0, none⟩ = some a ∧ Wb.cell? ⟨w.heap.size, 1, none⟩ = some b ∧
    Wb.frozen? ⟨w.heap.size, 0, none⟩ = false ∧ Wb.frozen? ⟨w.heap.size, 1, none⟩ = false ∧ Keeps (fun _ => False) Wa Wb ∧ w.heap.size < Wa.heap.size := by
  have k : Keeps (fun _ => False) Wa Wb := by rw [hb]; exact ((Keeps.refl _ _).alloc _).drew
  have h1 : Wb.heap[Wa.heap.size]? = some (.cells #[c, d] t (0, 0)) := by rw [hb]; exact heap_alloc_last Wa _
  have h2 : Wa.heap[w.heap.size]? = some (.cells #[a, b] t (0, 0)) := by rw [h]; exact heap_alloc_last w _
  have h3 : Wb.heap[w.heap.size]? = some (.cells #[a, b] t (0, 0)) := by rw [k.block _ (lt_of_block h2) id]; exact h2
  refine ⟨by unfold World.cell?; simp only [h1]; rfl, by unfold World.cell?; simp only [h1]; rfl, by unfold World.cell?; simp only [h3]; rfl, by unfold World.cell?; simp only [h3]; rfl, by unfold World.frozen?; simp only [h3]; rfl, by unfold World.frozen?; simp only [h3]; rfl, k, lt_of_block h2⟩
/-- a struct of two in b, one in a that may be written -/
structure TV (a b : Nat) (v0 v1 c d : Value) (W : World) : Prop where
  s0 : W.cell? ⟨b, 0, none⟩ = some c
  s1 : W.cell? ⟨b, 1, none⟩ = some d
  v0 : W.cell? ⟨a, 0, none⟩ = some v0
  v1 : W.cell? ⟨a, 1, none⟩ = some v1
  f0 : W.frozen? ⟨a, 0, none⟩ = false
  f1 : W.frozen? ⟨a, 1, none⟩ = false
theorem TV.keep {a b : Nat} {v0 v1 c d : Value} {W W' : World} (h : TV a b v0 v1 c d W) (k : Keeps (fun _ => False) W W') : TV a b v0 v1 c d W' :=
  have l1 := World.block_lt_of_cell? W _ h.s0
  have l2 := World.block_lt_of_cell? W _ h.v0
  ⟨by rw [k.cell (p := ⟨b, 0, none⟩) l1 id]; exact h.s0, by rw [k.cell (p := ⟨b, 1, none⟩) l1 id]; exact h.s1, by rw [k.cell (p := ⟨a, 0, none⟩) l2 id]; exact h.v0, by rw [k.cell (p := ⟨a, 1, none⟩) l2 id]; exact h.v1,
   by rw [k.frozen (p := ⟨a, 0, none⟩) l2 id]; exact h.f0, by rw [k.frozen (p := ⟨a, 1, none⟩) l2 id]; exact h.f1⟩
theorem TV.put {a b : Nat} {v0 v1 c d : Value} {W : World} (h : TV a b v0 v1 c d W) (x y : Value) (W' : World) (hW : W' = (W.setCell ⟨a, 0, none⟩ x).setCell ⟨a, 1, none⟩ y) :
    W'.cell? ⟨a, 0, none⟩ = some x ∧ W'.cell? ⟨a, 1, none⟩ = some y ∧ Keeps (fun k => k = a) W W' := by
  subst hW
  have h1 : (W.setCell ⟨a, 0, none⟩ x).cell? ⟨a, 1, none⟩ = some v1 := by rw [World.cell?_setCell_other _ _ _ _ (by simp)]; exact h.v1
  refine ⟨?_, World.cell?_setCell_same _ _ _ h1, ((Keeps.refl (fun k => k = a) _).setCell (p := ⟨a, 0, none⟩) (.inl rfl) x).setCell (p := ⟨a, 1, none⟩) (.inl rfl) y⟩
  rw [World.cell?_setCell_other _ _ _ _ (by simp)]
  exact World.cell?_setCell_same _ _ _ h.v0
theorem slotOf_none {x : List UInt8} {i gen half : Nat} (hg : gen = beVal ((x.drop 4).take 8)) (hx : 12 < x.length) (hh : half = (x[12]'hx).toNat) (h : ¬ (half ≤ 1 ∧ gen % 2 = i ∧ x = slotB gen half)) : slotOf x i = none := by
  unfold slotOf
  have e : x.getD 12 0 = x[12]'hx := by rw [List.getD_eq_getElem?_getD, List.getElem?_eq_getElem hx]; rfl
  simp only [e, ← hg, ← hh]
  rw [if_neg h]
theorem slotOf_some {x : List UInt8} {i gen half : Nat} (hg : gen = beVal ((x.drop 4).take 8)) (hx : 12 < x.length) (hh : half = (x[12]'hx).toNat) (h : half ≤ 1 ∧ gen % 2 = i ∧ x = slotB gen half) : slotOf x i = some (gen, half) := by
  unfold slotOf
  have e : x.getD 12 0 = x[12]'hx := by rw [List.getD_eq_getElem?_getD, List.getElem?_eq_getElem hx]; rfl
  simp only [e, ← hg, ← hh]
  rw [if_pos h]
def RS (g : Nat) (x : List UInt8) (W : World) : Prop := W.rangeAt g 0 (x.map bv)
theorem RS.cell {g : Nat} {x : List UInt8} (i : Nat) (hi : i < x.length) : ∀ W : World, RS g x W → W.cell? ⟨g, i, none⟩ = some (.int .u8 (x[i]).toNat) := fun W h => by
  have := h i (bv x[i]) (by simp [hi])
  rw [Nat.zero_add] at this
  exact this
theorem RS.part {g : Nat} {x : List UInt8} {W : World} (h : RS g x W) (o n : Nat) : W.rangeAt g o (((x.drop o).take n).map bv) := fun j u hu => by
  rw [List.map_take, List.getElem?_take] at hu
  split at hu
  · rw [List.map_drop, List.getElem?_drop] at hu
    have := h (o + j) u hu
    simpa using this
  · cases hu
theorem RS.bytes64 {g : Nat} {x : List UInt8} {W : World} (h : RS g x W) (hx : x.length = 64) : BytesAt W (.slice (some ⟨g, 0, none⟩) 64 64) x :=
  ⟨_, 64, by rw [hx], (fun e => by cases e), by rw [hx]; exact Nat.le_refl _, fun _ => ⟨g, 0, rfl, h⟩⟩
theorem BufAt.whole {w : World} {g : Nat} {x : List UInt8} (h : BufAt w g x) : BytesAt w (.slice (some ⟨g, 0, none⟩) x.length x.length) x := ⟨_, _, rfl, (fun h => by cases h), Nat.le_refl _, fun _ => ⟨g, 0, rfl, h.range⟩⟩
theorem RS.keep {g : Nat} {x : List UInt8} {W W' : World} (h : RS g x W) (k : Keeps (fun _ => False) W W') : RS g x W' := k.rangeAt h id

set_option maxRecDepth 100000 in
set_option maxHeartbeats 2000000 in
theorem readSlot_any (x : List UInt8) (i g : Nat) (hx : x.length = 64) (w : World) (h : RS g x w) :
    Calls Try.prog 67 #[.slice (some ⟨g, 0, none⟩) 64 64, .int .i64 i] w fun e w' => e = .returned (slotV (slotOf x i)) ∧ Keeps (fun _ => False) w w' := by
  have h' := Lib.hid h; clear h
  have hcell := RS.cell (g := g) (x := x) 12 (by omega)
  have hgv : beVal ((x.drop 4).take 8) < 18446744073709551616 := by
    have := beVal_lt ((x.drop 4).take 8)
    rw [show ((x.drop 4).take 8).length = 8 by simp; omega] at this
    exact this
  have hh := (x[12]'(by omega)).toNat_lt
  obtain ⟨gen, hgen⟩ : ∃ m, m = beVal ((x.drop 4).take 8) := ⟨_, rfl⟩
  obtain ⟨half, hhalf⟩ : ∃ m, m = (x[12]'(by omega)).toNat := ⟨_, rfl⟩
  rw [← hgen] at hgv
  rw [← hhalf] at hcell hh
  have hgen' := Lib.hid hgen; clear hgen
  have hhalf' := Lib.hid hhalf; clear hhalf
  have hwr : IntKind.i64.wrap (half : Int) = half := by
    have : (half : Int) < 256 := by omega
    simp [IntKind.wrap, IntKind.signed, IntKind.bits]; omega
  go_enter Try.func67, Try.ntmps67
  go_wp2
  obtain ⟨Wa, hWa⟩ : ∃ Wa, Wa = w.alloc (.cells #[.int .u64 0, .int .i64 0] 93) := ⟨_, rfl⟩
  rw [← hWa]
  have hka := Lib.hid (Keeps.new hWa)
  have hWa' := Lib.hid hWa; clear hWa
  have hRa := Lib.hid (h'.out.keep hka.out)
  refine wp_region_noPanic ?_
  refine wp_region_held_drew (S := (RS g x)) (by kernel_rfl) ((hRa.out)) (fun hHeld => ?_)
  refine tk 0 rfl ?_
  refine tk 1 rfl ?_
  refine tk 3 rfl ?_
  refine tk 4 rfl ?_
  refine tk 5 rfl ?_
  refine tk 6 rfl ?_
  have hHeld' := hHeld
  refine step2L 2 8 rfl rfl (by kernel_rfl) (fun K hK => ?_) (fun K hK => ?_)
  focus
    go_simp
    refine (read64_any g 4 60 ((x.drop 4).take 8) (by simp; omega) Wa.drew (Lib.hid (hRa.out.part 4 8))).mono ?_
    rintro e w' ⟨rfl, rfl⟩
    rw [← hgen'.out]
    go_wp2_with fail
    refine hK.out _ _ hHeld (fun hHeld => ?_)
    clear hK K
    try simp only [Act.put, sA, sZ, sS]
    refine tk 7 rfl ?_
    refine stepL 8 rfl (by kernel_rfl) (fun K hK => ?_)
    go_simp
    refine hK.out _ _ ((hHeld.keep ((Keeps.refl _ _).alloc _))) (fun hHeld => ?_)
    clear hK K
    try simp only [Act.put, sA, sZ, sS]
    refine stepL 9 rfl (by kernel_rfl) (fun K hK => ?_)
    go_simp
    refine hK.out _ _ ((hHeld'.keep ((Keeps.refl _ _).alloc _))) (fun hHeld => ?_)
    clear hK K
    try simp only [Act.put, sA, sZ, sS]
    refine wpAnyH_done (by kernel_rfl) (NoPanic.normal ?_) _
  rotate_left
  focus
    go_simp
    refine hK.out _ _ ((hHeld.keep ((Keeps.refl _ _).alloc _))) (fun hHeld => ?_)
    clear hK K
    try simp only [Act.put, sA, sZ, sS]
    refine stepL 2 rfl (by kernel_rfl) (fun K hK => ?_)
    go_simp
    (refine (read64_any g 4 60 ((x.drop 4).take 8) (by simp; omega) (Wa.alloc (.cells #[.int .u64 0, .int .i64 0] 93)).drew (Lib.hid (hHeld.part 4 8))).mono ?_; rintro e w' ⟨rfl, rfl⟩; rw [← hgen'.out])
    go_wp2_with fail
    refine hK.out _ _ (hHeld) (fun hHeld => ?_)
    clear hK K
    try simp only [Act.put, sA, sZ, sS]
    refine tk 7 rfl ?_
    refine stepL 9 rfl (by kernel_rfl) (fun K hK => ?_)
    go_simp
    refine hK.out _ _ ((hHeld'.keep ((Keeps.refl _ _).alloc _))) (fun hHeld => ?_)
    clear hK K
    try simp only [Act.put, sA, sZ, sS]
    refine wpAnyH_done (by kernel_rfl) (NoPanic.normal ?_) _
  all_goals
    obtain ⟨Wb, hWb⟩ : ∃ Wb, Wb = (Wa.alloc (.cells #[.int .u64 gen, .int .i64 half] 93)).drew := ⟨_, rfl⟩
    rw [← hWb]
    obtain ⟨s0, s1, v0, v1, f0, f1, hkb, hlt⟩ := two_vars hWa'.out hWb
    clear hWb
    have hRb := Lib.hid (hRa.out.keep hkb); clear hHeld
    have hkw := Lib.hid (hka.out.trans hkb); clear hkb
    have hT := Lib.hid (TV.mk s0 s1 v0 v1 f0 f1)
    by_cases hh1 : half ≤ 1
    · by_cases hgi : gen % 2 = i
      · by_cases heq : x = slotB gen half
        · have heq' := heq
          replace heq : (x == slotB gen half) = true := by simp [heq]
          have heq2 := Lib.hid heq'; clear heq'
          go_wp2_with (first | (go_at_call 52; refine (slotAt_any gen _ hgv _).mono ?_; rintro e wA ⟨rfl, hkA⟩; have hTA := Lib.hid (hT.out.keep hkA); have hkA' := Lib.hid hkA; clear hkA s0 s1 v0 v1 f0 f1; obtain ⟨s0, s1, v0, v1, f0, f1⟩ := hTA.out; rw [hgi]) | (go_at_call 54; refine (sector_any gen half hgv hh1 _).mono ?_; rintro e wB ⟨sb, rfl, hsb, hBB, hkB⟩; have hTB := Lib.hid (hTA.out.keep hkB); have hkB' := Lib.hid (hkA'.out.trans hkB); have hBB' := Lib.hid hBB; clear hBB hkB s0 s1 v0 v1 f0 f1; obtain ⟨s0, s1, v0, v1, f0, f1⟩ := hTB.out) | (go_at_call 75; refine (bytesEqual_any _ _ x (slotB gen half) _ ((hRb.out.keep hkB'.out).bytes64 hx) hBB'.out.whole (by omega) (by rw [slotB_len]; omega)).mono ?_; rintro e w' ⟨rfl, rfl⟩; rw [heq]))
          go_wp2_with fail
          obtain ⟨Wc, hWc⟩ : ∃ Wc, Wc = (wB.setCell ⟨w.heap.size, 0, none⟩ (.int .u64 gen)).setCell ⟨w.heap.size, 1, none⟩ (.int .i64 half) := ⟨_, rfl⟩
          rw [← hWc]
          obtain ⟨c0, c1, hkc⟩ := hTB.out.put (.int .u64 gen) (.int .i64 half) Wc hWc
          clear hWc s0 s1 v0 v1 f0 f1
          refine bodyPost_ret (v := slotV (some (gen, half))) (by simp [results, Try.results67, go_sem, c0, c1, slotV]) rfl ⟨by rw [slotOf_some hgen'.out _ hhalf'.out ⟨hh1, hgi, heq2.out⟩], (hkw.out.trans hkB'.out).trans' hkc (fun k e => .inr (by rw [e]; exact Nat.le_refl _))⟩

        · have heq2 := Lib.hid heq
          replace heq : (x == slotB gen half) = false := by simp [heq]
          go_wp2_with (first | (go_at_call 52; refine (slotAt_any gen _ hgv _).mono ?_; rintro e wA ⟨rfl, hkA⟩; have hTA := Lib.hid (hT.out.keep hkA); have hkA' := Lib.hid hkA; clear hkA s0 s1 v0 v1 f0 f1; obtain ⟨s0, s1, v0, v1, f0, f1⟩ := hTA.out; rw [hgi]) | (go_at_call 54; refine (sector_any gen half hgv hh1 _).mono ?_; rintro e wB ⟨sb, rfl, hsb, hBB, hkB⟩; have hTB := Lib.hid (hTA.out.keep hkB); have hkB' := Lib.hid (hkA'.out.trans hkB); have hBB' := Lib.hid hBB; clear hBB hkB s0 s1 v0 v1 f0 f1; obtain ⟨s0, s1, v0, v1, f0, f1⟩ := hTB.out) | (go_at_call 75; refine (bytesEqual_any _ _ x (slotB gen half) _ ((hRb.out.keep hkB'.out).bytes64 hx) hBB'.out.whole (by omega) (by rw [slotB_len]; omega)).mono ?_; rintro e w' ⟨rfl, rfl⟩; rw [heq]))
          go_wp2_with fail
          obtain ⟨Wc, hWc⟩ : ∃ Wc, Wc = (wB.setCell ⟨w.heap.size, 0, none⟩ (.int .u64 0)).setCell ⟨w.heap.size, 1, none⟩ (.int .i64 0) := ⟨_, rfl⟩
          rw [← hWc]
          obtain ⟨c0, c1, hkc⟩ := hTB.out.put (.int .u64 0) (.int .i64 0) Wc hWc
          clear hWc s0 s1 v0 v1 f0 f1
          refine bodyPost_ret (v := slotV (none)) (by simp [results, Try.results67, go_sem, c0, c1, slotV]) rfl ⟨by rw [slotOf_none hgen'.out _ hhalf'.out (fun h => heq2.out h.2.2)], (hkw.out.trans hkB'.out).trans' hkc (fun k e => .inr (by rw [e]; exact Nat.le_refl _))⟩

      · have hgi2 := Lib.hid hgi
        have hgi3 : ((gen % 2 : Nat) : Int) ≠ i := by omega
        go_wp2_with (first | (go_at_call 52; refine (slotAt_any gen _ hgv _).mono ?_; rintro e wA ⟨rfl, hkA⟩; have hTA := Lib.hid (hT.out.keep hkA); have hkA' := Lib.hid hkA; clear hkA s0 s1 v0 v1 f0 f1; obtain ⟨s0, s1, v0, v1, f0, f1⟩ := hTA.out))
        go_wp2_with fail
        obtain ⟨Wc, hWc⟩ : ∃ Wc, Wc = (wA.setCell ⟨w.heap.size, 0, none⟩ (.int .u64 0)).setCell ⟨w.heap.size, 1, none⟩ (.int .i64 0) := ⟨_, rfl⟩
        rw [← hWc]
        obtain ⟨c0, c1, hkc⟩ := hTA.out.put (.int .u64 0) (.int .i64 0) Wc hWc
        clear hWc s0 s1 v0 v1 f0 f1
        refine bodyPost_ret (v := slotV (none)) (by simp [results, Try.results67, go_sem, c0, c1, slotV]) rfl ⟨by rw [slotOf_none hgen'.out _ hhalf'.out (fun h => hgi2.out h.2.1)], (hkw.out.trans hkA'.out).trans' hkc (fun k e => .inr (by rw [e]; exact Nat.le_refl _))⟩

    · have hh2 := Lib.hid hh1
      go_wp2_with fail
      obtain ⟨Wc, hWc⟩ : ∃ Wc, Wc = (Wb.setCell ⟨w.heap.size, 0, none⟩ (.int .u64 0)).setCell ⟨w.heap.size, 1, none⟩ (.int .i64 0) := ⟨_, rfl⟩
      rw [← hWc]
      obtain ⟨c0, c1, hkc⟩ := hT.out.put (.int .u64 0) (.int .i64 0) Wc hWc
      clear hWc s0 s1 v0 v1 f0 f1
      refine bodyPost_ret (v := slotV (none)) (by simp [results, Try.results67, go_sem, c0, c1, slotV]) rfl ⟨by rw [slotOf_none hgen'.out _ hhalf'.out (fun h => hh2.out h.1)], (hkw.out).trans' hkc (fun k e => .inr (by rw [e]; exact Nat.le_refl _))⟩

end Go.Proofs.Ytcmpbablmofofaa
