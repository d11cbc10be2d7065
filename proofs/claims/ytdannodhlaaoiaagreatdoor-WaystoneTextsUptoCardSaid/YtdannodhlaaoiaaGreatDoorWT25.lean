/- conf.Text of one line of head 1 (gen_cft.py). -/
import Derived.Test.YtdannodhlaaoiaaGreatDoorWT24
set_option linter.unusedVariables false
set_option linter.unusedSimpArgs false
set_option linter.unusedVariables false
set_option linter.unusedSimpArgs false
namespace Go.Proofs.YtdannodhlaaoiaaGreatDoor
open Go.RowKit

set_option maxRecDepth 100000 in
theorem written_any (h : Int) (N F V T : ByteArray) (w : World) (hF : F.size ≤ 100000) (hV : V.size ≤ 100000) (hT : Hid (T = F ++ ⟨#[32]⟩ ++ V ++ ⟨#[59, 10]⟩)) :
    Calls Tryz.prog 27 #[.agg #[.int .i64 h, .string N, .string F, .string V]] w (NewRes (.string T) w) := by
  go_enter Tryz.func27, Tryz.ntmps27
  go_wp2
  go_ret
  exact ⟨by rw [hT.out]; rfl, (Keeps.refl _ _).alloc _⟩
theorem headWord_one (w : World) : Calls Tryz.prog 29 #[.int .i64 1] w (NewRes (.string ⟨#[97, 114, 101, 97]⟩) w) := by
  go_enter Tryz.func29, Tryz.ntmps29
  go_wp2
  go_ret
  exact ⟨rfl, Keeps.refl _ _⟩
theorem IsB.keep {B b : Nat} {bs : List Value} {w w' : World} (h : IsB B b bs w) (k : Keeps (fun _ => False) w w') : IsB B b bs w' := by
  have f : ∀ p, Lib.BuilderAt 74 5 B b p bs w → Lib.BuilderAt 74 5 B b p bs w' := fun p h => by
    obtain ⟨hB, v, hbk, hown, hne⟩ := h
    have hx : b < w.heap.size := by
      rcases Nat.lt_or_ge b w.heap.size with h' | h'
      · exact h'
      · simp [Array.getElem?_eq_none h'] at hbk
    exact ⟨hB, v, by rw [k.block b hx id]; exact hbk, k.ownsRow hown (fun _ _ f => f), hne⟩
  rcases h with h | h
  · exact .inl (f _ h)
  · exact .inr (f _ h)
theorem IsB.new (w : World) : IsB w.heap.size w.heap.size (Lib.byteCells []) (w.alloc (.cells #[.pointer none, .slice none 0 0] 74)) :=
  .inl ⟨Nat.le_refl _, .slice none 0 0, heap_alloc_last w _, ⟨rfl, .inl ⟨rfl, rfl⟩⟩, by simp [Value.ownBlock]⟩
theorem Below.keepsB {B : Nat} {w w' : World} (h : Below B w w') : Keeps (fun i => B ≤ i) w w' := ⟨h.os, h.tape, h.output, h.size, fun k hk hn => h.block k (by omega)⟩

set_option maxRecDepth 100000 in
set_option maxHeartbeats 4000000 in
theorem text_one (g o c : Nat) (N F V T1 T2 T3 T : ByteArray) (w : World) (hrow : Hid (w.rangeAt g o [.int .i64 1, .string N, .string F, .string V])) (hr : Hid (rightC [⟨1, N.data.toList, F.data.toList, V.data.toList⟩] = true))
    (hN : N.size ≤ 100) (hF : F.size ≤ 100) (hV : V.size ≤ 100) (h1 : Hid (T1 = ⟨#[97, 114, 101, 97]⟩ ++ ⟨#[32]⟩ ++ N ++ ⟨#[32, 123, 10]⟩)) (h2 : Hid (T2 = F ++ ⟨#[32]⟩ ++ V ++ ⟨#[59, 10]⟩)) (h3 : Hid (T3 = ⟨#[32, 32]⟩ ++ T2))
    (s1 : T1.size ≤ 1000) (s2 : T2.size ≤ 1000) (s3 : T3.size ≤ 1000) (hT : Hid (T = ⟨(T1.data.toList ++ T3.data.toList ++ [125, 10]).toArray⟩)) :
    Calls Tryz.prog 7 #[.slice (some ⟨g, o, none⟩) 1 c] w (NewRes (.string T) w) := by
  have hLn : Hid (LinesAt w (.slice (some ⟨g, o, none⟩) 1 c) [⟨1, N.data.toList, F.data.toList, V.data.toList⟩]) := Lib.hid ⟨_, c, rfl, fun _ => ⟨g, o, rfl, fun i l hl => by
    cases i with
    | zero => simp at hl; subst hl; rw [show o + 0 * 4 = o by omega]; exact hrow.out
    | succ i => simp at hl⟩⟩
  have hlt : Hid (LinesLt [⟨1, N.data.toList, F.data.toList, V.data.toList⟩] 9223372036854775807) := Lib.hid (fun l hl => by
    simp at hl; subst hl
    have e1 : N.data.toList.length = N.size := by simp
    have e2 : F.data.toList.length = F.size := by simp
    have e3 : V.data.toList.length = V.size := by simp
    exact ⟨by show N.data.toList.length ≤ _; omega, by show F.data.toList.length ≤ _; omega, by show V.data.toList.length ≤ _; omega⟩)
  go_enter Tryz.func7, Tryz.ntmps7
  go_wp2_with fail
  refine (right_c _ [⟨1, N.data.toList, F.data.toList, V.data.toList⟩] true _ hLn (by simp) hlt hr).mono ?_
  rintro e w2 ⟨rfl, k2⟩
  have k2' := Lib.hid k2
  have hg2 : g < w2.heap.size := World.block_lt_of_cell? w2 ⟨g, o + 0, none⟩ (k2.rangeAt hrow.out id 0 _ rfl)
  have hrow2 := Lib.hid (k2.rangeAt hrow.out id)
  clear k2 hLn hlt hr
  have hI0 := Lib.hid (IsB.new w2)
  have hK0 : Hid (KeepsT w2.heap.size w2 (w2.alloc (.cells #[.pointer none, .slice none 0 0] 74))) := Lib.hid (KeepsT.of ((Keeps.refl _ _).alloc _))
  go_wp2_with fail
  go_loopw [11] (fun iv wr => ∃ (k : Nat), k ≤ 1 ∧ iv = .int .i64 k ∧ Hid (IsB w2.heap.size w2.heap.size (Lib.byteCells (if k = 0 then [] else T1.data.toList ++ T3.data.toList ++ [125, 10])) wr) ∧ Hid (KeepsT w2.heap.size w2 wr)) (fun iv _ => 1 - (intOf iv).toNat)
  case atStart => exact ⟨0, by omega, rfl, hI0, hK0⟩
  case round =>
    obtain ⟨k, hk, rfl, hI, hKr⟩ := hrel
    by_cases hk0 : k = 0
    · subst hk0
      have hI1 : Hid (IsB w2.heap.size w2.heap.size (Lib.byteCells []) wr) := Lib.hid hI.out
      have hrw : Hid (wr.rangeAt g (o + 0 * 4) [.int .i64 1, .string N, .string F, .string V]) := Lib.hid (by rw [Nat.zero_mul, Nat.add_zero]; exact hKr.out.k.rangeAt hrow2.out (by omega))
      have hBx : Hid (BlkAt (wr.alloc (.cells #[.int .i64 1, .string N, .string F, .string V] 50)) wr.heap.size 50 [.int .i64 1, .string N, .string F, .string V]) := Lib.hid (BlkAt.new _ _ _)
      have hIx : Hid (IsB w2.heap.size w2.heap.size (Lib.byteCells []) (wr.alloc (.cells #[.int .i64 1, .string N, .string F, .string V] 50))) := Lib.hid (hI1.out.keep ((Keeps.refl _ _).alloc _))
      have hKx : Hid (KeepsT w2.heap.size w2 (wr.alloc (.cells #[.int .i64 1, .string N, .string F, .string V] 50))) := Lib.hid (hKr.out.trans (KeepsT.of ((Keeps.refl _ _).alloc _)))
      clear hI hI1 hKr hI0 hK0
      have c0 := hBx.out.cell 0 _ rfl
      go_upto_region 9 with (first | ((with_reducible refine at_slot 15 ?_); refine wpList_load_mid rfl 50 (.tmp 14) rfl g (o + 0 * 4) rfl [.int .i64 1, .string N, .string F, .string V] _ hrw.out Tryz.underlying50 rfl lineInfo ?_) | ((with_reducible refine at_store 5 ?_); refine wpList_store_new rfl 50 (.tmp 5) (.tmp 15) rfl _ #[.int .i64 1, .string N, .string F, .string V] rfl rfl lineInfo rfl (line_one _ _ _ _) ?_))
      clear c0
      generalize hgx : wr.heap.size = gx at hBx ⊢
      generalize hWx : wr.alloc (.cells #[.int .i64 1, .string N, .string F, .string V] 50) = Wx at hBx hIx hKx ⊢
      clear hgx hWx hrw
      refine wp_region_noPanic ?_
      refine wp_region_held_drew (S := (fun W => Keeps (fun _ => False) Wx W)) (by kernel_rfl) (((Keeps.refl _ _).drew)) (fun hHeld => ?_)
      refine tk 0 rfl ?_
      refine tk 1 rfl ?_
      refine tk 2 rfl ?_
      refine tkS 3 rfl ?_
      refine tkS 4 rfl ?_
      refine tkS 5 rfl ?_
      refine tkS 6 rfl ?_
      refine tkS 7 rfl ?_
      refine tkS 8 rfl ?_
      refine tkS 9 rfl ?_
      refine tkS 10 rfl ?_
      refine tk 11 rfl ?_
      refine wpAnyH_done (by kernel_rfl) (NoPanic.normal ?_) _
      have hB1 := Lib.hid (hBx.out.keep hHeld id)
      have hI1 := Lib.hid (hIx.out.keep hHeld)
      have hK1 := Lib.hid (hKx.out.trans (KeepsT.of hHeld))
      clear hHeld hBx hIx hKx
      go_upto_region 10 with fail
      generalize Wx.drew = Wy at hB1 hI1 hK1 ⊢
      refine wp_region_noPanic ?_
      refine wp_region_held_drew (S := (fun W => KeepsT w2.heap.size Wy W)) (by kernel_rfl) ((KeepsT.of (Keeps.refl _ _).drew)) (fun hHeld => ?_)
      refine tk 0 rfl ?_
      refine tkL 1 rfl (yieldsIf_load_cell (by rfl) 3 (.tmp 34) rfl gx 0 rfl _ (fun _ s => (KeepsT.blk s hB1.out (by decide) (by decide)).cell 0 _ rfl) (fun w s => load_int w _ _ _ s)) ?_
      refine tk 4 rfl ?_
      refine tkL 5 rfl (yieldsIf_load_cell (by rfl) 9 (.tmp 38) rfl gx 1 rfl _ (fun _ s => (KeepsT.blk s hB1.out (by decide) (by decide)).cell 1 _ rfl) (fun w s => load_str w _ _ _ s)) ?_
      refine stepL 2 rfl (by kernel_rfl) (fun K hK => ?_)
      go_simp
      (refine (headWord_one _).mono ?_; rintro e w4 ⟨rfl, k4⟩; have k4' := Lib.hid k4; have hI4 := Lib.hid (hI1.out.keep (((Keeps.refl _ _).drew).trans k4)); clear k4)
      go_wp2_with fail
      refine hK.out _ _ ((KeepsT.trans hHeld (KeepsT.of k4'.out))) (fun hHeld => ?_)
      clear hK K
      try simp only [Act.put, sA, sZ, sS]
      refine tk 3 rfl ?_
      refine tk 6 (v := .string (⟨#[97, 114, 101, 97]⟩ ++ ⟨#[32]⟩ ++ N)) (hy := fun wS hSw => by go_simp; omega) rfl ?_
      refine tk 7 (v := .string T1) (hy := fun wS hSw => by rw [h1.out]; go_simp; omega) rfl ?_
      refine stepL 8 rfl (by kernel_rfl) (fun K hK => ?_)
      go_simp
      (refine (writeString_any _ _ [] T1 _ hI4.out (by simp; omega) (by have := hK1.out.k.size; have := hHeld.k.size; omega)).mono ?_; rintro e w5 ⟨rfl, i5, k5⟩; have k5' := Lib.hid k5; have hI5 := Lib.hid i5; clear k5 i5 hI4)
      go_wp2_with fail
      refine hK.out _ _ ((KeepsT.trans hHeld k5'.out)) (fun hHeld => ?_)
      clear hK K
      try simp only [Act.put, sA, sZ, sS]
      refine wpAnyH_done (by kernel_rfl) (NoPanic.normal ?_) _
      have hB5 := Lib.hid (hHeld.blk hB1.out (by decide) (by decide))
      have hK5 := Lib.hid (hK1.out.trans hHeld)
      clear hHeld hB1 hI1 hK1 k4' k5'
      go_wp2_with ((with_reducible refine at_slot 43 ?_); refine wpList_load_mid rfl 50 (.tmp 5) rfl gx 0 rfl [.int .i64 1, .string N, .string F, .string V] _ hB5.out.range Tryz.underlying50 rfl lineInfo ?_)
      refine (written_any 1 N F V T2 _ (by omega) (by omega) h2).mono ?_
      rintro e w6 ⟨rfl, k6⟩
      have hI6 := Lib.hid (hI5.out.keep k6)
      have hK6 := Lib.hid (hK5.out.trans (KeepsT.of k6))
      clear k6 hI5 hK5 hB5
      go_wp2_with fail
      rw [← h3.out]
      refine (writeString_any _ _ _ T3 _ hI6.out (by simp; omega) (by have := hK6.out.k.size; omega)).mono ?_
      rintro e w7 ⟨rfl, i7, k7⟩
      have hI7 := Lib.hid i7
      have hK7 := Lib.hid (hK6.out.trans k7)
      clear i7 k7 hI6 hK6
      go_wp2_with fail
      refine wp_region_noPanic ?_
      refine wp_region_held_drew (S := (fun W => Keeps (fun _ => False) w7 W)) (by kernel_rfl) (((Keeps.refl _ _).drew)) (fun hHeld => ?_)
      refine tk 0 rfl ?_
      refine tk 1 rfl ?_
      refine tk 2 rfl ?_
      refine tk 3 rfl ?_
      refine tk 4 rfl ?_
      refine tk 5 rfl ?_
      refine tkS 6 rfl ?_
      refine tkS 7 rfl ?_
      refine tkS 8 rfl ?_
      refine tkS 9 rfl ?_
      refine tkS 10 rfl ?_
      refine tkS 11 rfl ?_
      refine tkS 12 rfl ?_
      refine tkS 13 rfl ?_
      refine tk 14 rfl ?_
      refine wpAnyH_done (by kernel_rfl) (NoPanic.normal ?_) _
      generalize w7.drew = W8 at hHeld ⊢
      have hI8 := Lib.hid (hI7.out.keep hHeld)
      have hK8 := Lib.hid (hK7.out.trans (KeepsT.of hHeld))
      clear hHeld hI7 hK7
      clear hHeld
      clear hHeld
      go_upto_region 13 with fail
      have hlW : (([] : List UInt8) ++ T1.data.toList ++ T3.data.toList).length + (⟨#[125, 10]⟩ : ByteArray).size ≤ 1000000000 := by
        have e1 : T1.data.toList.length = T1.size := by simp
        have e3 : T3.data.toList.length = T3.size := by simp
        rw [List.length_append, List.length_append, e1, e3]
        show 0 + T1.size + T3.size + 2 ≤ _
        omega
      have hbW : w2.heap.size ≤ W8.heap.size := hK8.out.k.size
      have hwc := Lib.hid (writeString_any _ _ _ ⟨#[125, 10]⟩ _ hI8.out hlW hbW)
      clear hlW hbW hI8
      go_wp2_with (go_at_call 26; refine hwc.out.mono ?_; rintro e w9 ⟨rfl, i9, k9⟩; have hI9 := Lib.hid i9; have hK9 := Lib.hid (hK8.out.trans k9); clear i9 k9 hK8 hwc)
      exact ⟨⟨1, by omega, by rfl, Lib.hid hI9.out, hK9⟩, by simp [intOf]⟩
    · obtain rfl : k = 1 := by omega
      have hI1 : Hid (IsB w2.heap.size w2.heap.size (Lib.byteCells (T1.data.toList ++ T3.data.toList ++ [125, 10])) wr) := Lib.hid hI.out
      clear hI hI0 hK0 hk hk0
      go_wp2_with fail
      refine (Tryz.Builder_String_any _ _ _ _ hI1.out (by have := hKr.out.k.size; omega)).mono ?_
      rintro e w3 ⟨rfl, b3⟩
      have b3' := Lib.hid b3
      clear b3
      rw [← hT.out]
      go_wp2_with fail
      go_ret
      exact ⟨rfl, k2'.out.trans ((hKr.out.k.trans (Below.keepsB b3'.out)).mono (fun i hi => .inr hi))⟩
end Go.Proofs.YtdannodhlaaoiaaGreatDoor
