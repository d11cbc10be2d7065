/- The document's Get of type 3 (gen_lbc.py writes this). -/
import Derived.Test.YtiogeepffdpafaaLBB
namespace Go.Proofs.Ytiogeepffdpafaa
open Go.RowKit

set_option maxRecDepth 100000 in
set_option maxHeartbeats 4000000 in
theorem r10Get_3 (g o c : Nat) (x : List UInt8) (hx : 20 ≤ x.length) (hx2 : x.length ≤ 1000000) (hc : x.length ≤ c) (age seq len : Int) (lid adv sum : Nat) (w : World) (hr : Hid (w.rangeAt g o (x.map bv))) (hh : Hid (headOf x = ⟨age, 3, lid, adv, seq, sum, len⟩)) (hri : Hid (rightF (x.drop 2) = true)) (h16 : x[16]'(by omega) ≠ 255) (h17 : x[17]'(by omega) ≠ 255) (hlo : 28 ≤ x.length) (hlid : lid < 4294967296) (hladv : adv < 4294967296) :
    Calls Try.prog 24 #[.slice (some ⟨g, o, none⟩) x.length c] w (GetPost x w) := by
  have hnb : ¬ (rightF (x.drop 2) = false ∨ x.getD 16 0 = 255 ∨ x.getD 17 0 = 255) := by
    rw [List.getD_eq_getElem?_getD, List.getElem?_eq_getElem (by omega), List.getD_eq_getElem?_getD, List.getElem?_eq_getElem (by omega), hri.out]
    rintro (h | h | h)
    · cases h
    · exact h16 h
    · exact h17 h
  have hgl0 : getL x = lastL (docHear (headOf x) (x.drop 20)) x := getL_long x (by omega) hnb (by
    rintro (⟨h, _⟩ | ⟨h, _⟩ | ⟨_, h⟩)
    · rw [hh.out] at h; exact absurd (show (3 : Int) = 1 from h) (by decide)
    · rw [hh.out] at h; exact absurd (show (3 : Int) = 2 from h) (by decide)
    · rw [List.length_drop] at h; omega)
  clear hnb
  have hg : True := trivial
  have hrb : Hid (w.rangeAt g (o + 20) ((x.drop 20).map bv)) := Lib.hid (by have h0 := range_part hr.out 20 (x.length - 20); rwa [List.take_of_length_le (by rw [List.length_drop]; omega)] at h0)
  have hR : Hid (BlkAt (w.alloc (.cells #[.int .i64 0, .int .i64 0, .int .u32 0, .int .u32 0, .int .i64 0, .slice none 0 0, .int .u32 0, .slice none 0 0, .int .i64 0] 28)) w.heap.size 28 [.int .i64 0, .int .i64 0, .int .u32 0, .int .u32 0, .int .i64 0, .slice none 0 0, .int .u32 0, .slice none 0 0, .int .i64 0]) := Lib.hid (BlkAt.new w _ _)
  have hk : Hid (Keeps (fun _ => False) w (w.alloc (.cells #[.int .i64 0, .int .i64 0, .int .u32 0, .int .u32 0, .int .i64 0, .slice none 0 0, .int .u32 0, .slice none 0 0, .int .i64 0] 28))) := Lib.hid ((Keeps.refl _ _).alloc _)
  go_enter Try.func24, Try.ntmps24
  go_upto_region 1 with fail
  generalize w.alloc (.cells #[.int .i64 0, .int .i64 0, .int .u32 0, .int .u32 0, .int .i64 0, .slice none 0 0, .int .u32 0, .slice none 0 0, .int .i64 0] 28) = w0 at hR hk ⊢
  have hr0 := Lib.hid (hk.out.rangeAt hr.out id)
  have hb0 := Lib.hid (bytes_tail hr0.out hc 2 (by omega))
  rw [if_neg (by omega)] at hb0
  have c16 := drop_cell hr0.out 16 (by omega)
  have c17 := drop_cell hr0.out 17 (by omega)
  have e16 : (((x[16]'(by omega)).toNat : Int) == 255) = false := by rw [beq_eq_false_iff_ne]; intro e; exact h16 (UInt8.toNat_inj.1 (by have : ((x[16]'(by omega)).toNat : Int) = 255 := e; have h5 : (255 : UInt8).toNat = 255 := rfl; omega))
  have h16' := Lib.hid h16; clear h16
  have e17 : (((x[17]'(by omega)).toNat : Int) == 255) = false := by rw [beq_eq_false_iff_ne]; intro e; exact h17 (UInt8.toNat_inj.1 (by have : ((x[17]'(by omega)).toNat : Int) = 255 := e; have h5 : (255 : UInt8).toNat = 255 := rfl; omega))
  have h17' := Lib.hid h17; clear h17
  go_wp2_with fail
  refine (r9Right_r _ (x.drop 2) true (by simp; omega) _ hb0 hri).mono ?_
  rintro e w' ⟨rfl, rfl⟩
  go_wp2_with fail
  refine (r10Head_r g o c x hx (by omega) hc age 3 seq len lid adv sum _ hr0 hh).mono ?_
  rintro e w1 ⟨rfl, k1⟩
  clear c16 c17 e16 e17
  obtain ⟨W1, hW1⟩ : ∃ W1, W1 = w1.alloc (.cells #[.int .i64 age, .int .i64 3, .int .u32 lid, .int .u32 adv, .int .i64 seq, .int .u16 sum, .int .i64 len] 51) := ⟨_, rfl⟩
  have k1' : Keeps (fun _ => False) w0 W1 := by rw [hW1]; exact k1.alloc _
  have hH1 : Hid (BlkAt W1 w1.heap.size 51 [.int .i64 age, .int .i64 3, .int .u32 lid, .int .u32 adv, .int .i64 seq, .int .u16 sum, .int .i64 len]) := Lib.hid (by rw [hW1]; exact BlkAt.new w1 51 [.int .i64 age, .int .i64 3, .int .u32 lid, .int .u32 adv, .int .i64 seq, .int .u16 sum, .int .i64 len])
  have hR1 := Lib.hid (hR.out.keep k1' (fun f => f)); have hk1 := Lib.hid (hk.out.trans k1'); have hr1 := Lib.hid (k1'.rangeAt hr0.out (fun f => f))
  have hW1' := Lib.hid hW1
  clear hW1 k1 k1' hR hk hr0 hb0
  go_upto_region 6 with ((with_reducible refine at_store 4 ?_); refine wpList_store_new rfl 51 (.tmp 4) (.tmp 33) rfl _ #[.int .i64 age, .int .i64 3, .int .u32 lid, .int .u32 adv, .int .i64 seq, .int .u16 sum, .int .i64 len] rfl rfl r10HeadInfo rfl (head_one _ _ _ _ _ _ _) ?_)
  rw [← hW1'.out]
  clear hW1'
  have b0 := hH1.out.cell 0 (.int .i64 age) rfl
  have b4 := hH1.out.cell 4 (.int .i64 seq) rfl
  obtain ⟨W2, hW2⟩ : ∃ W2, W2 = W1.alloc (.cells #[.int .i64 age, .int .i64 3, .int .u32 lid, .int .u32 adv, .int .i64 seq, .slice none 0 0, .int .u32 0, .slice none 0 0, .int .i64 0] 28) := ⟨_, rfl⟩
  have k2' : Keeps (fun _ => False) W1 W2 := by rw [hW2]; exact (Keeps.refl _ _).alloc _
  have hB2 : Hid (BlkAt W2 W1.heap.size 28 [.int .i64 age, .int .i64 3, .int .u32 lid, .int .u32 adv, .int .i64 seq, .slice none 0 0, .int .u32 0, .slice none 0 0, .int .i64 0]) := Lib.hid (by rw [hW2]; exact BlkAt.new W1 28 [.int .i64 age, .int .i64 3, .int .u32 lid, .int .u32 adv, .int .i64 seq, .slice none 0 0, .int .u32 0, .slice none 0 0, .int .i64 0])
  have hH2 := Lib.hid (hH1.out.keep k2' (fun f => f)); have hR2 := Lib.hid (hR1.out.keep k2' (fun f => f)); have hk2 := Lib.hid (hk1.out.trans k2'); have hr2 := Lib.hid (k2'.rangeAt hr1.out (fun f => f))
  have hlt : Hid (w.heap.size < W1.heap.size) := Lib.hid (lt_of_block hR1.out)
  have hW2' := Lib.hid hW2
  clear hW2 k2' hR1 hk1 hr1
  go_upto_region 7 with (first | ((with_reducible refine at_slot 37 ?_); refine wpList_load_mid rfl 24 (.tmp 36) rfl w1.heap.size 1 rfl _ _ (key_range hH1.out) Try.underlying24 rfl keyInfoR ?_) | ((with_reducible refine at_store 5 ?_); refine wpList_store_new rfl 28 (.tmp 5) (.tmp 40) rfl _ _ rfl rfl lsaInfoR rfl (lsa_one _ _ _ _ _ _ _ _ _ (slice_one _ _ _) (slice_one _ _ _)) ?_))
  rw [← hW2'.out]
  clear hW2' b0 b4 hH1
  have b1 := hH2.out.cell 1 (.int .i64 3) rfl
  obtain ⟨B, hB⟩ : ∃ B, B = W1.heap.size := ⟨_, rfl⟩
  rw [← hB] at hB2 hlt ⊢
  obtain ⟨HB, hHB⟩ : ∃ HB, HB = w1.heap.size := ⟨_, rfl⟩
  rw [← hHB] at hH2 b1 ⊢
  clear hB hHB
  obtain ⟨b, hb⟩ : ∃ b, x.drop 20 = b := ⟨_, rfl⟩
  have hblen : b.length = x.length - 20 := by rw [← hb, List.length_drop]
  rw [hb] at hrb
  have s0 := sub_lt4 b 0 4 (by omega)
  have s4 := sub_lt4 b 4 4 (by omega)
  obtain ⟨mk, hmk⟩ : ∃ mk, beVal (sub b 0 4) = mk := ⟨_, rfl⟩
  obtain ⟨cn, hcn⟩ : ∃ cn, beVal (sub b 4 4) = cn := ⟨_, rfl⟩
  rw [hmk] at s0; rw [hcn] at s4
  have hd : docHear (headOf x) (x.drop 20) = ⟨age, 3, lid, adv, seq, [], mk, [], (cn : Nat)⟩ := by
    rw [hh.out, hb]; unfold docHear; simp only; rw [if_neg (by decide), if_neg (by decide), if_pos trivial, hmk, hcn]
  rw [hd] at hgl0
  have hgl := Lib.hid hgl0
  have hmk' := Lib.hid hmk; have hcn' := Lib.hid hcn
  have hlw : Hid (Keeps (fun _ => False) w W2) := hk2
  clear hmk hcn hd hgl0 hb
  obtain ⟨cb, hcb⟩ : ∃ cb, c - 20 = cb := ⟨_, rfl⟩
  obtain ⟨bl, hbl⟩ : ∃ bl, x.length - 20 = bl := ⟨_, rfl⟩
  have hck : ¬ c = 20 := by omega
  go_upto_region 8 with fail
  have i8 : (8 : Int) ≤ cb := by omega
  have i4 : (4 : Int) ≤ cb := by omega
  have j4 : ¬ cb = 4 := by omega
  have j8 : ¬ (bl : Int) < 8 := by omega
  have hcb' := Lib.hid hcb; have hbl' := Lib.hid hbl; have hblen' : Hid (b.length = bl) := Lib.hid (by rw [hblen, hbl])
  have hb8 : 8 ≤ b.length := by omega
  have hbc : b.length ≤ cb := by omega
  have hb8' := Lib.hid hb8; have hbc' := Lib.hid hbc
  clear hcb hbl hblen hb8 hbc
  have w3 : IntKind.u32.wrap (mk : Int) = (mk : Int) := by rw [u32_wrap]; omega
  go_upto_region 27 with fail
  clear b1 j8
  refine wp_region_noPanic ?_
  refine wp_region_held_drew (S := (fun W => Keeps (fun _ => False) w W)) (by kernel_rfl) ((hk2.out.drew)) (fun hHeld => ?_)
  refine takeL 0 (v := ?_) rfl (by kernel_rfl) (by kernel_rfl) (by kernel_rfl) (fun _ _ _ h => h) (Or.inl ⟨by rfl, ?_⟩) (by assumption) ?_
  rotate_left
  · (intro wS hSw; go_simp; try with_reducible rfl)
  try simp only [Act.put, List.setIfInBounds_toArray, List.set_cons_zero, List.set_cons_succ]
  refine takeL 1 (v := ?_) rfl (by kernel_rfl) (by kernel_rfl) (by kernel_rfl) (fun _ _ _ h => h) (Or.inl ⟨by rfl, ?_⟩) (by assumption) ?_
  rotate_left
  · (intro wS hSw; go_simp; try with_reducible rfl)
  try simp only [Act.put, List.setIfInBounds_toArray, List.set_cons_zero, List.set_cons_succ]
  refine takeL 4 (v := ?_) rfl (by kernel_rfl) (by kernel_rfl) (by kernel_rfl) (fun _ _ _ h => h) (Or.inl ⟨by rfl, ?_⟩) (by assumption) ?_
  rotate_left
  · (intro wS hSw; go_simp; try with_reducible rfl)
  try simp only [Act.put, List.setIfInBounds_toArray, List.set_cons_zero, List.set_cons_succ]
  refine takeL 5 (v := ?_) rfl (by kernel_rfl) (by kernel_rfl) (by kernel_rfl) (fun _ _ _ h => h) (Or.inl ⟨by rfl, ?_⟩) (by assumption) ?_
  rotate_left
  · (intro wS hSw; go_simp; try with_reducible rfl)
  try simp only [Act.put, List.setIfInBounds_toArray, List.set_cons_zero, List.set_cons_succ]
  refine stepL 2 rfl (by kernel_rfl) (fun K hK => ?_)
  go_simp
  (refine (r10Num_r _ (sub b 0 4) mk (by rw [sub_len (by have := hb8'.out; omega)]; omega) _ (Lib.hid (by have := bytes_sub (hHeld.rangeAt hrb.out (fun f => f)) hbc'.out 0 4 (by have := hb8'.out; omega); rwa [Nat.add_zero, Nat.sub_zero] at this)) hmk').mono ?_; rintro e Wa ⟨rfl, rfl⟩)
  go_wp2_with fail
  refine hK.out _ _ (hHeld) (fun hHeld => ?_)
  clear hK K
  try simp only [Act.put, List.setIfInBounds_toArray, List.set_cons_zero, List.set_cons_succ]
  refine takeL 3 (v := ?_) rfl (by kernel_rfl) (by kernel_rfl) (by kernel_rfl) (fun _ _ _ h => h) (Or.inl ⟨by rfl, ?_⟩) (by assumption) ?_
  rotate_left
  · (intro wS hSw; go_simp; try with_reducible rfl)
  try simp only [Act.put, List.setIfInBounds_toArray, List.set_cons_zero, List.set_cons_succ]
  refine takeL 7 (v := ?_) rfl (by kernel_rfl) (by kernel_rfl) (by kernel_rfl) (fun _ _ _ h => h) (Or.inl ⟨by rfl, ?_⟩) (by assumption) ?_
  rotate_left
  · (intro wS hSw; go_simp; try with_reducible rfl)
  try simp only [Act.put, List.setIfInBounds_toArray, List.set_cons_zero, List.set_cons_succ]
  refine stepL 6 rfl (by kernel_rfl) (fun K hK => ?_)
  go_simp
  (refine (r10Num_r _ (sub b 4 4) cn (by rw [sub_len (by have := hb8'.out; omega)]; omega) _ (Lib.hid (bytes_sub (hHeld.rangeAt hrb.out (fun f => f)) hbc'.out 4 4 (by have := hb8'.out; omega))) hcn').mono ?_; rintro e Wa ⟨rfl, rfl⟩)
  go_wp2_with fail
  refine hK.out _ _ (hHeld) (fun hHeld => ?_)
  clear hK K
  try simp only [Act.put, List.setIfInBounds_toArray, List.set_cons_zero, List.set_cons_succ]
  have hBk := Lib.hid (hB2.out.keep ((Keeps.refl (fun _ => False) W2).drew) (fun f => f))
  have hc6 := hBk.out.cell 6 (.int .u32 0) rfl
  have hf6 := hBk.out.frozen 6
  refine stepL 8 rfl (by kernel_rfl) (fun K hK => ?_)
  go_simp
  refine hK.out _ _ ((hHeld.setCell (p := ⟨B, 6, none⟩) (.inr (Nat.le_of_lt hlt.out)) _)) (fun hHeld => ?_)
  clear hK K
  try simp only [Act.put, List.setIfInBounds_toArray, List.set_cons_zero, List.set_cons_succ]
  refine takeL 9 (v := ?_) rfl (by kernel_rfl) (by kernel_rfl) (by kernel_rfl) (fun _ _ _ h => h) (Or.inl ⟨by rfl, ?_⟩) (by assumption) ?_
  rotate_left
  · (intro wS hSw; go_simp; try with_reducible rfl)
  try simp only [Act.put, List.setIfInBounds_toArray, List.set_cons_zero, List.set_cons_succ]
  have hBk2 := Lib.hid ((hB2.out.put 6 (.int .u32 (mk : Nat))).keep ((Keeps.refl (fun _ => False) _).drew) (fun f => f))
  have hc8 := hBk2.out.cell 8 (.int .i64 0) rfl
  have hf8 := hBk2.out.frozen 8
  refine stepL 10 rfl (by kernel_rfl) (fun K hK => ?_)
  go_simp
  refine hK.out _ _ ((hHeld.setCell (p := ⟨B, 8, none⟩) (.inr (Nat.le_of_lt hlt.out)) _)) (fun hHeld => ?_)
  clear hK K
  try simp only [Act.put, List.setIfInBounds_toArray, List.set_cons_zero, List.set_cons_succ]
  refine wpAnyH_done (by kernel_rfl) (NoPanic.normal ?_) _
  have hBk3 := Lib.hid (((hB2.out.put 6 (.int .u32 (mk : Nat))).put 8 (.int .i64 (cn : Nat))).keep ((Keeps.refl (fun _ => False) _).drew) (fun f => f))
  have hRk : Hid (BlkAt (((W2.setCell ⟨B, 6, none⟩ (.int .u32 (mk : Nat))).setCell ⟨B, 8, none⟩ (.int .i64 (cn : Nat))).drew) w.heap.size 28 [.int .i64 0, .int .i64 0, .int .u32 0, .int .u32 0, .int .i64 0, .slice none 0 0, .int .u32 0, .slice none 0 0, .int .i64 0]) := Lib.hid (hR2.out.keep ((((Keeps.refl (fun k => k = B) W2).setCell (p := ⟨B, 6, none⟩) (.inl rfl) _).setCell (p := ⟨B, 8, none⟩) (.inl rfl) _).drew) (fun e => by have := hlt.out; omega))
  obtain ⟨W3, hW3⟩ : ∃ W3, W3 = ((W2.setCell ⟨B, 6, none⟩ (.int .u32 (mk : Nat))).setCell ⟨B, 8, none⟩ (.int .i64 (cn : Nat))).drew := ⟨_, rfl⟩
  rw [← hW3] at hHeld hBk3 hRk ⊢
  have hB3 : Hid (BlkAt W3 B 28 [.int .i64 age, .int .i64 3, .int .u32 lid, .int .u32 adv, .int .i64 seq, .slice none 0 0, .int .u32 (mk : Nat), .slice none 0 0, .int .i64 (cn : Nat)]) := Lib.hid hBk3.out
  have hR3 := hRk
  have hk3 := Lib.hid hHeld
  have hr3 := Lib.hid (hHeld.rangeAt hr.out (fun f => f))
  have hL3 : Hid (LinksAt W3 (.slice none 0 0) []) := Lib.hid (LinksAt.nil _)
  have hN3 : Hid (NumsAt W3 (.slice none 0 0) []) := Lib.hid (NumsAt.nil _)
  have hlb : ([] : List LinkD).length ≤ 9223372036854775807 := by simp
  have hrb2 : ([] : List Nat).length ≤ 9223372036854775807 := by simp
  have hlok := Lib.hid no_ok
  have hrok := Lib.hid no_small
  have hlm := s0
  clear hc6 hf6 hc8 hf8 hBk hBk2 hBk3 hRk hHeld hW3 hB2 hR2 hk2 hr2 hH2
  go_wp2_with ((with_reducible refine at_slot 139 ?_); refine wpList_load_mid rfl 28 (.tmp 5) rfl B 0 rfl [.int .i64 age, .int .i64 3, .int .u32 lid, .int .u32 adv, .int .i64 seq, .slice none 0 0, .int .u32 (mk : Nat), .slice none 0 0, .int .i64 (cn : Nat)] _ hB3.out.range Try.underlying28 rfl lsaInfoR ?_)
  cases hcan : canB ⟨age, 3, lid, adv, seq, [], mk, [], (cn : Nat)⟩ with
  | false =>
    have hcan' := Lib.hid hcan; clear hcan
    have hg' : Hid (getL x = (zeroL, 3)) := Lib.hid (by rw [hgl.out]; unfold lastL; rw [if_neg (fun h => by rw [hcan'.out] at h; cases h.1)])
    refine (r10Put_no age 3 seq (cn : Nat) lid adv mk [] [] none none 0 0 _ hL3 hlb hrb2 hcan').mono ?_
    rintro e w4 ⟨rfl, k4⟩
    have hR4 := Lib.hid (hR3.out.keep k4 (fun f => f)); have hk4 := Lib.hid (hk3.out.trans k4)
    clear k4 hR3 hk3 hB3 hr3 hL3 hN3 hcan'
    go_wp2_with ((with_reducible refine at_store 2 ?_); refine wpList_store_blk rfl 28 (.tmp 2) (.tmp 152) rfl w.heap.size #[.int .i64 0, .int .i64 0, .int .u32 0, .int .u32 0, .int .i64 0, .slice none 0 0, .int .u32 0, .slice none 0 0, .int .i64 0] rfl rfl (BlkAt.there hR4.out 0 9 (Nat.le_refl 9)) lsaInfoR (lsa_one _ _ _ _ _ _ _ _ _ (slice_one _ _ _) (slice_one _ _ _)) ?_; intro w9 hr9 hs9)
    have e0 := rangeAt_cell hr9.out 0 _ rfl
    have e1 := rangeAt_cell hr9.out 1 _ rfl
    have e2 := rangeAt_cell hr9.out 2 _ rfl
    have e3 := rangeAt_cell hr9.out 3 _ rfl
    have e4 := rangeAt_cell hr9.out 4 _ rfl
    have e5 := rangeAt_cell hr9.out 5 _ rfl
    have e6 := rangeAt_cell hr9.out 6 _ rfl
    have e7 := rangeAt_cell hr9.out 7 _ rfl
    have e8 := rangeAt_cell hr9.out 8 _ rfl
    refine bodyPost_ret (v := .tuple #[.agg #[.int .i64 0, .int .i64 0, .int .u32 0, .int .u32 0, .int .i64 0, .slice none 0 0, .int .u32 0, .slice none 0 0, .int .i64 0], .int .i64 3]) (by simp [results, Try.results24, go_sem, e0, e1, e2, e3, e4, e5, e6, e7, e8]) rfl ⟨⟨_, by rw [hg'.out], by rw [hg'.out]; exact LsaV.zero _⟩, hk4.out.trans' hs9.out (fun i e => .inr (by omega))⟩
  | true =>
    have hcan' := Lib.hid hcan; clear hcan
    by_cases hp : putB ⟨age, 3, lid, adv, seq, [], mk, [], (cn : Nat)⟩ = x
    · skip
      refine (r10Put_yes age 3 seq (cn : Nat) lid adv mk [] [] none none 0 0 _ hL3 hN3 hlok hrok hlid hladv hlm hcan').mono ?_
      rintro e w4 ⟨pY, cY, rfl, obY, k4⟩
      have hR4 := Lib.hid (hR3.out.keep k4 (fun f => f)); have hk4 := Lib.hid (hk3.out.trans k4); have hB4 := Lib.hid (hB3.out.keep k4 (fun f => f)); have hr4 := Lib.hid (k4.rangeAt hr3.out (fun f => f))
      have hg' : Hid (getL x = (⟨age, 3, lid, adv, seq, [], mk, [], (cn : Nat)⟩, 0)) := Lib.hid (by rw [hgl.out]; unfold lastL; rw [if_pos ⟨hcan'.out, hp⟩])
      rw [hp] at obY ⊢
      have cv1 := conv_bytes obY.bytes (by omega)
      have cv2 := conv_str g o c x w4 hr4.out
      have hp' := Lib.hid hp
      have k4' := Lib.hid k4
      clear k4 hR3 hk3 hB3 hr3 hL3 hN3 hp obY
      go_wp2_with (first | ((with_reducible refine at_slot 153 ?_); refine wpList_load_mid rfl 28 (.tmp 5) rfl B 0 rfl [.int .i64 age, .int .i64 3, .int .u32 lid, .int .u32 adv, .int .i64 seq, .slice none 0 0, .int .u32 (mk : Nat), .slice none 0 0, .int .i64 (cn : Nat)] _ hB4.out.range Try.underlying28 rfl lsaInfoR ?_) | ((with_reducible refine at_store 2 ?_); refine wpList_store_blk rfl 28 (.tmp 2) (.tmp 153) rfl w.heap.size #[.int .i64 age, .int .i64 3, .int .u32 lid, .int .u32 adv, .int .i64 seq, .slice none 0 0, .int .u32 (mk : Nat), .slice none 0 0, .int .i64 (cn : Nat)] rfl rfl (BlkAt.there hR4.out 0 9 (Nat.le_refl 9)) lsaInfoR (lsa_one _ _ _ _ _ _ _ _ _ (slice_one _ _ _) (slice_one _ _ _)) ?_; intro w9 hr9 hs9))
      have e0 := rangeAt_cell hr9.out 0 _ rfl
      have e1 := rangeAt_cell hr9.out 1 _ rfl
      have e2 := rangeAt_cell hr9.out 2 _ rfl
      have e3 := rangeAt_cell hr9.out 3 _ rfl
      have e4 := rangeAt_cell hr9.out 4 _ rfl
      have e5 := rangeAt_cell hr9.out 5 _ rfl
      have e6 := rangeAt_cell hr9.out 6 _ rfl
      have e7 := rangeAt_cell hr9.out 7 _ rfl
      have e8 := rangeAt_cell hr9.out 8 _ rfl
      refine bodyPost_ret (v := .tuple #[.agg #[.int .i64 age, .int .i64 3, .int .u32 lid, .int .u32 adv, .int .i64 seq, .slice none 0 0, .int .u32 (mk : Nat), .slice none 0 0, .int .i64 (cn : Nat)], .int .i64 0]) (by simp [results, Try.results24, go_sem, e0, e1, e2, e3, e4, e5, e6, e7, e8]) rfl ⟨⟨_, by rw [hg'.out], by rw [hg'.out]; exact ⟨none, 0, none, 0, rfl, LinksAt.nil _, NumsAt.nil _⟩⟩, hk4.out.trans' hs9.out (fun i e => .inr (by omega))⟩
    · skip
      refine (r10Put_yes age 3 seq (cn : Nat) lid adv mk [] [] none none 0 0 _ hL3 hN3 hlok hrok hlid hladv hlm hcan').mono ?_
      rintro e w4 ⟨pY, cY, rfl, obY, k4⟩
      have hR4 := Lib.hid (hR3.out.keep k4 (fun f => f)); have hk4 := Lib.hid (hk3.out.trans k4); have hB4 := Lib.hid (hB3.out.keep k4 (fun f => f)); have hr4 := Lib.hid (k4.rangeAt hr3.out (fun f => f))
      have hg' : Hid (getL x = (zeroL, 3)) := Lib.hid (by rw [hgl.out]; unfold lastL; rw [if_neg (fun h => hp h.2)])
      have h0P : 0 < (putB ⟨age, 3, lid, adv, seq, [], mk, [], (cn : Nat)⟩).length := by rw [putB_len]; omega
      obtain ⟨PX, hPX⟩ : ∃ PX, putB ⟨age, 3, lid, adv, seq, [], mk, [], (cn : Nat)⟩ = PX := ⟨_, rfl⟩
      rw [hPX] at hp obY h0P ⊢
      have cv1 := conv_bytes obY.bytes h0P
      have cv2 := conv_str g o c x w4 hr4.out
      obtain ⟨S1, hS1⟩ : ∃ S : ByteArray, S = ⟨PX.toArray⟩ := ⟨_, rfl⟩
      obtain ⟨S2, hS2⟩ : ∃ S : ByteArray, S = ⟨x.toArray⟩ := ⟨_, rfl⟩
      rw [← hS1] at cv1
      rw [← hS2] at cv2
      have hne : (S1.toList == S2.toList) = false := by
        rw [Lib.toList_data, Lib.toList_data, hS1, hS2, beq_eq_false_iff_ne]
        exact fun e => hp e
      have hp' := Lib.hid hp
      clear k4 hR3 hk3 hB3 hr3 hL3 hN3 hp obY hPX hS1 hS2 h0P hB4 hr4
      go_wp2_with ((with_reducible refine at_store 2 ?_); refine wpList_store_blk rfl 28 (.tmp 2) (.tmp 152) rfl w.heap.size #[.int .i64 0, .int .i64 0, .int .u32 0, .int .u32 0, .int .i64 0, .slice none 0 0, .int .u32 0, .slice none 0 0, .int .i64 0] rfl rfl (BlkAt.there hR4.out 0 9 (Nat.le_refl 9)) lsaInfoR (lsa_one _ _ _ _ _ _ _ _ _ (slice_one _ _ _) (slice_one _ _ _)) ?_; intro w9 hr9 hs9)
      have e0 := rangeAt_cell hr9.out 0 _ rfl
      have e1 := rangeAt_cell hr9.out 1 _ rfl
      have e2 := rangeAt_cell hr9.out 2 _ rfl
      have e3 := rangeAt_cell hr9.out 3 _ rfl
      have e4 := rangeAt_cell hr9.out 4 _ rfl
      have e5 := rangeAt_cell hr9.out 5 _ rfl
      have e6 := rangeAt_cell hr9.out 6 _ rfl
      have e7 := rangeAt_cell hr9.out 7 _ rfl
      have e8 := rangeAt_cell hr9.out 8 _ rfl
      refine bodyPost_ret (v := .tuple #[.agg #[.int .i64 0, .int .i64 0, .int .u32 0, .int .u32 0, .int .i64 0, .slice none 0 0, .int .u32 0, .slice none 0 0, .int .i64 0], .int .i64 3]) (by simp [results, Try.results24, go_sem, e0, e1, e2, e3, e4, e5, e6, e7, e8]) rfl ⟨⟨_, by rw [hg'.out], by rw [hg'.out]; exact LsaV.zero _⟩, hk4.out.trans' hs9.out (fun i e => .inr (by omega))⟩
end Go.Proofs.Ytiogeepffdpafaa
