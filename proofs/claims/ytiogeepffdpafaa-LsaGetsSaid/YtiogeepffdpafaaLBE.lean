/- The document's Get of type 1 (gen_lbe.py writes this). -/
import Derived.Test.YtiogeepffdpafaaLBB
namespace Go.Proofs.Ytiogeepffdpafaa
open Go.RowKit

set_option maxRecDepth 100000 in
set_option maxHeartbeats 4000000 in
theorem r10Get_1 (g o c : Nat) (x : List UInt8) (hx : 20 ≤ x.length) (hx2 : x.length ≤ 1000000) (hc : x.length ≤ c) (age seq len : Int) (lid adv sum : Nat) (w : World) (hr : Hid (w.rangeAt g o (x.map bv))) (hh : Hid (headOf x = ⟨age, 1, lid, adv, seq, sum, len⟩)) (hri : Hid (rightF (x.drop 2) = true)) (h16 : x[16]'(by omega) ≠ 255) (h17 : x[17]'(by omega) ≠ 255) (hlo : 24 ≤ x.length) (hlid : lid < 4294967296) (hladv : adv < 4294967296) :
    Calls Try.prog 24 #[.slice (some ⟨g, o, none⟩) x.length c] w (GetPost x w) := by
  have hnb : ¬ (rightF (x.drop 2) = false ∨ x.getD 16 0 = 255 ∨ x.getD 17 0 = 255) := by
    rw [List.getD_eq_getElem?_getD, List.getElem?_eq_getElem (by omega), List.getD_eq_getElem?_getD, List.getElem?_eq_getElem (by omega), hri.out]
    rintro (h | h | h)
    · cases h
    · exact h16 h
    · exact h17 h
  have hgl0 : getL x = lastL (docHear (headOf x) (x.drop 20)) x := getL_long x (by omega) hnb (by
    rintro (⟨_, h⟩ | ⟨h, _⟩ | ⟨h, _⟩)
    · rw [List.length_drop] at h; omega
    · rw [hh.out] at h; exact absurd (show (1 : Int) = 2 from h) (by decide)
    · rw [hh.out] at h; exact absurd (show (1 : Int) = 3 from h) (by decide))
  clear hnb
  have hg : True := trivial
  have hrb : Hid (w.rangeAt g (o + 20) ((x.drop 20).map bv)) := Lib.hid (by have h0 := range_part hr.out 20 (x.length - 20); rwa [List.take_of_length_le (by rw [List.length_drop]; omega)] at h0)
  have hR : Hid (BlkAt (w.alloc (.cells #[.int .i64 0, .int .i64 0, .int .u32 0, .int .u32 0, .int .i64 0, .slice none 0 0, .int .u32 0, .slice none 0 0, .int .i64 0] 28)) w.heap.size 28 [.int .i64 0, .int .i64 0, .int .u32 0, .int .u32 0, .int .i64 0, .slice none 0 0, .int .u32 0, .slice none 0 0, .int .i64 0]) := Lib.hid (BlkAt.new w _ _)
  have hk : Hid (Keeps (fun _ => False) w (w.alloc (.cells #[.int .i64 0, .int .i64 0, .int .u32 0, .int .u32 0, .int .i64 0, .slice none 0 0, .int .u32 0, .slice none 0 0, .int .i64 0] 28))) := Lib.hid ((Keeps.refl _ _).alloc _)
  go_enter Try.func24, Try.ntmps24
  go_upto_region 1 with fail
  generalize w.alloc (.cells #[.int .i64 0, .int .i64 0, .int .u32 0, .int .u32 0, .int .i64 0, .slice none 0 0, .int .u32 0, .slice none 0 0, .int .i64 0] 28) = w0 at hR hk ⊢
  have hr0 := Lib.hid (hk.out.rangeAt hr.out id)
  have hb0 := Lib.hid (bytes_tail hr0.out hc 2 (by omega))
  rw [if_neg (by omega)] at hb0
  have c16 := drop_cell hr0.out 16 (by omega)
  have c17 := drop_cell hr0.out 17 (by omega)
  have e16 : (((x[16]'(by omega)).toNat : Int) == 255) = false := by rw [beq_eq_false_iff_ne]; intro e; exact h16 (UInt8.toNat_inj.1 (by have : ((x[16]'(by omega)).toNat : Int) = 255 := e; have h5 : (255 : UInt8).toNat = 255 := rfl; omega))
  have h16' := Lib.hid h16; clear h16
  have e17 : (((x[17]'(by omega)).toNat : Int) == 255) = false := by rw [beq_eq_false_iff_ne]; intro e; exact h17 (UInt8.toNat_inj.1 (by have : ((x[17]'(by omega)).toNat : Int) = 255 := e; have h5 : (255 : UInt8).toNat = 255 := rfl; omega))
  have h17' := Lib.hid h17; clear h17
  go_wp2_with fail
  refine (r9Right_r _ (x.drop 2) true (by simp; omega) _ hb0 hri).mono ?_
  rintro e w' ⟨rfl, rfl⟩
  go_wp2_with fail
  refine (r10Head_r g o c x hx (by omega) hc age 1 seq len lid adv sum _ hr0 hh).mono ?_
  rintro e w1 ⟨rfl, k1⟩
  clear c16 c17 e16 e17
  obtain ⟨W1, hW1⟩ : ∃ W1, W1 = w1.alloc (.cells #[.int .i64 age, .int .i64 1, .int .u32 lid, .int .u32 adv, .int .i64 seq, .int .u16 sum, .int .i64 len] 51) := ⟨_, rfl⟩
  have k1' : Keeps (fun _ => False) w0 W1 := by rw [hW1]; exact k1.alloc _
  have hH1 : Hid (BlkAt W1 w1.heap.size 51 [.int .i64 age, .int .i64 1, .int .u32 lid, .int .u32 adv, .int .i64 seq, .int .u16 sum, .int .i64 len]) := Lib.hid (by rw [hW1]; exact BlkAt.new w1 51 [.int .i64 age, .int .i64 1, .int .u32 lid, .int .u32 adv, .int .i64 seq, .int .u16 sum, .int .i64 len])
  have hR1 := Lib.hid (hR.out.keep k1' (fun f => f)); have hk1 := Lib.hid (hk.out.trans k1'); have hr1 := Lib.hid (k1'.rangeAt hr0.out (fun f => f))
  have hW1' := Lib.hid hW1
  clear hW1 k1 k1' hR hk hr0 hb0
  go_upto_region 6 with ((with_reducible refine at_store 4 ?_); refine wpList_store_new rfl 51 (.tmp 4) (.tmp 33) rfl _ #[.int .i64 age, .int .i64 1, .int .u32 lid, .int .u32 adv, .int .i64 seq, .int .u16 sum, .int .i64 len] rfl rfl r10HeadInfo rfl (head_one _ _ _ _ _ _ _) ?_)
  rw [← hW1'.out]
  clear hW1'
  have b0 := hH1.out.cell 0 (.int .i64 age) rfl
  have b4 := hH1.out.cell 4 (.int .i64 seq) rfl
  obtain ⟨W2, hW2⟩ : ∃ W2, W2 = W1.alloc (.cells #[.int .i64 age, .int .i64 1, .int .u32 lid, .int .u32 adv, .int .i64 seq, .slice none 0 0, .int .u32 0, .slice none 0 0, .int .i64 0] 28) := ⟨_, rfl⟩
  have k2' : Keeps (fun _ => False) W1 W2 := by rw [hW2]; exact (Keeps.refl _ _).alloc _
  have hB2 : Hid (BlkAt W2 W1.heap.size 28 [.int .i64 age, .int .i64 1, .int .u32 lid, .int .u32 adv, .int .i64 seq, .slice none 0 0, .int .u32 0, .slice none 0 0, .int .i64 0]) := Lib.hid (by rw [hW2]; exact BlkAt.new W1 28 [.int .i64 age, .int .i64 1, .int .u32 lid, .int .u32 adv, .int .i64 seq, .slice none 0 0, .int .u32 0, .slice none 0 0, .int .i64 0])
  have hH2 := Lib.hid (hH1.out.keep k2' (fun f => f)); have hR2 := Lib.hid (hR1.out.keep k2' (fun f => f)); have hk2 := Lib.hid (hk1.out.trans k2'); have hr2 := Lib.hid (k2'.rangeAt hr1.out (fun f => f))
  have hlt : Hid (w.heap.size < W1.heap.size) := Lib.hid (lt_of_block hR1.out)
  have hW2' := Lib.hid hW2
  clear hW2 k2' hR1 hk1 hr1
  go_upto_region 7 with (first | ((with_reducible refine at_slot 37 ?_); refine wpList_load_mid rfl 24 (.tmp 36) rfl w1.heap.size 1 rfl _ _ (key_range hH1.out) Try.underlying24 rfl keyInfoR ?_) | ((with_reducible refine at_store 5 ?_); refine wpList_store_new rfl 28 (.tmp 5) (.tmp 40) rfl _ _ rfl rfl lsaInfoR rfl (lsa_one _ _ _ _ _ _ _ _ _ (slice_one _ _ _) (slice_one _ _ _)) ?_))
  rw [← hW2'.out]
  clear hW2' b0 b4 hH1
  have b1 := hH2.out.cell 1 (.int .i64 1) rfl
  obtain ⟨B, hB⟩ : ∃ B, B = W1.heap.size := ⟨_, rfl⟩
  rw [← hB] at hB2 hlt ⊢
  obtain ⟨HB, hHB⟩ : ∃ HB, HB = w1.heap.size := ⟨_, rfl⟩
  rw [← hHB] at hH2 b1 ⊢
  clear hB hHB
  obtain ⟨ii, hii, hiz, hisz, hiby⟩ := info_parts linkInfoAllR
  obtain ⟨b, hb⟩ : ∃ b, x.drop 20 = b := ⟨_, rfl⟩
  have hblen : b.length = x.length - 20 := by rw [← hb, List.length_drop]
  rw [hb] at hrb
  have hd : docHear (headOf x) (x.drop 20) = ⟨age, 1, lid, adv, seq, readL (b.drop 4) ((b.length - 4) / 12), 0, [], 0⟩ := by
    rw [hh.out, hb]; unfold docHear; simp only; rw [if_pos trivial]
  rw [hd] at hgl0
  have hgl := Lib.hid hgl0
  clear hd hgl0 hb
  obtain ⟨cb, hcb⟩ : ∃ cb, c - 20 = cb := ⟨_, rfl⟩
  obtain ⟨bl, hbl⟩ : ∃ bl, x.length - 20 = bl := ⟨_, rfl⟩
  have hck : ¬ c = 20 := by omega
  go_upto_region 8 with fail
  have j4 : ¬ (bl : Int) < 4 := by omega
  have hblen' : Hid (b.length = bl) := Lib.hid (by rw [hblen, hbl])
  have hb4 : 4 ≤ bl := by omega
  have hbm : bl ≤ 1000000 := by omega
  have hbcb : bl ≤ cb := by omega
  have hbc' : Hid (b.length ≤ cb) := Lib.hid (by omega)
  clear hcb hbl hblen
  obtain ⟨W3, hW3⟩ : ∃ W3, W3 = W2 := ⟨_, rfl⟩
  rw [← hW3] at hB2 hR2 hk2 b1 ⊢
  have hB0 := hB2
  have hR3 := hR2
  have hk3 := hk2
  have hsz3 : Hid (w.heap.size ≤ W3.heap.size) := Lib.hid hk3.out.size
  have hinit : Hid (BlkAt W3 B 28 [.int .i64 age, .int .i64 1, .int .u32 lid, .int .u32 adv, .int .i64 seq, .slice none 0 0, .int .u32 0, .slice none 0 0, .int .i64 0] ∧ OwnR W3 W3 (.slice none 0 0) (readL (b.drop 4) 0) ∧ Keeps (fun i => i = B) W3 W3) := Lib.hid ⟨hB0.out, OwnR.nil _ _ (Nat.le_refl _), Keeps.refl _ _⟩
  clear hW3 hB2 hR2 hk2 hr2 hH2
  go_upto_region 12 with fail
  clear b1
  go_wp2_with fail
  go_loopw [7] (fun iv wr => ∃ (k i : Nat) (q : Option Addr) (d : Nat), i = 4 + 12 * k ∧ i ≤ bl ∧ iv = .int .i64 i ∧ Hid (BlkAt wr B 28 [.int .i64 age, .int .i64 1, .int .u32 lid, .int .u32 adv, .int .i64 seq, .slice q k d, .int .u32 0, .slice none 0 0, .int .i64 0] ∧ OwnR W3 wr (.slice q k d) (readL (b.drop 4) k) ∧ Keeps (fun i => i = B) W3 wr)) (fun iv _ => bl - (intOf iv).toNat)
  case atStart => exact ⟨0, 4, none, 0, rfl, hb4, rfl, hinit⟩
  case round =>
    obtain ⟨k, i, q, d, hik, hib, rfl, hinv⟩ := hrel
    by_cases hin : i + 12 ≤ bl
    · have hini : (i : Int) + 12 ≤ bl := by omega
      obtain ⟨n1, hn1⟩ : ∃ n, beVal (sub b i 4) = n := ⟨_, rfl⟩
      obtain ⟨n2, hn2⟩ : ∃ n, beVal (sub b (i + 4) 4) = n := ⟨_, rfl⟩
      obtain ⟨n3, hn3⟩ : ∃ n, beVal (sub b (i + 10) 2) = n := ⟨_, rfl⟩
      obtain ⟨ty, hty⟩ : ∃ n, (b.getD (i + 8) 0).toNat = n := ⟨_, rfl⟩
      have g1 := sub_lt4 b i 4 (by omega)
      have g2 := sub_lt4 b (i + 4) 4 (by omega)
      have g4 := (b.getD (i + 8) 0).toNat_lt
      rw [hn1] at g1; rw [hn2] at g2; rw [hty] at g4
      have hn1' := Lib.hid hn1; have hn2' := Lib.hid hn2; have hn3' := Lib.hid hn3
      have hrs : Hid (readL (b.drop 4) (k + 1) = readL (b.drop 4) k ++ [⟨n1, n2, (ty : Nat), (n3 : Nat)⟩]) := Lib.hid (by
        rw [readL_succ, ← hn1, ← hn2, ← hn3, ← hty, hik]
        unfold linkAt sub
        rw [List.drop_drop, List.drop_drop, List.drop_drop, show 4 + (12 * k + 4) = 4 + 12 * k + 4 by omega, show 4 + (12 * k + 10) = 4 + 12 * k + 10 by omega, List.getD_eq_getElem?_getD, List.getD_eq_getElem?_getD, List.getElem?_drop, show 4 + (12 * k + 8) = 4 + 12 * k + 8 by omega])
      have hcell : Hid (∀ W', Keeps (fun _ => False) w W' → W'.cell? ⟨g, o + 20 + (i + 8), none⟩ = some (.int .u8 ty)) := Lib.hid (fun W' s => by
        have h1 := drop_cell (s.rangeAt hrb.out (fun f => f)) (i + 8) (by rw [hblen'.out]; omega)
        rw [h1, ← hty, List.getD_eq_getElem?_getD, List.getElem?_eq_getElem (by rw [hblen'.out]; omega)]; rfl)
      have hik' := Lib.hid hik
      clear hn1 hn2 hn3 hty hik
      have f1 : IntKind.i64.wrap ((i : Int) + 4) = (i : Int) + 4 := IntWalk.i64_in _ (by omega)
      have f2 : IntKind.i64.wrap ((i : Int) + 8) = (i : Int) + 8 := IntWalk.i64_in _ (by omega)
      have f3 : IntKind.i64.wrap ((i : Int) + 10) = (i : Int) + 10 := IntWalk.i64_in _ (by omega)
      have f4 : IntKind.i64.wrap ((i : Int) + 12) = (i : Int) + 12 := IntWalk.i64_in _ (by omega)
      have a1 : (i : Int) + 4 ≤ cb := by omega
      have a2 : (i : Int) + 8 ≤ cb := by omega
      have a4 : (i : Int) + 12 ≤ cb := by omega
      have z1 : 0 ≤ (i : Int) + 4 := by omega
      have z2 : 0 ≤ (i : Int) + 8 := by omega
      have z3 : 0 ≤ (i : Int) + 10 := by omega
      have z4 : 0 ≤ (i : Int) + 12 := by omega
      have m1 : max ((i : Int) + 4) 0 = (i : Int) + 4 := by omega
      have m2 : max ((i : Int) + 8) 0 = (i : Int) + 8 := by omega
      have m4 : max ((i : Int) + 12) 0 = (i : Int) + 12 := by omega
      have u1 : ((i : Int) + 4).toNat = i + 4 := by omega
      have u2 : ((i : Int) + 8).toNat = i + 8 := by omega
      have u3 : ((i : Int) + 10).toNat = i + 10 := by omega
      have u4 : ((i : Int) + 12).toNat = i + 12 := by omega
      have v1 : i + 4 - i = 4 := by omega
      have v2 : i + 8 - (i + 4) = 4 := by omega
      have v3 : i + 12 - (i + 10) = 2 := by omega
      have l1 : (i : Int) ≤ (i : Int) + 4 := by omega
      have l2 : (i : Int) + 4 ≤ (i : Int) + 8 := by omega
      have l3 : (i : Int) + 10 ≤ (i : Int) + 12 := by omega
      have l4 : (i : Int) + 8 < bl := by omega
      have c1 : ¬ cb = i := by omega
      have c2 : ¬ cb = i + 4 := by omega
      have c3 : ¬ cb = i + 10 := by omega
      have y1 : IntKind.u32.wrap (n1 : Int) = (n1 : Int) := by rw [u32_wrap]; omega
      have y2 : IntKind.u32.wrap (n2 : Int) = (n2 : Int) := by rw [u32_wrap]; omega
      have y3 : IntKind.i64.wrap (ty : Int) = (ty : Int) := IntWalk.i64_in _ (by omega)
      have hbl2 := hblen'.out
      go_upto_region 15 with fail
      refine wp_region_noPanic ?_
      refine wp_region_held_drew (S := (fun W => Keeps (fun _ => False) w W)) (by kernel_rfl) ((hk3.out.trans' hinv.out.2.2 (fun i e => .inr (by rw [e]; exact Nat.le_of_lt hlt.out))).drew) (fun hHeld => ?_)
      refine takeL 0 (v := ?_) rfl (by kernel_rfl) (by kernel_rfl) (by kernel_rfl) (fun _ _ _ h => h) (Or.inl ⟨by rfl, ?_⟩) (by assumption) ?_
      rotate_left
      · (intro wS hSw; go_simp; try with_reducible rfl)
      try simp only [Act.put, List.setIfInBounds_toArray, List.set_cons_zero, List.set_cons_succ]
      refine takeL 2 (v := ?_) rfl (by kernel_rfl) (by kernel_rfl) (by kernel_rfl) (fun _ _ _ h => h) (Or.inl ⟨by rfl, ?_⟩) (by assumption) ?_
      rotate_left
      · (intro wS hSw; go_simp; try with_reducible rfl)
      try simp only [Act.put, List.setIfInBounds_toArray, List.set_cons_zero, List.set_cons_succ]
      refine takeL 3 (v := ?_) rfl (by kernel_rfl) (by kernel_rfl) (by kernel_rfl) (fun _ _ _ h => h) (Or.inl ⟨by rfl, ?_⟩) (by assumption) ?_
      rotate_left
      · (intro wS hSw; go_simp; try with_reducible rfl)
      try simp only [Act.put, List.setIfInBounds_toArray, List.set_cons_zero, List.set_cons_succ]
      refine takeL 4 (v := ?_) rfl (by kernel_rfl) (by kernel_rfl) (by kernel_rfl) (fun _ _ _ h => h) (Or.inl ⟨by rfl, ?_⟩) (by assumption) ?_
      rotate_left
      · (intro wS hSw; go_simp; try with_reducible rfl)
      try simp only [Act.put, List.setIfInBounds_toArray, List.set_cons_zero, List.set_cons_succ]
      refine takeL 5 (v := ?_) rfl (by kernel_rfl) (by kernel_rfl) (by kernel_rfl) (fun _ _ _ h => h) (Or.inl ⟨by rfl, ?_⟩) (by assumption) ?_
      rotate_left
      · (intro wS hSw; go_simp; try with_reducible rfl)
      try simp only [Act.put, List.setIfInBounds_toArray, List.set_cons_zero, List.set_cons_succ]
      refine takeL 6 (v := ?_) rfl (by kernel_rfl) (by kernel_rfl) (by kernel_rfl) (fun _ _ _ h => h) (Or.inl ⟨by rfl, ?_⟩) (by assumption) ?_
      rotate_left
      · (intro wS hSw; go_simp; try with_reducible rfl)
      try simp only [Act.put, List.setIfInBounds_toArray, List.set_cons_zero, List.set_cons_succ]
      refine takeL 9 (v := ?_) rfl (by kernel_rfl) (by kernel_rfl) (by kernel_rfl) (fun _ _ _ h => h) (Or.inl ⟨by rfl, ?_⟩) (by assumption) ?_
      rotate_left
      · (intro wS hSw; go_simp; try with_reducible rfl)
      try simp only [Act.put, List.setIfInBounds_toArray, List.set_cons_zero, List.set_cons_succ]
      refine takeL 10 (v := ?_) rfl (by kernel_rfl) (by kernel_rfl) (by kernel_rfl) (fun _ _ _ h => h) (Or.inl ⟨by rfl, ?_⟩) (by assumption) ?_
      rotate_left
      · (intro wS hSw; go_simp; try with_reducible rfl)
      try simp only [Act.put, List.setIfInBounds_toArray, List.set_cons_zero, List.set_cons_succ]
      refine takeL 11 (v := ?_) rfl (by kernel_rfl) (by kernel_rfl) (by kernel_rfl) (fun _ _ _ h => h) (Or.inl ⟨by rfl, ?_⟩) (by assumption) ?_
      rotate_left
      · (intro wS hSw; go_simp; try with_reducible rfl)
      try simp only [Act.put, List.setIfInBounds_toArray, List.set_cons_zero, List.set_cons_succ]
      refine takeL 12 (v := ?_) rfl (by kernel_rfl) (by kernel_rfl) (by kernel_rfl) (fun _ _ _ h => h) (Or.inl ⟨by rfl, ?_⟩) (by assumption) ?_
      rotate_left
      · (intro wS hSw; go_simp; try with_reducible rfl)
      try simp only [Act.put, List.setIfInBounds_toArray, List.set_cons_zero, List.set_cons_succ]
      refine takeL 13 (v := ?_) rfl (by kernel_rfl) (by kernel_rfl) (by kernel_rfl) (fun _ _ _ h => h) (Or.inl ⟨by rfl, ?_⟩) (by assumption) ?_
      rotate_left
      · (intro wS hSw; go_simp; try with_reducible rfl)
      try simp only [Act.put, List.setIfInBounds_toArray, List.set_cons_zero, List.set_cons_succ]
      refine takeL 14 (v := ?_) rfl (by kernel_rfl) (by kernel_rfl) (by kernel_rfl) (fun _ _ _ h => h) (Or.inl ⟨by rfl, ?_⟩) (by assumption) ?_
      rotate_left
      · (intro wS hSw; go_simp; try with_reducible rfl)
      try simp only [Act.put, List.setIfInBounds_toArray, List.set_cons_zero, List.set_cons_succ]
      refine takeL 17 (v := ?_) rfl (by kernel_rfl) (by kernel_rfl) (by kernel_rfl) (fun _ _ _ h => h) (Or.inl ⟨by rfl, ?_⟩) (by assumption) ?_
      rotate_left
      · (intro wS hSw; go_simp; try with_reducible rfl)
      try simp only [Act.put, List.setIfInBounds_toArray, List.set_cons_zero, List.set_cons_succ]
      refine takeL 18 (v := ?_) rfl (by kernel_rfl) (by kernel_rfl) (by kernel_rfl) (fun _ _ _ h => h) (Or.inl ⟨by rfl, ?_⟩) (by assumption) ?_
      rotate_left
      · (intro wS hSw; go_simp; try with_reducible rfl)
      try simp only [Act.put, List.setIfInBounds_toArray, List.set_cons_zero, List.set_cons_succ]
      refine takeL 19 (v := ?_) rfl (by kernel_rfl) (by kernel_rfl) (by kernel_rfl) (fun _ _ _ h => h) (Or.inl ⟨by rfl, ?_⟩) (by assumption) ?_
      rotate_left
      · (intro wS hSw; go_simp; try with_reducible rfl)
      try simp only [Act.put, List.setIfInBounds_toArray, List.set_cons_zero, List.set_cons_succ]
      refine takeL 20 (v := ?_) rfl (by kernel_rfl) (by kernel_rfl) (by kernel_rfl) (fun _ _ _ h => h) (Or.inl ⟨by rfl, ?_⟩) (by assumption) ?_
      rotate_left
      · (intro wS hSw; go_simp; try with_reducible rfl)
      try simp only [Act.put, List.setIfInBounds_toArray, List.set_cons_zero, List.set_cons_succ]
      refine takeL 21 rfl (by kernel_rfl) (by kernel_rfl) (by kernel_rfl) (fun _ _ _ h => h) (yieldsIf_load_cell (by rfl) 5 (.tmp 79) rfl g (o + 20 + (i + 8)) rfl _ (fun W' s => hcell.out W' s) (fun w s => load_u8 w _ _ _ s)) (by assumption) ?_
      try simp only [Act.put, List.setIfInBounds_toArray, List.set_cons_zero, List.set_cons_succ]
      refine takeL 22 (v := ?_) rfl (by kernel_rfl) (by kernel_rfl) (by kernel_rfl) (fun _ _ _ h => h) (Or.inl ⟨by rfl, ?_⟩) (by assumption) ?_
      rotate_left
      · (intro wS hSw; go_simp; try with_reducible rfl)
      try simp only [Act.put, List.setIfInBounds_toArray, List.set_cons_zero, List.set_cons_succ]
      refine takeL 23 (v := ?_) rfl (by kernel_rfl) (by kernel_rfl) (by kernel_rfl) (fun _ _ _ h => h) (Or.inl ⟨by rfl, ?_⟩) (by assumption) ?_
      rotate_left
      · (intro wS hSw; go_simp; try with_reducible rfl)
      try simp only [Act.put, List.setIfInBounds_toArray, List.set_cons_zero, List.set_cons_succ]
      refine takeL 24 (v := ?_) rfl (by kernel_rfl) (by kernel_rfl) (by kernel_rfl) (fun _ _ _ h => h) (Or.inl ⟨by rfl, ?_⟩) (by assumption) ?_
      rotate_left
      · (intro wS hSw; go_simp; try with_reducible rfl)
      try simp only [Act.put, List.setIfInBounds_toArray, List.set_cons_zero, List.set_cons_succ]
      refine takeL 25 (v := ?_) rfl (by kernel_rfl) (by kernel_rfl) (by kernel_rfl) (fun _ _ _ h => h) (Or.inl ⟨by rfl, ?_⟩) (by assumption) ?_
      rotate_left
      · (intro wS hSw; go_simp; try with_reducible rfl)
      try simp only [Act.put, List.setIfInBounds_toArray, List.set_cons_zero, List.set_cons_succ]
      refine takeL 26 (v := ?_) rfl (by kernel_rfl) (by kernel_rfl) (by kernel_rfl) (fun _ _ _ h => h) (Or.inl ⟨by rfl, ?_⟩) (by assumption) ?_
      rotate_left
      · (intro wS hSw; go_simp; try with_reducible rfl)
      try simp only [Act.put, List.setIfInBounds_toArray, List.set_cons_zero, List.set_cons_succ]
      refine takeL 27 (v := ?_) rfl (by kernel_rfl) (by kernel_rfl) (by kernel_rfl) (fun _ _ _ h => h) (Or.inl ⟨by rfl, ?_⟩) (by assumption) ?_
      rotate_left
      · (intro wS hSw; go_simp; try with_reducible rfl)
      try simp only [Act.put, List.setIfInBounds_toArray, List.set_cons_zero, List.set_cons_succ]
      refine takeL 28 (v := ?_) rfl (by kernel_rfl) (by kernel_rfl) (by kernel_rfl) (fun _ _ _ h => h) (Or.inl ⟨by rfl, ?_⟩) (by assumption) ?_
      rotate_left
      · (intro wS hSw; go_simp; try with_reducible rfl)
      try simp only [Act.put, List.setIfInBounds_toArray, List.set_cons_zero, List.set_cons_succ]
      have hBk := Lib.hid (hinv.out.1.keep ((Keeps.refl (fun _ => False) wr).drew) (fun f => f))
      have hOn := Lib.hid (hinv.out.2.1.keep ((Keeps.refl (fun _ => False) wr).drew) (fun _ _ f => f))
      have hKw := Lib.hid (hinv.out.2.2.drew)
      obtain ⟨W0, hW0⟩ : ∃ W0, W0 = wr.drew := ⟨_, rfl⟩
      rw [← hW0] at hBk hOn hHeld hKw ⊢
      clear hW0 hinv f1 f2 f3 a1 a2 a4 z1 z2 z3 z4 m1 m2 m4 u1 u2 u3 u4 v1 v2 v3 l1 l2 l3 l4 c1 c2 c3 hcell
      refine step2L 1 7 rfl rfl (by kernel_rfl) (fun K hK => ?_) (fun K hK => ?_)
      · skip
        have hc5 := hBk.out.cell 5 (.slice q k d) rfl
        go_simp
        refine hK.out _ _ hHeld (fun hHeld => ?_)
        clear hK K hc5
        try simp only [Act.put, List.setIfInBounds_toArray, List.set_cons_zero, List.set_cons_succ]
        refine stepL 7 rfl (by kernel_rfl) (fun K hK => ?_)
        go_simp
        refine (r10Num_r _ (sub b i 4) n1 (by rw [sub_len (by omega)]; omega) _ (Lib.hid (bytes_sub (hHeld.rangeAt hrb.out (fun f => f)) hbc'.out i 4 (by omega))) hn1').mono ?_
        rintro e Wa ⟨rfl, rfl⟩
        go_wp2_with fail
        refine hK.out _ _ hHeld (fun hHeld => ?_)
        clear hK K
        try simp only [Act.put, List.setIfInBounds_toArray, List.set_cons_zero, List.set_cons_succ]
        refine takeL 8 (v := ?_) rfl (by kernel_rfl) (by kernel_rfl) (by kernel_rfl) (fun _ _ _ h => h) (Or.inl ⟨by rfl, ?_⟩) (by assumption) ?_
        rotate_left
        · (intro wS hSw; go_simp; try with_reducible rfl)
        try simp only [Act.put, List.setIfInBounds_toArray, List.set_cons_zero, List.set_cons_succ]
        refine stepL 15 rfl (by kernel_rfl) (fun K hK => ?_)
        go_simp
        refine (r10Num_r _ (sub b (i + 4) 4) n2 (by rw [sub_len (by omega)]; omega) _ (Lib.hid (bytes_sub (hHeld.rangeAt hrb.out (fun f => f)) hbc'.out (i + 4) 4 (by omega))) hn2').mono ?_
        rintro e Wa ⟨rfl, rfl⟩
        go_wp2_with fail
        refine hK.out _ _ hHeld (fun hHeld => ?_)
        clear hK K
        try simp only [Act.put, List.setIfInBounds_toArray, List.set_cons_zero, List.set_cons_succ]
        refine takeL 16 (v := ?_) rfl (by kernel_rfl) (by kernel_rfl) (by kernel_rfl) (fun _ _ _ h => h) (Or.inl ⟨by rfl, ?_⟩) (by assumption) ?_
        rotate_left
        · (intro wS hSw; go_simp; try with_reducible rfl)
        try simp only [Act.put, List.setIfInBounds_toArray, List.set_cons_zero, List.set_cons_succ]
        refine stepL 29 rfl (by kernel_rfl) (fun K hK => ?_)
        go_simp
        refine (r10Num_r _ (sub b (i + 10) 2) n3 (by rw [sub_len (by omega)]; omega) _ (Lib.hid (bytes_sub (hHeld.rangeAt hrb.out (fun f => f)) hbc'.out (i + 10) 2 (by omega))) hn3').mono ?_
        rintro e Wa ⟨rfl, rfl⟩
        go_wp2_with fail
        refine hK.out _ _ hHeld (fun hHeld => ?_)
        clear hK K
        try simp only [Act.put, List.setIfInBounds_toArray, List.set_cons_zero, List.set_cons_succ]
        refine takeL 30 (v := ?_) rfl (by kernel_rfl) (by kernel_rfl) (by kernel_rfl) (fun _ _ _ h => h) (Or.inl ⟨by rfl, ?_⟩) (by assumption) ?_
        rotate_left
        · (intro wS hSw; go_simp; try with_reducible rfl)
        try simp only [Act.put, List.setIfInBounds_toArray, List.set_cons_zero, List.set_cons_succ]
        refine stepL 31 rfl (by kernel_rfl) (fun K hK => ?_)
        go_simp
        refine hK.out _ _ (hHeld.alloc _) (fun hHeld => ?_)
        clear hK K
        try simp only [Act.put, List.setIfInBounds_toArray, List.set_cons_zero, List.set_cons_succ]
        have hka : Keeps (fun _ => False) W0 (W0.alloc (.cells #[.int .u32 (n1 : Nat), .int .u32 (n2 : Nat), .int .i64 (ty : Nat), .int .i64 (n3 : Nat)] 124)) := (Keeps.refl _ _).alloc _
        have hnr : Hid ((W0.alloc (.cells #[.int .u32 (n1 : Nat), .int .u32 (n2 : Nat), .int .i64 (ty : Nat), .int .i64 (n3 : Nat)] 124)).rangeAt W0.heap.size 0 [.int .u32 (n1 : Nat), .int .u32 (n2 : Nat), .int .i64 (ty : Nat), .int .i64 (n3 : Nat)]) := Lib.hid (new_rangeb W0 _ 124)
        have hBk := Lib.hid (hBk.out.keep hka (fun f => f)); have hOn := Lib.hid (hOn.out.keep hka (fun _ _ f => f)); have hKw := Lib.hid (hKw.out.alloc (.cells #[.int .u32 (n1 : Nat), .int .u32 (n2 : Nat), .int .i64 (ty : Nat), .int .i64 (n3 : Nat)] 124))
        obtain ⟨nb, hnb⟩ : ∃ nb, nb = W0.heap.size := ⟨_, rfl⟩
        obtain ⟨W0s, hW0s⟩ : ∃ Wz, Wz = W0.alloc (.cells #[.int .u32 (n1 : Nat), .int .u32 (n2 : Nat), .int .i64 (ty : Nat), .int .i64 (n3 : Nat)] 124) := ⟨_, rfl⟩
        rw [← hW0s] at hBk hOn hnr hHeld hKw ⊢
        rw [← hnb] at hnr ⊢
        clear hka hnb hW0s
        refine stepL 32 rfl (by kernel_rfl) (fun K hK => ?_)
        rw [if_pos (by rfl)]
        refine wp_append_rb (.tmp 60) (.tmp 90) 25 rfl ii Try.underlying25 hii hiz hisz hiby W3 _ k (readL (b.drop 4) k) (readL_len _ _) rfl hOn.out ⟨nb, 0, none⟩ rfl ⟨n1, n2, (ty : Nat), (n3 : Nat)⟩ (fun j u hu => by rw [Addr.add_mid]; exact hnr.out j u hu) (by have := hik'.out; omega) ?_
        intro q2 d2 w' hO2 hG2
        refine hK.out _ _ (hHeld.trans' hG2.k (fun i e => .inr (Nat.le_trans hsz3.out (hOn.out.2.1 i e)))) (fun hHeld => ?_)
        clear hK K
        try simp only [Act.put, List.setIfInBounds_toArray, List.set_cons_zero, List.set_cons_succ]
        have hKw := Lib.hid (hKw.out.trans' hG2.k (fun i e => .inr (hOn.out.2.1 i e)))
        have hBk := Lib.hid (hBk.out.keep hG2.k (fun e => hOn.out.ne_blkR hBk.out B e rfl))
        have hc5 := hBk.out.cell 5 (.slice q k d) rfl
        have hf5 := hBk.out.frozen 5
        have hs5 : Keeps (fun i => i = B) w' (w'.setCell ⟨B, 5, none⟩ (.slice q2 (k + 1) d2)) := (Keeps.refl (fun i => i = B) w').setCell (p := ⟨B, 5, none⟩) (.inl rfl) _
        have hO2' := Lib.hid (hO2.keep hs5 (fun i e h => hO2.ne_blkR hBk.out i e h))
        clear hO2 hG2 hOn
        refine takeL 33 (v := ?_) rfl (by kernel_rfl) (by kernel_rfl) (by kernel_rfl) (fun _ _ _ h => h) (Or.inl ⟨by rfl, ?_⟩) (by assumption) ?_
        rotate_left
        · (intro wS hSw; go_simp; try with_reducible rfl)
        try simp only [Act.put, List.setIfInBounds_toArray, List.set_cons_zero, List.set_cons_succ]
        refine stepL 34 rfl (by kernel_rfl) (fun K hK => ?_)
        go_simp
        refine hK.out _ _ ((hHeld.setCell (p := ⟨B, 5, none⟩) (.inr (Nat.le_of_lt hlt.out)) _)) (fun hHeld => ?_)
        clear hK K
        try simp only [Act.put, List.setIfInBounds_toArray, List.set_cons_zero, List.set_cons_succ]
        refine wpAnyH_done (by kernel_rfl) (NoPanic.normal ?_) _
        clear hc5 hf5
        have hnew : Hid (BlkAt (w'.setCell ⟨B, 5, none⟩ (.slice q2 (k + 1) d2)) B 28 [.int .i64 age, .int .i64 1, .int .u32 lid, .int .u32 adv, .int .i64 seq, .slice q2 (k + 1) d2, .int .u32 0, .slice none 0 0, .int .i64 0] ∧ OwnR W3 (w'.setCell ⟨B, 5, none⟩ (.slice q2 (k + 1) d2)) (.slice q2 (k + 1) d2) (readL (b.drop 4) (k + 1)) ∧ Keeps (fun i => i = B) W3 (w'.setCell ⟨B, 5, none⟩ (.slice q2 (k + 1) d2))) := Lib.hid ⟨hBk.out.put 5 _, by rw [hrs.out]; exact hO2'.out, hKw.out.trans hs5⟩
        clear hBk hO2' hHeld hKw hs5
        go_wp2_with fail
        have hik2 := hik'.out
        exact ⟨⟨k + 1, i + 12, q2, d2, by omega, by omega, by go_num, hnew⟩, by simp [intOf]; omega⟩
      · skip
        go_simp
        refine (r10Num_r _ (sub b i 4) n1 (by rw [sub_len (by omega)]; omega) _ (Lib.hid (bytes_sub (hHeld.rangeAt hrb.out (fun f => f)) hbc'.out i 4 (by omega))) hn1').mono ?_
        rintro e Wa ⟨rfl, rfl⟩
        go_wp2_with fail
        refine hK.out _ _ hHeld (fun hHeld => ?_)
        clear hK K
        try simp only [Act.put, List.setIfInBounds_toArray, List.set_cons_zero, List.set_cons_succ]
        refine takeL 8 (v := ?_) rfl (by kernel_rfl) (by kernel_rfl) (by kernel_rfl) (fun _ _ _ h => h) (Or.inl ⟨by rfl, ?_⟩) (by assumption) ?_
        rotate_left
        · (intro wS hSw; go_simp; try with_reducible rfl)
        try simp only [Act.put, List.setIfInBounds_toArray, List.set_cons_zero, List.set_cons_succ]
        refine step2L 1 15 rfl rfl (by kernel_rfl) (fun K hK => ?_) (fun K hK => ?_)
        · skip
          have hc5 := hBk.out.cell 5 (.slice q k d) rfl
          go_simp
          refine hK.out _ _ hHeld (fun hHeld => ?_)
          clear hK K hc5
          try simp only [Act.put, List.setIfInBounds_toArray, List.set_cons_zero, List.set_cons_succ]
          refine stepL 15 rfl (by kernel_rfl) (fun K hK => ?_)
          go_simp
          refine (r10Num_r _ (sub b (i + 4) 4) n2 (by rw [sub_len (by omega)]; omega) _ (Lib.hid (bytes_sub (hHeld.rangeAt hrb.out (fun f => f)) hbc'.out (i + 4) 4 (by omega))) hn2').mono ?_
          rintro e Wa ⟨rfl, rfl⟩
          go_wp2_with fail
          refine hK.out _ _ hHeld (fun hHeld => ?_)
          clear hK K
          try simp only [Act.put, List.setIfInBounds_toArray, List.set_cons_zero, List.set_cons_succ]
          refine takeL 16 (v := ?_) rfl (by kernel_rfl) (by kernel_rfl) (by kernel_rfl) (fun _ _ _ h => h) (Or.inl ⟨by rfl, ?_⟩) (by assumption) ?_
          rotate_left
          · (intro wS hSw; go_simp; try with_reducible rfl)
          try simp only [Act.put, List.setIfInBounds_toArray, List.set_cons_zero, List.set_cons_succ]
          refine stepL 29 rfl (by kernel_rfl) (fun K hK => ?_)
          go_simp
          refine (r10Num_r _ (sub b (i + 10) 2) n3 (by rw [sub_len (by omega)]; omega) _ (Lib.hid (bytes_sub (hHeld.rangeAt hrb.out (fun f => f)) hbc'.out (i + 10) 2 (by omega))) hn3').mono ?_
          rintro e Wa ⟨rfl, rfl⟩
          go_wp2_with fail
          refine hK.out _ _ hHeld (fun hHeld => ?_)
          clear hK K
          try simp only [Act.put, List.setIfInBounds_toArray, List.set_cons_zero, List.set_cons_succ]
          refine takeL 30 (v := ?_) rfl (by kernel_rfl) (by kernel_rfl) (by kernel_rfl) (fun _ _ _ h => h) (Or.inl ⟨by rfl, ?_⟩) (by assumption) ?_
          rotate_left
          · (intro wS hSw; go_simp; try with_reducible rfl)
          try simp only [Act.put, List.setIfInBounds_toArray, List.set_cons_zero, List.set_cons_succ]
          refine stepL 31 rfl (by kernel_rfl) (fun K hK => ?_)
          go_simp
          refine hK.out _ _ (hHeld.alloc _) (fun hHeld => ?_)
          clear hK K
          try simp only [Act.put, List.setIfInBounds_toArray, List.set_cons_zero, List.set_cons_succ]
          have hka : Keeps (fun _ => False) W0 (W0.alloc (.cells #[.int .u32 (n1 : Nat), .int .u32 (n2 : Nat), .int .i64 (ty : Nat), .int .i64 (n3 : Nat)] 124)) := (Keeps.refl _ _).alloc _
          have hnr : Hid ((W0.alloc (.cells #[.int .u32 (n1 : Nat), .int .u32 (n2 : Nat), .int .i64 (ty : Nat), .int .i64 (n3 : Nat)] 124)).rangeAt W0.heap.size 0 [.int .u32 (n1 : Nat), .int .u32 (n2 : Nat), .int .i64 (ty : Nat), .int .i64 (n3 : Nat)]) := Lib.hid (new_rangeb W0 _ 124)
          have hBk := Lib.hid (hBk.out.keep hka (fun f => f)); have hOn := Lib.hid (hOn.out.keep hka (fun _ _ f => f)); have hKw := Lib.hid (hKw.out.alloc (.cells #[.int .u32 (n1 : Nat), .int .u32 (n2 : Nat), .int .i64 (ty : Nat), .int .i64 (n3 : Nat)] 124))
          obtain ⟨nb, hnb⟩ : ∃ nb, nb = W0.heap.size := ⟨_, rfl⟩
          obtain ⟨W0s, hW0s⟩ : ∃ Wz, Wz = W0.alloc (.cells #[.int .u32 (n1 : Nat), .int .u32 (n2 : Nat), .int .i64 (ty : Nat), .int .i64 (n3 : Nat)] 124) := ⟨_, rfl⟩
          rw [← hW0s] at hBk hOn hnr hHeld hKw ⊢
          rw [← hnb] at hnr ⊢
          clear hka hnb hW0s
          refine stepL 32 rfl (by kernel_rfl) (fun K hK => ?_)
          rw [if_pos (by rfl)]
          refine wp_append_rb (.tmp 60) (.tmp 90) 25 rfl ii Try.underlying25 hii hiz hisz hiby W3 _ k (readL (b.drop 4) k) (readL_len _ _) rfl hOn.out ⟨nb, 0, none⟩ rfl ⟨n1, n2, (ty : Nat), (n3 : Nat)⟩ (fun j u hu => by rw [Addr.add_mid]; exact hnr.out j u hu) (by have := hik'.out; omega) ?_
          intro q2 d2 w' hO2 hG2
          refine hK.out _ _ (hHeld.trans' hG2.k (fun i e => .inr (Nat.le_trans hsz3.out (hOn.out.2.1 i e)))) (fun hHeld => ?_)
          clear hK K
          try simp only [Act.put, List.setIfInBounds_toArray, List.set_cons_zero, List.set_cons_succ]
          have hKw := Lib.hid (hKw.out.trans' hG2.k (fun i e => .inr (hOn.out.2.1 i e)))
          have hBk := Lib.hid (hBk.out.keep hG2.k (fun e => hOn.out.ne_blkR hBk.out B e rfl))
          have hc5 := hBk.out.cell 5 (.slice q k d) rfl
          have hf5 := hBk.out.frozen 5
          have hs5 : Keeps (fun i => i = B) w' (w'.setCell ⟨B, 5, none⟩ (.slice q2 (k + 1) d2)) := (Keeps.refl (fun i => i = B) w').setCell (p := ⟨B, 5, none⟩) (.inl rfl) _
          have hO2' := Lib.hid (hO2.keep hs5 (fun i e h => hO2.ne_blkR hBk.out i e h))
          clear hO2 hG2 hOn
          refine takeL 33 (v := ?_) rfl (by kernel_rfl) (by kernel_rfl) (by kernel_rfl) (fun _ _ _ h => h) (Or.inl ⟨by rfl, ?_⟩) (by assumption) ?_
          rotate_left
          · (intro wS hSw; go_simp; try with_reducible rfl)
          try simp only [Act.put, List.setIfInBounds_toArray, List.set_cons_zero, List.set_cons_succ]
          refine stepL 34 rfl (by kernel_rfl) (fun K hK => ?_)
          go_simp
          refine hK.out _ _ ((hHeld.setCell (p := ⟨B, 5, none⟩) (.inr (Nat.le_of_lt hlt.out)) _)) (fun hHeld => ?_)
          clear hK K
          try simp only [Act.put, List.setIfInBounds_toArray, List.set_cons_zero, List.set_cons_succ]
          refine wpAnyH_done (by kernel_rfl) (NoPanic.normal ?_) _
          clear hc5 hf5
          have hnew : Hid (BlkAt (w'.setCell ⟨B, 5, none⟩ (.slice q2 (k + 1) d2)) B 28 [.int .i64 age, .int .i64 1, .int .u32 lid, .int .u32 adv, .int .i64 seq, .slice q2 (k + 1) d2, .int .u32 0, .slice none 0 0, .int .i64 0] ∧ OwnR W3 (w'.setCell ⟨B, 5, none⟩ (.slice q2 (k + 1) d2)) (.slice q2 (k + 1) d2) (readL (b.drop 4) (k + 1)) ∧ Keeps (fun i => i = B) W3 (w'.setCell ⟨B, 5, none⟩ (.slice q2 (k + 1) d2))) := Lib.hid ⟨hBk.out.put 5 _, by rw [hrs.out]; exact hO2'.out, hKw.out.trans hs5⟩
          clear hBk hO2' hHeld hKw hs5
          go_wp2_with fail
          have hik2 := hik'.out
          exact ⟨⟨k + 1, i + 12, q2, d2, by omega, by omega, by go_num, hnew⟩, by simp [intOf]; omega⟩
        · skip
          go_simp
          refine (r10Num_r _ (sub b (i + 4) 4) n2 (by rw [sub_len (by omega)]; omega) _ (Lib.hid (bytes_sub (hHeld.rangeAt hrb.out (fun f => f)) hbc'.out (i + 4) 4 (by omega))) hn2').mono ?_
          rintro e Wa ⟨rfl, rfl⟩
          go_wp2_with fail
          refine hK.out _ _ hHeld (fun hHeld => ?_)
          clear hK K
          try simp only [Act.put, List.setIfInBounds_toArray, List.set_cons_zero, List.set_cons_succ]
          refine takeL 16 (v := ?_) rfl (by kernel_rfl) (by kernel_rfl) (by kernel_rfl) (fun _ _ _ h => h) (Or.inl ⟨by rfl, ?_⟩) (by assumption) ?_
          rotate_left
          · (intro wS hSw; go_simp; try with_reducible rfl)
          try simp only [Act.put, List.setIfInBounds_toArray, List.set_cons_zero, List.set_cons_succ]
          refine step2L 1 29 rfl rfl (by kernel_rfl) (fun K hK => ?_) (fun K hK => ?_)
          · skip
            have hc5 := hBk.out.cell 5 (.slice q k d) rfl
            go_simp
            refine hK.out _ _ hHeld (fun hHeld => ?_)
            clear hK K hc5
            try simp only [Act.put, List.setIfInBounds_toArray, List.set_cons_zero, List.set_cons_succ]
            refine stepL 29 rfl (by kernel_rfl) (fun K hK => ?_)
            go_simp
            refine (r10Num_r _ (sub b (i + 10) 2) n3 (by rw [sub_len (by omega)]; omega) _ (Lib.hid (bytes_sub (hHeld.rangeAt hrb.out (fun f => f)) hbc'.out (i + 10) 2 (by omega))) hn3').mono ?_
            rintro e Wa ⟨rfl, rfl⟩
            go_wp2_with fail
            refine hK.out _ _ hHeld (fun hHeld => ?_)
            clear hK K
            try simp only [Act.put, List.setIfInBounds_toArray, List.set_cons_zero, List.set_cons_succ]
            refine takeL 30 (v := ?_) rfl (by kernel_rfl) (by kernel_rfl) (by kernel_rfl) (fun _ _ _ h => h) (Or.inl ⟨by rfl, ?_⟩) (by assumption) ?_
            rotate_left
            · (intro wS hSw; go_simp; try with_reducible rfl)
            try simp only [Act.put, List.setIfInBounds_toArray, List.set_cons_zero, List.set_cons_succ]
            refine stepL 31 rfl (by kernel_rfl) (fun K hK => ?_)
            go_simp
            refine hK.out _ _ (hHeld.alloc _) (fun hHeld => ?_)
            clear hK K
            try simp only [Act.put, List.setIfInBounds_toArray, List.set_cons_zero, List.set_cons_succ]
            have hka : Keeps (fun _ => False) W0 (W0.alloc (.cells #[.int .u32 (n1 : Nat), .int .u32 (n2 : Nat), .int .i64 (ty : Nat), .int .i64 (n3 : Nat)] 124)) := (Keeps.refl _ _).alloc _
            have hnr : Hid ((W0.alloc (.cells #[.int .u32 (n1 : Nat), .int .u32 (n2 : Nat), .int .i64 (ty : Nat), .int .i64 (n3 : Nat)] 124)).rangeAt W0.heap.size 0 [.int .u32 (n1 : Nat), .int .u32 (n2 : Nat), .int .i64 (ty : Nat), .int .i64 (n3 : Nat)]) := Lib.hid (new_rangeb W0 _ 124)
            have hBk := Lib.hid (hBk.out.keep hka (fun f => f)); have hOn := Lib.hid (hOn.out.keep hka (fun _ _ f => f)); have hKw := Lib.hid (hKw.out.alloc (.cells #[.int .u32 (n1 : Nat), .int .u32 (n2 : Nat), .int .i64 (ty : Nat), .int .i64 (n3 : Nat)] 124))
            obtain ⟨nb, hnb⟩ : ∃ nb, nb = W0.heap.size := ⟨_, rfl⟩
            obtain ⟨W0s, hW0s⟩ : ∃ Wz, Wz = W0.alloc (.cells #[.int .u32 (n1 : Nat), .int .u32 (n2 : Nat), .int .i64 (ty : Nat), .int .i64 (n3 : Nat)] 124) := ⟨_, rfl⟩
            rw [← hW0s] at hBk hOn hnr hHeld hKw ⊢
            rw [← hnb] at hnr ⊢
            clear hka hnb hW0s
            refine stepL 32 rfl (by kernel_rfl) (fun K hK => ?_)
            rw [if_pos (by rfl)]
            refine wp_append_rb (.tmp 60) (.tmp 90) 25 rfl ii Try.underlying25 hii hiz hisz hiby W3 _ k (readL (b.drop 4) k) (readL_len _ _) rfl hOn.out ⟨nb, 0, none⟩ rfl ⟨n1, n2, (ty : Nat), (n3 : Nat)⟩ (fun j u hu => by rw [Addr.add_mid]; exact hnr.out j u hu) (by have := hik'.out; omega) ?_
            intro q2 d2 w' hO2 hG2
            refine hK.out _ _ (hHeld.trans' hG2.k (fun i e => .inr (Nat.le_trans hsz3.out (hOn.out.2.1 i e)))) (fun hHeld => ?_)
            clear hK K
            try simp only [Act.put, List.setIfInBounds_toArray, List.set_cons_zero, List.set_cons_succ]
            have hKw := Lib.hid (hKw.out.trans' hG2.k (fun i e => .inr (hOn.out.2.1 i e)))
            have hBk := Lib.hid (hBk.out.keep hG2.k (fun e => hOn.out.ne_blkR hBk.out B e rfl))
            have hc5 := hBk.out.cell 5 (.slice q k d) rfl
            have hf5 := hBk.out.frozen 5
            have hs5 : Keeps (fun i => i = B) w' (w'.setCell ⟨B, 5, none⟩ (.slice q2 (k + 1) d2)) := (Keeps.refl (fun i => i = B) w').setCell (p := ⟨B, 5, none⟩) (.inl rfl) _
            have hO2' := Lib.hid (hO2.keep hs5 (fun i e h => hO2.ne_blkR hBk.out i e h))
            clear hO2 hG2 hOn
            refine takeL 33 (v := ?_) rfl (by kernel_rfl) (by kernel_rfl) (by kernel_rfl) (fun _ _ _ h => h) (Or.inl ⟨by rfl, ?_⟩) (by assumption) ?_
            rotate_left
            · (intro wS hSw; go_simp; try with_reducible rfl)
            try simp only [Act.put, List.setIfInBounds_toArray, List.set_cons_zero, List.set_cons_succ]
            refine stepL 34 rfl (by kernel_rfl) (fun K hK => ?_)
            go_simp
            refine hK.out _ _ ((hHeld.setCell (p := ⟨B, 5, none⟩) (.inr (Nat.le_of_lt hlt.out)) _)) (fun hHeld => ?_)
            clear hK K
            try simp only [Act.put, List.setIfInBounds_toArray, List.set_cons_zero, List.set_cons_succ]
            refine wpAnyH_done (by kernel_rfl) (NoPanic.normal ?_) _
            clear hc5 hf5
            have hnew : Hid (BlkAt (w'.setCell ⟨B, 5, none⟩ (.slice q2 (k + 1) d2)) B 28 [.int .i64 age, .int .i64 1, .int .u32 lid, .int .u32 adv, .int .i64 seq, .slice q2 (k + 1) d2, .int .u32 0, .slice none 0 0, .int .i64 0] ∧ OwnR W3 (w'.setCell ⟨B, 5, none⟩ (.slice q2 (k + 1) d2)) (.slice q2 (k + 1) d2) (readL (b.drop 4) (k + 1)) ∧ Keeps (fun i => i = B) W3 (w'.setCell ⟨B, 5, none⟩ (.slice q2 (k + 1) d2))) := Lib.hid ⟨hBk.out.put 5 _, by rw [hrs.out]; exact hO2'.out, hKw.out.trans hs5⟩
            clear hBk hO2' hHeld hKw hs5
            go_wp2_with fail
            have hik2 := hik'.out
            exact ⟨⟨k + 1, i + 12, q2, d2, by omega, by omega, by go_num, hnew⟩, by simp [intOf]; omega⟩
          · skip
            go_simp
            refine (r10Num_r _ (sub b (i + 10) 2) n3 (by rw [sub_len (by omega)]; omega) _ (Lib.hid (bytes_sub (hHeld.rangeAt hrb.out (fun f => f)) hbc'.out (i + 10) 2 (by omega))) hn3').mono ?_
            rintro e Wa ⟨rfl, rfl⟩
            go_wp2_with fail
            refine hK.out _ _ hHeld (fun hHeld => ?_)
            clear hK K
            try simp only [Act.put, List.setIfInBounds_toArray, List.set_cons_zero, List.set_cons_succ]
            refine takeL 30 (v := ?_) rfl (by kernel_rfl) (by kernel_rfl) (by kernel_rfl) (fun _ _ _ h => h) (Or.inl ⟨by rfl, ?_⟩) (by assumption) ?_
            rotate_left
            · (intro wS hSw; go_simp; try with_reducible rfl)
            try simp only [Act.put, List.setIfInBounds_toArray, List.set_cons_zero, List.set_cons_succ]
            refine step2L 1 31 rfl rfl (by kernel_rfl) (fun K hK => ?_) (fun K hK => ?_)
            · skip
              have hc5 := hBk.out.cell 5 (.slice q k d) rfl
              go_simp
              refine hK.out _ _ hHeld (fun hHeld => ?_)
              clear hK K hc5
              try simp only [Act.put, List.setIfInBounds_toArray, List.set_cons_zero, List.set_cons_succ]
              refine stepL 31 rfl (by kernel_rfl) (fun K hK => ?_)
              go_simp
              refine hK.out _ _ (hHeld.alloc _) (fun hHeld => ?_)
              clear hK K
              try simp only [Act.put, List.setIfInBounds_toArray, List.set_cons_zero, List.set_cons_succ]
              have hka : Keeps (fun _ => False) W0 (W0.alloc (.cells #[.int .u32 (n1 : Nat), .int .u32 (n2 : Nat), .int .i64 (ty : Nat), .int .i64 (n3 : Nat)] 124)) := (Keeps.refl _ _).alloc _
              have hnr : Hid ((W0.alloc (.cells #[.int .u32 (n1 : Nat), .int .u32 (n2 : Nat), .int .i64 (ty : Nat), .int .i64 (n3 : Nat)] 124)).rangeAt W0.heap.size 0 [.int .u32 (n1 : Nat), .int .u32 (n2 : Nat), .int .i64 (ty : Nat), .int .i64 (n3 : Nat)]) := Lib.hid (new_rangeb W0 _ 124)
              have hBk := Lib.hid (hBk.out.keep hka (fun f => f)); have hOn := Lib.hid (hOn.out.keep hka (fun _ _ f => f)); have hKw := Lib.hid (hKw.out.alloc (.cells #[.int .u32 (n1 : Nat), .int .u32 (n2 : Nat), .int .i64 (ty : Nat), .int .i64 (n3 : Nat)] 124))
              obtain ⟨nb, hnb⟩ : ∃ nb, nb = W0.heap.size := ⟨_, rfl⟩
              obtain ⟨W0s, hW0s⟩ : ∃ Wz, Wz = W0.alloc (.cells #[.int .u32 (n1 : Nat), .int .u32 (n2 : Nat), .int .i64 (ty : Nat), .int .i64 (n3 : Nat)] 124) := ⟨_, rfl⟩
              rw [← hW0s] at hBk hOn hnr hHeld hKw ⊢
              rw [← hnb] at hnr ⊢
              clear hka hnb hW0s
              refine stepL 32 rfl (by kernel_rfl) (fun K hK => ?_)
              rw [if_pos (by rfl)]
              refine wp_append_rb (.tmp 60) (.tmp 90) 25 rfl ii Try.underlying25 hii hiz hisz hiby W3 _ k (readL (b.drop 4) k) (readL_len _ _) rfl hOn.out ⟨nb, 0, none⟩ rfl ⟨n1, n2, (ty : Nat), (n3 : Nat)⟩ (fun j u hu => by rw [Addr.add_mid]; exact hnr.out j u hu) (by have := hik'.out; omega) ?_
              intro q2 d2 w' hO2 hG2
              refine hK.out _ _ (hHeld.trans' hG2.k (fun i e => .inr (Nat.le_trans hsz3.out (hOn.out.2.1 i e)))) (fun hHeld => ?_)
              clear hK K
              try simp only [Act.put, List.setIfInBounds_toArray, List.set_cons_zero, List.set_cons_succ]
              have hKw := Lib.hid (hKw.out.trans' hG2.k (fun i e => .inr (hOn.out.2.1 i e)))
              have hBk := Lib.hid (hBk.out.keep hG2.k (fun e => hOn.out.ne_blkR hBk.out B e rfl))
              have hc5 := hBk.out.cell 5 (.slice q k d) rfl
              have hf5 := hBk.out.frozen 5
              have hs5 : Keeps (fun i => i = B) w' (w'.setCell ⟨B, 5, none⟩ (.slice q2 (k + 1) d2)) := (Keeps.refl (fun i => i = B) w').setCell (p := ⟨B, 5, none⟩) (.inl rfl) _
              have hO2' := Lib.hid (hO2.keep hs5 (fun i e h => hO2.ne_blkR hBk.out i e h))
              clear hO2 hG2 hOn
              refine takeL 33 (v := ?_) rfl (by kernel_rfl) (by kernel_rfl) (by kernel_rfl) (fun _ _ _ h => h) (Or.inl ⟨by rfl, ?_⟩) (by assumption) ?_
              rotate_left
              · (intro wS hSw; go_simp; try with_reducible rfl)
              try simp only [Act.put, List.setIfInBounds_toArray, List.set_cons_zero, List.set_cons_succ]
              refine stepL 34 rfl (by kernel_rfl) (fun K hK => ?_)
              go_simp
              refine hK.out _ _ ((hHeld.setCell (p := ⟨B, 5, none⟩) (.inr (Nat.le_of_lt hlt.out)) _)) (fun hHeld => ?_)
              clear hK K
              try simp only [Act.put, List.setIfInBounds_toArray, List.set_cons_zero, List.set_cons_succ]
              refine wpAnyH_done (by kernel_rfl) (NoPanic.normal ?_) _
              clear hc5 hf5
              have hnew : Hid (BlkAt (w'.setCell ⟨B, 5, none⟩ (.slice q2 (k + 1) d2)) B 28 [.int .i64 age, .int .i64 1, .int .u32 lid, .int .u32 adv, .int .i64 seq, .slice q2 (k + 1) d2, .int .u32 0, .slice none 0 0, .int .i64 0] ∧ OwnR W3 (w'.setCell ⟨B, 5, none⟩ (.slice q2 (k + 1) d2)) (.slice q2 (k + 1) d2) (readL (b.drop 4) (k + 1)) ∧ Keeps (fun i => i = B) W3 (w'.setCell ⟨B, 5, none⟩ (.slice q2 (k + 1) d2))) := Lib.hid ⟨hBk.out.put 5 _, by rw [hrs.out]; exact hO2'.out, hKw.out.trans hs5⟩
              clear hBk hO2' hHeld hKw hs5
              go_wp2_with fail
              have hik2 := hik'.out
              exact ⟨⟨k + 1, i + 12, q2, d2, by omega, by omega, by go_num, hnew⟩, by simp [intOf]; omega⟩
            · skip
              go_simp
              refine hK.out _ _ (hHeld.alloc _) (fun hHeld => ?_)
              clear hK K
              try simp only [Act.put, List.setIfInBounds_toArray, List.set_cons_zero, List.set_cons_succ]
              have hka : Keeps (fun _ => False) W0 (W0.alloc (.cells #[.int .u32 (n1 : Nat), .int .u32 (n2 : Nat), .int .i64 (ty : Nat), .int .i64 (n3 : Nat)] 124)) := (Keeps.refl _ _).alloc _
              have hnr : Hid ((W0.alloc (.cells #[.int .u32 (n1 : Nat), .int .u32 (n2 : Nat), .int .i64 (ty : Nat), .int .i64 (n3 : Nat)] 124)).rangeAt W0.heap.size 0 [.int .u32 (n1 : Nat), .int .u32 (n2 : Nat), .int .i64 (ty : Nat), .int .i64 (n3 : Nat)]) := Lib.hid (new_rangeb W0 _ 124)
              have hBk := Lib.hid (hBk.out.keep hka (fun f => f)); have hOn := Lib.hid (hOn.out.keep hka (fun _ _ f => f)); have hKw := Lib.hid (hKw.out.alloc (.cells #[.int .u32 (n1 : Nat), .int .u32 (n2 : Nat), .int .i64 (ty : Nat), .int .i64 (n3 : Nat)] 124))
              obtain ⟨nb, hnb⟩ : ∃ nb, nb = W0.heap.size := ⟨_, rfl⟩
              obtain ⟨W0s, hW0s⟩ : ∃ Wz, Wz = W0.alloc (.cells #[.int .u32 (n1 : Nat), .int .u32 (n2 : Nat), .int .i64 (ty : Nat), .int .i64 (n3 : Nat)] 124) := ⟨_, rfl⟩
              rw [← hW0s] at hBk hOn hnr hHeld hKw ⊢
              rw [← hnb] at hnr ⊢
              clear hka hnb hW0s
              refine stepL 1 rfl (by kernel_rfl) (fun K hK => ?_)
              have hc5 := hBk.out.cell 5 (.slice q k d) rfl
              go_simp
              refine hK.out _ _ hHeld (fun hHeld => ?_)
              clear hK K hc5
              try simp only [Act.put, List.setIfInBounds_toArray, List.set_cons_zero, List.set_cons_succ]
              refine stepL 32 rfl (by kernel_rfl) (fun K hK => ?_)
              rw [if_pos (by rfl)]
              refine wp_append_rb (.tmp 60) (.tmp 90) 25 rfl ii Try.underlying25 hii hiz hisz hiby W3 _ k (readL (b.drop 4) k) (readL_len _ _) rfl hOn.out ⟨nb, 0, none⟩ rfl ⟨n1, n2, (ty : Nat), (n3 : Nat)⟩ (fun j u hu => by rw [Addr.add_mid]; exact hnr.out j u hu) (by have := hik'.out; omega) ?_
              intro q2 d2 w' hO2 hG2
              refine hK.out _ _ (hHeld.trans' hG2.k (fun i e => .inr (Nat.le_trans hsz3.out (hOn.out.2.1 i e)))) (fun hHeld => ?_)
              clear hK K
              try simp only [Act.put, List.setIfInBounds_toArray, List.set_cons_zero, List.set_cons_succ]
              have hKw := Lib.hid (hKw.out.trans' hG2.k (fun i e => .inr (hOn.out.2.1 i e)))
              have hBk := Lib.hid (hBk.out.keep hG2.k (fun e => hOn.out.ne_blkR hBk.out B e rfl))
              have hc5 := hBk.out.cell 5 (.slice q k d) rfl
              have hf5 := hBk.out.frozen 5
              have hs5 : Keeps (fun i => i = B) w' (w'.setCell ⟨B, 5, none⟩ (.slice q2 (k + 1) d2)) := (Keeps.refl (fun i => i = B) w').setCell (p := ⟨B, 5, none⟩) (.inl rfl) _
              have hO2' := Lib.hid (hO2.keep hs5 (fun i e h => hO2.ne_blkR hBk.out i e h))
              clear hO2 hG2 hOn
              refine takeL 33 (v := ?_) rfl (by kernel_rfl) (by kernel_rfl) (by kernel_rfl) (fun _ _ _ h => h) (Or.inl ⟨by rfl, ?_⟩) (by assumption) ?_
              rotate_left
              · (intro wS hSw; go_simp; try with_reducible rfl)
              try simp only [Act.put, List.setIfInBounds_toArray, List.set_cons_zero, List.set_cons_succ]
              refine stepL 34 rfl (by kernel_rfl) (fun K hK => ?_)
              go_simp
              refine hK.out _ _ ((hHeld.setCell (p := ⟨B, 5, none⟩) (.inr (Nat.le_of_lt hlt.out)) _)) (fun hHeld => ?_)
              clear hK K
              try simp only [Act.put, List.setIfInBounds_toArray, List.set_cons_zero, List.set_cons_succ]
              refine wpAnyH_done (by kernel_rfl) (NoPanic.normal ?_) _
              clear hc5 hf5
              have hnew : Hid (BlkAt (w'.setCell ⟨B, 5, none⟩ (.slice q2 (k + 1) d2)) B 28 [.int .i64 age, .int .i64 1, .int .u32 lid, .int .u32 adv, .int .i64 seq, .slice q2 (k + 1) d2, .int .u32 0, .slice none 0 0, .int .i64 0] ∧ OwnR W3 (w'.setCell ⟨B, 5, none⟩ (.slice q2 (k + 1) d2)) (.slice q2 (k + 1) d2) (readL (b.drop 4) (k + 1)) ∧ Keeps (fun i => i = B) W3 (w'.setCell ⟨B, 5, none⟩ (.slice q2 (k + 1) d2))) := Lib.hid ⟨hBk.out.put 5 _, by rw [hrs.out]; exact hO2'.out, hKw.out.trans hs5⟩
              clear hBk hO2' hHeld hKw hs5
              go_wp2_with fail
              have hik2 := hik'.out
              exact ⟨⟨k + 1, i + 12, q2, d2, by omega, by omega, by go_num, hnew⟩, by simp [intOf]; omega⟩
    · have hkm : k = (b.length - 4) / 12 := by rw [hblen'.out]; omega
      have hgl2 : Hid (getL x = lastL ⟨age, 1, lid, adv, seq, readL (b.drop 4) k, 0, [], 0⟩ x) := Lib.hid (by rw [hgl.out, ← hkm])
      have hkb : k ≤ 1000000 := by omega
      obtain ⟨rs, hrs⟩ : ∃ rs, readL (b.drop 4) k = rs := ⟨_, rfl⟩
      have hrl : rs.length = k := by rw [← hrs, readL_len]
      have hlok : Hid (∀ l ∈ rs, l.ok) := Lib.hid (by rw [← hrs]; exact readL_ok _ _)
      rw [hrs] at hgl2 hinv
      clear hgl hrs hkm
      subst hrl
      have hgl := hgl2
      have hB3 := Lib.hid hinv.out.1
      have hR3 := Lib.hid (hR3.out.keep hinv.out.2.2 (fun e => by have := hlt.out; omega))
      have hqo : Hid (∀ i, (Value.slice q rs.length d).ownBlock = some i → i ≠ w.heap.size) := Lib.hid (fun i e => by have h1 := hinv.out.2.1.2.1 i e; have h2 := lt_of_block hB0.out; have h3 := hlt.out; omega)
      have hk3 := Lib.hid (hk3.out.trans' hinv.out.2.2 (fun i e => .inr (by rw [e]; exact Nat.le_of_lt hlt.out)))
      have hr3 := Lib.hid (hk3.out.rangeAt hr.out (fun f => f))
      have hN3 : Hid (NumsAt wr (.slice none 0 0) []) := Lib.hid (NumsAt.nil _)
      have hL3 := Lib.hid hinv.out.2.1.at
      have hLk := hL3
      have hrb2 : ([] : List Nat).length ≤ 9223372036854775807 := by simp
      have hlb : rs.length ≤ 9223372036854775807 := by omega
      have hrok := Lib.hid no_small
      have hlm : 0 < 4294967296 := by decide
      have hini : ¬ (i : Int) + 12 ≤ bl := by omega
      have f1 : IntKind.i64.wrap ((i : Int) + 12) = (i : Int) + 12 := IntWalk.i64_in _ (by omega)
      have hik' := Lib.hid hik
      clear hinv hgl2 hik hin
      go_wp2_with ((with_reducible refine at_slot 139 ?_); refine wpList_load_mid rfl 28 (.tmp 5) rfl B 0 rfl [.int .i64 age, .int .i64 1, .int .u32 lid, .int .u32 adv, .int .i64 seq, .slice q rs.length d, .int .u32 0, .slice none 0 0, .int .i64 0] _ hB3.out.range Try.underlying28 rfl lsaInfoR ?_)
      cases hcan : canB ⟨age, 1, lid, adv, seq, rs, 0, [], 0⟩ with
      | false =>
        have hcan' := Lib.hid hcan; clear hcan
        have hg' : Hid (getL x = (zeroL, 3)) := Lib.hid (by rw [hgl.out]; unfold lastL; rw [if_neg (fun h => by rw [hcan'.out] at h; cases h.1)])
        refine (r10Put_no age 1 seq 0 lid adv 0 rs [] q none d 0 _ hL3 hlb hrb2 hcan').mono ?_
        rintro e w4 ⟨rfl, k4⟩
        have hR4 := Lib.hid (hR3.out.keep k4 (fun f => f)); have hk4 := Lib.hid (hk3.out.trans k4)
        clear k4 hR3 hk3 hB3 hr3 hL3 hN3 hcan'
        go_wp2_with ((with_reducible refine at_store 2 ?_); refine wpList_store_blk rfl 28 (.tmp 2) (.tmp 152) rfl w.heap.size #[.int .i64 0, .int .i64 0, .int .u32 0, .int .u32 0, .int .i64 0, .slice none 0 0, .int .u32 0, .slice none 0 0, .int .i64 0] rfl rfl (BlkAt.there hR4.out 0 9 (Nat.le_refl 9)) lsaInfoR (lsa_one _ _ _ _ _ _ _ _ _ (slice_one _ _ _) (slice_one _ _ _)) ?_; intro w9 hr9 hs9)
        have e0 := rangeAt_cell hr9.out 0 _ rfl
        have e1 := rangeAt_cell hr9.out 1 _ rfl
        have e2 := rangeAt_cell hr9.out 2 _ rfl
        have e3 := rangeAt_cell hr9.out 3 _ rfl
        have e4 := rangeAt_cell hr9.out 4 _ rfl
        have e5 := rangeAt_cell hr9.out 5 _ rfl
        have e6 := rangeAt_cell hr9.out 6 _ rfl
        have e7 := rangeAt_cell hr9.out 7 _ rfl
        have e8 := rangeAt_cell hr9.out 8 _ rfl
        refine bodyPost_ret (v := .tuple #[.agg #[.int .i64 0, .int .i64 0, .int .u32 0, .int .u32 0, .int .i64 0, .slice none 0 0, .int .u32 0, .slice none 0 0, .int .i64 0], .int .i64 3]) (by simp [results, Try.results24, go_sem, e0, e1, e2, e3, e4, e5, e6, e7, e8]) rfl ⟨⟨_, by rw [hg'.out], by rw [hg'.out]; exact LsaV.zero _⟩, hk4.out.trans' hs9.out (fun i e => .inr (by omega))⟩
      | true =>
        have hcan' := Lib.hid hcan; clear hcan
        by_cases hp : putB ⟨age, 1, lid, adv, seq, rs, 0, [], 0⟩ = x
        · skip
          refine (r10Put_yes age 1 seq 0 lid adv 0 rs [] q none d 0 _ hL3 hN3 hlok hrok hlid hladv hlm hcan').mono ?_
          rintro e w4 ⟨pY, cY, rfl, obY, k4⟩
          have hR4 := Lib.hid (hR3.out.keep k4 (fun f => f)); have hk4 := Lib.hid (hk3.out.trans k4); have hB4 := Lib.hid (hB3.out.keep k4 (fun f => f)); have hr4 := Lib.hid (k4.rangeAt hr3.out (fun f => f))
          have hg' : Hid (getL x = (⟨age, 1, lid, adv, seq, rs, 0, [], 0⟩, 0)) := Lib.hid (by rw [hgl.out]; unfold lastL; rw [if_pos ⟨hcan'.out, hp⟩])
          rw [hp] at obY ⊢
          have cv1 := conv_bytes obY.bytes (by omega)
          have cv2 := conv_str g o c x w4 hr4.out
          have hp' := Lib.hid hp
          have k4' := Lib.hid k4
          clear k4 hR3 hk3 hB3 hr3 hL3 hN3 hp obY
          go_wp2_with (first | ((with_reducible refine at_slot 153 ?_); refine wpList_load_mid rfl 28 (.tmp 5) rfl B 0 rfl [.int .i64 age, .int .i64 1, .int .u32 lid, .int .u32 adv, .int .i64 seq, .slice q rs.length d, .int .u32 0, .slice none 0 0, .int .i64 0] _ hB4.out.range Try.underlying28 rfl lsaInfoR ?_) | ((with_reducible refine at_store 2 ?_); refine wpList_store_blk rfl 28 (.tmp 2) (.tmp 153) rfl w.heap.size #[.int .i64 age, .int .i64 1, .int .u32 lid, .int .u32 adv, .int .i64 seq, .slice q rs.length d, .int .u32 0, .slice none 0 0, .int .i64 0] rfl rfl (BlkAt.there hR4.out 0 9 (Nat.le_refl 9)) lsaInfoR (lsa_one _ _ _ _ _ _ _ _ _ (slice_one _ _ _) (slice_one _ _ _)) ?_; intro w9 hr9 hs9))
          have e0 := rangeAt_cell hr9.out 0 _ rfl
          have e1 := rangeAt_cell hr9.out 1 _ rfl
          have e2 := rangeAt_cell hr9.out 2 _ rfl
          have e3 := rangeAt_cell hr9.out 3 _ rfl
          have e4 := rangeAt_cell hr9.out 4 _ rfl
          have e5 := rangeAt_cell hr9.out 5 _ rfl
          have e6 := rangeAt_cell hr9.out 6 _ rfl
          have e7 := rangeAt_cell hr9.out 7 _ rfl
          have e8 := rangeAt_cell hr9.out 8 _ rfl
          refine bodyPost_ret (v := .tuple #[.agg #[.int .i64 age, .int .i64 1, .int .u32 lid, .int .u32 adv, .int .i64 seq, .slice q rs.length d, .int .u32 0, .slice none 0 0, .int .i64 0], .int .i64 0]) (by simp [results, Try.results24, go_sem, e0, e1, e2, e3, e4, e5, e6, e7, e8]) rfl ⟨⟨_, by rw [hg'.out], by rw [hg'.out]; exact ⟨q, d, none, 0, rfl, ((hLk.out.keep k4'.out).keepF hs9.out (fun _ i e h => hqo.out i e h)), NumsAt.nil _⟩⟩, hk4.out.trans' hs9.out (fun i e => .inr (by omega))⟩
        · skip
          refine (r10Put_yes age 1 seq 0 lid adv 0 rs [] q none d 0 _ hL3 hN3 hlok hrok hlid hladv hlm hcan').mono ?_
          rintro e w4 ⟨pY, cY, rfl, obY, k4⟩
          have hR4 := Lib.hid (hR3.out.keep k4 (fun f => f)); have hk4 := Lib.hid (hk3.out.trans k4); have hB4 := Lib.hid (hB3.out.keep k4 (fun f => f)); have hr4 := Lib.hid (k4.rangeAt hr3.out (fun f => f))
          have hg' : Hid (getL x = (zeroL, 3)) := Lib.hid (by rw [hgl.out]; unfold lastL; rw [if_neg (fun h => hp h.2)])
          have h0P : 0 < (putB ⟨age, 1, lid, adv, seq, rs, 0, [], 0⟩).length := by rw [putB_len]; omega
          obtain ⟨PX, hPX⟩ : ∃ PX, putB ⟨age, 1, lid, adv, seq, rs, 0, [], 0⟩ = PX := ⟨_, rfl⟩
          rw [hPX] at hp obY h0P ⊢
          have cv1 := conv_bytes obY.bytes h0P
          have cv2 := conv_str g o c x w4 hr4.out
          obtain ⟨S1, hS1⟩ : ∃ S : ByteArray, S = ⟨PX.toArray⟩ := ⟨_, rfl⟩
          obtain ⟨S2, hS2⟩ : ∃ S : ByteArray, S = ⟨x.toArray⟩ := ⟨_, rfl⟩
          rw [← hS1] at cv1
          rw [← hS2] at cv2
          have hne : (S1.toList == S2.toList) = false := by
            rw [Lib.toList_data, Lib.toList_data, hS1, hS2, beq_eq_false_iff_ne]
            exact fun e => hp e
          have hp' := Lib.hid hp
          clear k4 hR3 hk3 hB3 hr3 hL3 hN3 hp obY hPX hS1 hS2 h0P hB4 hr4
          go_wp2_with ((with_reducible refine at_store 2 ?_); refine wpList_store_blk rfl 28 (.tmp 2) (.tmp 152) rfl w.heap.size #[.int .i64 0, .int .i64 0, .int .u32 0, .int .u32 0, .int .i64 0, .slice none 0 0, .int .u32 0, .slice none 0 0, .int .i64 0] rfl rfl (BlkAt.there hR4.out 0 9 (Nat.le_refl 9)) lsaInfoR (lsa_one _ _ _ _ _ _ _ _ _ (slice_one _ _ _) (slice_one _ _ _)) ?_; intro w9 hr9 hs9)
          have e0 := rangeAt_cell hr9.out 0 _ rfl
          have e1 := rangeAt_cell hr9.out 1 _ rfl
          have e2 := rangeAt_cell hr9.out 2 _ rfl
          have e3 := rangeAt_cell hr9.out 3 _ rfl
          have e4 := rangeAt_cell hr9.out 4 _ rfl
          have e5 := rangeAt_cell hr9.out 5 _ rfl
          have e6 := rangeAt_cell hr9.out 6 _ rfl
          have e7 := rangeAt_cell hr9.out 7 _ rfl
          have e8 := rangeAt_cell hr9.out 8 _ rfl
          refine bodyPost_ret (v := .tuple #[.agg #[.int .i64 0, .int .i64 0, .int .u32 0, .int .u32 0, .int .i64 0, .slice none 0 0, .int .u32 0, .slice none 0 0, .int .i64 0], .int .i64 3]) (by simp [results, Try.results24, go_sem, e0, e1, e2, e3, e4, e5, e6, e7, e8]) rfl ⟨⟨_, by rw [hg'.out], by rw [hg'.out]; exact LsaV.zero _⟩, hk4.out.trans' hs9.out (fun i e => .inr (by omega))⟩
end Go.Proofs.Ytiogeepffdpafaa
