/- A frame. -/
import Derived.Test.YtcmpbablmofofaaJD
namespace Go.Proofs.Ytcmpbablmofofaa
open Go.RowKit

def lead1 : List UInt8 := patch (noughts 13) 0 [70]
def lead2 (gen : Nat) : List UInt8 := patch lead1 1 (be 8 gen)
def leadB (gen place : Nat) : List UInt8 := patch (lead2 gen) 9 (be 4 place)
theorem lead1_len : lead1.length = 13 := by unfold lead1; rw [patch_len]; exact noughts_len 13; rw [noughts_len]; simp
theorem lead2_len (gen : Nat) : (lead2 gen).length = 13 := by unfold lead2; rw [patch_len]; exact lead1_len; rw [lead1_len, be_len]; omega
theorem leadB_len (gen place : Nat) : (leadB gen place).length = 13 := by unfold leadB; rw [patch_len]; exact lead2_len gen; rw [lead2_len, be_len]; omega
set_option maxRecDepth 100000 in
theorem lead_any (gen place : Nat) (hg : gen < 18446744073709551616) (hp : place < 4294967296) (w : World) : Calls Try.prog 77 #[.int .u64 gen, .int .i64 place] w (NewBuf (leadB gen place) w) := by
  obtain ⟨i0, hi0, hz0, hz1, hz2⟩ := info_parts u8InfoAll
  have hz2' := Lib.hid hz2; clear hz2
  have l1 := Lib.hid lead1_len
  have l2 := Lib.hid (lead2_len gen)
  go_enter Try.func77, Try.ntmps77
  go_wp2_with (first | (at_make; refine wpList_make_full _ rfl (.const (.int .i64 13)) (.const (.int .i64 13)) 27 rfl 0 5 i0 (.int .u8 0) 1 Try.underlying27 hi0 hz0 hz1 .i64 .i64 13 13 13 rfl rfl rfl rfl ?c1 ?c2 ?c3 ?_; rotate_right; intro w1 ho1 hg1; have hB1 := Lib.hid (made_noughts ho1); clear ho1; have hK1 := Lib.hid (Keeps.grown (Keeps.refl (fun _ => False) _) hg1 (fun k e => by cases e)); clear hg1; have hc := hB1.out.cell 0 (by rw [noughts_len]; decide); have hf := hB1.out.frozen 0; have hL1 := Lib.hid (Laid.one hB1.out 0 70 (by rw [noughts_len]; decide)); generalize (noughts 13)[0]'(by rw [noughts_len]; decide) = y at hc) | (go_at_call 70; refine (lay64_any w.heap.size 1 12 lead1 gen hg _ (by rw [l1.out]; omega) (Lib.hid hL1.out.1)).mono ?_; rintro e w3 ⟨rfl, hL3⟩; have hL3' := Lib.hid hL3; clear hL3) | (go_at_call 71; refine (lay32_any w.heap.size 9 4 (lead2 gen) place hp _ (by rw [l2.out]; omega) (Lib.hid hL3'.out.1)).mono ?_; rintro e w4 ⟨rfl, hL4⟩; have hL4' := Lib.hid hL4; clear hL4))
  case c1 => rw [hz2'.out]; decide
  case c2 => unfold maxLen; omega
  case c3 => exact Nat.zero_le _
  go_ret
  have hn : (leadB gen place).length = 13 := leadB_len gen place
  exact ⟨w.heap.size, by rw [hn]; rfl, Nat.le_refl _, hL4'.out.1, ((hK1.out.laid hL1.out (Nat.le_refl _)).laid hL3'.out (Nat.le_refl _)).laid hL4'.out (Nat.le_refl _)⟩

def frame1 (gen place n : Nat) : List UInt8 := patch (noughts (takes n * 64)) 0 (leadB gen place)
def frame2 (gen place n : Nat) : List UInt8 := patch (frame1 gen place n) 13 (be 2 n)
def frame3 (gen place : Nat) (e : List UInt8) : List UInt8 := patch (frame2 gen place e.length) 19 e
def frameB (gen place : Nat) (e : List UInt8) : List UInt8 := patch (frame3 gen place e) 15 (be 4 (crc ((frame3 gen place e).take 15 ++ e)))
theorem takes_ge (n : Nat) : n + 19 ≤ takes n * 64 := by unfold takes; omega
theorem frame1_len (gen place n : Nat) : (frame1 gen place n).length = takes n * 64 := by
  have := takes_ge n
  unfold frame1; rw [patch_len]; exact noughts_len _; rw [noughts_len, leadB_len]; omega
theorem frame2_len (gen place n : Nat) : (frame2 gen place n).length = takes n * 64 := by
  have := takes_ge n
  unfold frame2; rw [patch_len]; exact frame1_len ..; rw [frame1_len, be_len]; omega
theorem frame3_len (gen place : Nat) (e : List UInt8) : (frame3 gen place e).length = takes e.length * 64 := by
  have := takes_ge e.length
  unfold frame3; rw [patch_len]; exact frame2_len ..; rw [frame2_len]; omega
theorem frameB_len (gen place : Nat) (e : List UInt8) : (frameB gen place e).length = takes e.length * 64 := by
  have := takes_ge e.length
  unfold frameB; rw [patch_len]; exact frame3_len ..; rw [frame3_len, be_len]; omega

set_option maxRecDepth 100000 in
set_option maxHeartbeats 2000000 in
theorem frame_any (gen place : Nat) (hg : gen < 18446744073709551616) (hp : place < 4294967296) (ev : Value) (e : List UInt8) (h1 : 1 ≤ e.length) (h2 : e.length ≤ 8192) (w : World) (he : BytesAt w ev e) :
    Calls Try.prog 73 #[.int .u64 gen, .int .i64 place, ev] w (NewBuf (frameB gen place e) w) := by
  obtain ⟨i0, hi0, hz0, hz1, hz2⟩ := info_parts u8InfoAll
  have hz2' := Lib.hid hz2; clear hz2
  obtain ⟨p, c, rfl, hp0, hpc, hpe⟩ := he
  obtain ⟨eb, eo, rfl, hr⟩ := hpe h1
  have he' := Lib.hid (show BytesAt w (.slice (some ⟨eb, eo, none⟩) e.length c) e from ⟨_, c, rfl, hp0, hpc, hpe⟩)
  have hr' := Lib.hid hr
  clear hpe hr
  have hT := takes_ge e.length
  have hT2 : takes e.length ≤ 129 := by unfold takes; omega
  obtain ⟨T, hTe⟩ : ∃ T, T = takes e.length := ⟨_, rfl⟩
  rw [← hTe] at hT hT2
  have l1 := frame1_len gen place e.length
  have l2 := frame2_len gen place e.length
  have l3 := frame3_len gen place e
  rw [← hTe] at l1 l2 l3
  have l1' := Lib.hid l1; clear l1
  have l2' := Lib.hid l2; clear l2
  have l3' := Lib.hid l3; clear l3
  have hTe' := Lib.hid hTe; clear hTe
  go_enter Try.func73, Try.ntmps73
  go_wp2_with (first | (go_at_call 42; refine (takes_any e.length (by omega) _).mono ?_; rintro e w' ⟨rfl, rfl⟩; rw [← hTe'.out]) | (at_make; refine wpList_make_full _ rfl _ _ 27 rfl 0 5 i0 (.int .u8 0) 1 Try.underlying27 hi0 hz0 hz1 .i64 .i64 ((T : Int) * 64) ((T : Int) * 64) (T * 64) rfl rfl (by omega) (by omega) ?c1 ?c2 ?c3 ?_; rotate_right; intro w1 ho1 hg1; have hB1 := Lib.hid (made_noughts ho1); clear ho1; have hK1 := Lib.hid (Keeps.grown (Keeps.refl (fun _ => False) _) hg1 (fun k e => by cases e)); clear hg1) | (go_at_call 77; refine (lead_any gen place hg hp _).mono ?_; rintro e w2 ⟨lb, rfl, hlb, hB2, hK2⟩; have hS2 := Lib.hid hB2.range; have hB2' := Lib.hid (hB1.out.keep hK2 id); have hK2' := Lib.hid (hK1.out.trans hK2); clear hK2 hB2) | ((with_reducible refine at_slot 17 ?_); refine wpList_copy_buf rfl (.tmp 13) (.tmp 16) 27 27 rfl 5 Try.underlying27 u8Info w.heap.size 0 (T * 64) (T * 64) lb 0 _ _ rfl rfl (noughts (T * 64)) (leadB gen place) rfl (by rw [leadB_len]; omega) hB2'.out (by rw [noughts_len, leadB_len]; omega) hS2.out ?_; intro w3 hL3; have hB3 := Lib.hid (show BufAt w3 w.heap.size (frame1 gen place e.length) by unfold frame1; rw [← hTe'.out]; exact hL3.out.1); have hK3 := Lib.hid (hK2'.out.laid hL3.out (Nat.le_refl _))) | (go_at_call 79; refine (lay16_any w.heap.size 13 _ (frame1 gen place e.length) e.length (by omega) _ (by rw [l1'.out]; omega) (Lib.hid hB3.out)).mono ?_; rintro e w4 ⟨rfl, hL4⟩; have hB4 := Lib.hid hL4.1; have hK4 := Lib.hid (hK3.out.laid hL4 (Nat.le_refl _)); clear hL4) | ((with_reducible refine at_slot 27 ?_); refine wpList_copy_buf rfl (.tmp 25) (.tmp 26) 27 27 rfl 5 Try.underlying27 u8Info w.heap.size 19 (T * 64 - 19) _ eb eo _ _ rfl rfl (frame2 gen place e.length) e rfl (by omega) hB4.out (by rw [l2'.out]; omega) (hK4.out.rangeAt hr'.out id) ?_; intro w5 hL5; have hB5 : Hid (BufAt w5 w.heap.size (frame3 gen place e)) := Lib.hid hL5.out.1; have hK5 := Lib.hid (hK4.out.laid hL5.out (Nat.le_refl _))))
  case c1 => rw [hz2'.out]; omega
  case c2 => unfold maxLen; omega
  case c3 => exact Nat.zero_le _
  have hcr1 : crcGrow ones ((frame3 gen place e).take 15) < 4294967296 := crcGrow_lt _ (by unfold ones; omega)
  have hcr : crc ((frame3 gen place e).take 15 ++ e) < 4294967296 := xor_lt32 (by unfold ones; omega) (crcGrow_lt _ (by unfold ones; omega))
  have hxr : bits .xor .u32 (4294967295 : Int) ((crcGrow (crcGrow ones ((frame3 gen place e).take 15)) e : Nat) : Int) = ((crc ((frame3 gen place e).take 15 ++ e) : Nat) : Int) := by
    unfold crc; rw [crcGrow_append]
    exact u32_xor_nat ones _ (by unfold ones; omega) (crcGrow_lt _ hcr1)
  have hcr' := Lib.hid hcr; clear hcr
  have hcr1' := Lib.hid hcr1; clear hcr1
  have hsg : IntKind.u32.signed = false := rfl
  have hmx : IntKind.u32.max = 4294967295 := rfl
  have hbt := hB5.out.bytes 0 15 (T * 64) (by simp [l3'.out]; omega) (by omega)
  have hbt' := Lib.hid hbt; clear hbt
  have he2 := Lib.hid (he'.out.keep hK5.out)
  have hs19 : (19 : Int) ≤ (T : Int) * 64 := by omega
  have hs15 : (15 : Int) ≤ (T : Int) * 64 := by omega
  have hne : ¬ T * 64 = 15 := by omega
  refine wp_region_noPanic ?_
  refine wp_region_held_drew (S := (fun _ => True)) (by kernel_rfl) (trivial) (fun hHeld => ?_)
  refine tk 0 rfl ?_
  refine tk 1 rfl ?_
  refine tk 2 rfl ?_
  refine tk 3 rfl ?_
  refine tk 5 rfl ?_
  refine stepL 4 rfl (by kernel_rfl) (fun K hK => ?_)
  go_simp
  (refine (growB ones (by unfold ones; omega) _ ((frame3 gen place e).take 15) (by simp; omega) w5.drew hbt'.out).mono ?_; rintro e w' ⟨rfl, rfl⟩)
  go_wp2_with fail
  refine hK.out _ _ (trivial) (fun hHeld => ?_)
  clear hK K
  try simp only [Act.put, sA, sZ, sS]
  refine stepL 6 rfl (by kernel_rfl) (fun K hK => ?_)
  go_simp
  (refine (growB _ hcr1'.out _ e (by omega) w5.drew he2.out).mono ?_; rintro e w' ⟨rfl, rfl⟩)
  go_wp2_with fail
  refine hK.out _ _ (trivial) (fun hHeld => ?_)
  clear hK K
  try simp only [Act.put, sA, sZ, sS]
  refine tk 7 rfl ?_
  refine stepL 8 rfl (by kernel_rfl) (fun K hK => ?_)
  go_simp
  (refine (lay32_any w.heap.size 15 (T * 64 - 15) (frame3 gen place e) _ hcr'.out w5.drew (by rw [l3'.out]; omega) (Lib.hid hB5.out)).mono ?_; rintro e w6 ⟨rfl, hL6⟩; have hL6' := Lib.hid hL6; clear hL6)
  go_wp2_with fail
  refine hK.out _ _ (trivial) (fun hHeld => ?_)
  clear hK K
  try simp only [Act.put, sA, sZ, sS]
  refine wpAnyH_done (by kernel_rfl) (NoPanic.normal ?_) _
  go_wp2_with fail
  go_ret
  have hn := frameB_len gen place e
  exact ⟨w.heap.size, by rw [hn, ← hTe'.out]; rfl, Nat.le_refl _, hL6'.out.1, hK5.out.drew.laid hL6'.out (Nat.le_refl _)⟩
end Go.Proofs.Ytcmpbablmofofaa
