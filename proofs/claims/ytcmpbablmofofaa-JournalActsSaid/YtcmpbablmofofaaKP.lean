/- The entry of an act. -/
import Derived.Test.YtcmpbablmofofaaKG
import Derived.Test.YtcmpbablmofofaaKN
set_option linter.unusedVariables false
set_option linter.unusedSimpArgs false
namespace Go.Proofs.Ytcmpbablmofofaa
open Go.RowKit

def entN (size : Int) : Nat := if size.tmod 41 = 40 then 8192 + (size.tmod 2).toNat else ((size % 18446744073709551616) % 260).toNat
def entB (size : Int) (b : UInt8) : List UInt8 := (List.range (entN size)).map (fun i => b + UInt8.ofNat (i * 3))
theorem tmod2 (size : Int) : -1 ≤ size.tmod 2 ∧ size.tmod 2 ≤ 1 := by
  rcases Int.le_total 0 size with h | h
  · have h1 := Int.tmod_eq_emod_of_nonneg (b := 2) h
    omega
  · have h3 := Int.neg_tmod (a := size) (b := 2)
    have h1 := Int.tmod_eq_emod_of_nonneg (a := -size) (b := 2) (by omega)
    omega
theorem tmod41 (size : Int) (h : size.tmod 41 = 40) : 0 ≤ size := by
  rcases Int.le_total 0 size with h2 | h2
  · exact h2
  · have h3 := Int.neg_tmod (a := size) (b := 41)
    have h1 := Int.tmod_eq_emod_of_nonneg (a := -size) (b := 41) (by omega)
    omega
theorem entN_le (size : Int) : entN size ≤ 8193 := by
  have := tmod2 size
  unfold entN; split <;> omega
theorem entB_len (size : Int) (b : UInt8) : (entB size b).length = entN size := by unfold entB; simp
set_option maxRecDepth 100000 in
set_option maxHeartbeats 4000000 in
theorem entry_any (a : JAct) (w : World) (hs : i64 a.size) :
    Calls Try.prog 34 #[.agg #[.int .i64 a.what, .int .i64 a.size, .int .u8 a.b.toNat, .int .i64 a.mask, a.kv]] w fun e w' => e = .returned (.string ⟨(entB a.size a.b).toArray⟩) ∧ Keeps (fun _ => False) w w' := by
  obtain ⟨what, size, b, mask, kept, kv⟩ := a
  obtain ⟨i0, hi0, hi1, hi2, hi3⟩ := info_parts u8InfoAll
  simp only at hs ⊢
  go_enter Try.func34, Try.ntmps34
  go_upto_region 1 with fail
  obtain ⟨w1, hw1⟩ : ∃ W, w.alloc (.cells #[.int .i64 what, .int .i64 size, .int .u8 b.toNat, .int .i64 mask, kv] 66) = W := ⟨_, rfl⟩
  rw [hw1]
  obtain ⟨bx, hbx⟩ : ∃ b, w.heap.size = b := ⟨_, rfl⟩
  rw [hbx]
  have hb0 : w1.heap[bx]? = some (.cells #[.int .i64 what, .int .i64 size, .int .u8 b.toNat, .int .i64 mask, kv] 66) := by rw [← hbx, ← hw1]; exact heap_alloc_last w _
  have c1 : w1.cell? ⟨bx, 1, none⟩ = some (.int .i64 size) := by simp [World.cell?, hb0]
  have hk1 : Hid (Keeps (fun _ => False) w w1) := Lib.hid (by rw [← hw1]; exact (Keeps.refl _ _).alloc _)
  have hc2 : Hid (w1.cell? ⟨bx, 2, none⟩ = some (.int .u8 b.toNat)) := Lib.hid (by simp [World.cell?, hb0])
  have hbl : Hid (bx < w1.heap.size) := Lib.hid (lt_of_block hb0)
  have hm := (umod size 260 (by decide) (by decide)).1
  obtain ⟨N0, hN0⟩ : ∃ N, ((size % 18446744073709551616) % 260).toNat = N := ⟨_, rfl⟩
  rw [hN0] at hm
  obtain ⟨N, hN⟩ : ∃ N, entN size = N := ⟨_, rfl⟩
  have hNl : N ≤ 8193 := by rw [← hN]; exact entN_le size
  have hN' := Lib.hid hN
  clear hw1 hbx hb0
  go_upto_if 14 with fail
  go_cut [3] (fun v wx => v = .int .i64 N ∧ w1 = wx)
  case first =>
    by_cases h41 : size.tmod 41 = 40
    · have e1 : (size.tmod 41 == 40) = true := by rw [h41]; rfl
      have e2 : wrap64 (8192 + size.tmod 2) = (N : Int) := by
        have h2 := Int.tmod_eq_emod_of_nonneg (b := 2) (tmod41 size h41)
        rw [← hN'.out]
        unfold entN wrap64
        rw [if_pos h41]
        omega
      clear h41
      go_wp2_with fail
      go_meet
      case rel => exact ⟨by first | rfl | rw [e2], by first | rfl | trivial⟩
    · have e1 : (size.tmod 41 == 40) = false := by simpa using h41
      have e2 : N0 = N := by rw [← hN'.out]; unfold entN; rw [if_neg h41]; exact hN0.symm
      rw [e2] at hm
      clear h41
      go_wp2_with fail
      go_meet
      case rel => exact ⟨by first | rfl | rw [hm], by first | rfl | trivial⟩
  case rest =>
    obtain ⟨rfl, rfl⟩ := hcut
    have hb2 := Lib.hid tmod41
    clear hm hN0 c1
    go_wp2_with ((with_reducible refine at_slot 20 ?_); go_must (refine wpList_make_z rfl (.tmp 19) (.tmp 19) 27 rfl i0 Try.underlying27 hi0 hi1 hi2 hi3 N _ rfl rfl rfl (by omega) ?_); intro hOn)
    have hk2 : Hid (Keeps (fun _ => False) w1 (w1.alloc (.cells ((noughts N).map bv).toArray 5))) := Lib.hid ((Keeps.refl _ _).alloc _)
    have hB2 : Hid (BufAt (w1.alloc (.cells ((noughts N).map bv).toArray 5)) w1.heap.size (noughts N)) := Lib.hid (heap_alloc_last w1 _)
    obtain ⟨w2, hw2⟩ : ∃ W, w1.alloc (.cells ((noughts N).map bv).toArray 5) = W := ⟨_, rfl⟩
    obtain ⟨g, hg⟩ : ∃ g, w1.heap.size = g := ⟨_, rfl⟩
    rw [hw2] at hk2 hB2 ⊢
    rw [hg] at hB2 ⊢
    have hg' := Lib.hid hg
    clear hw2 hOn hg hb2
    go_loopw [5] (fun iv wr => ∃ (k : Nat), k ≤ N ∧ iv = .int .i64 k ∧ Hid (BufAt wr g ((entB size b).take k ++ noughts (N - k))) ∧ Hid (Keeps (fun _ => False) w1 wr)) (fun iv _ => N - (intOf iv).toNat)
    case atStart => exact ⟨0, by omega, rfl, Lib.hid (by rw [List.take_zero, List.nil_append, Nat.sub_zero]; exact hB2.out), hk2⟩
    case round =>
      obtain ⟨k, hk, rfl, hB, hK⟩ := hrel
      clear hB2 hk2
      by_cases hlt : k < N
      · have l1 : (k : Int) < (N : Int) := by omega
        have l0 : (0 : Int) ≤ (k : Int) := by omega
        have hel : (entB size b).length = N := by rw [entB_len]; exact hN'.out
        have c2 : wr.cell? ⟨bx, 2, none⟩ = some (.int .u8 b.toNat) := (hK.out.cell (p := ⟨bx, 2, none⟩) hbl.out id).trans hc2.out
        have hlen : ((entB size b).take k ++ noughts (N - k)).length = N := by rw [List.length_append, List.length_take, noughts_len, hel]; omega
        have hcc := hB.out.cell k (by rw [hlen]; exact hlt)
        have hff := hB.out.frozen k
        obtain ⟨y, hy⟩ : ∃ y, ((entB size b).take k ++ noughts (N - k))[k]'(by rw [hlen]; exact hlt) = y := ⟨_, rfl⟩
        rw [hy] at hcc
        have hel' := Lib.hid hel
        clear hy hlen hel
        go_wp2_with fail
        have hset := hB.out.set k (b + UInt8.ofNat (k * 3))
        have e1 : bv (b + UInt8.ofNat (k * 3)) = Value.int .u8 (((b.toNat : Int) + (k : Int) * 3) % 256) := by
          unfold bv
          congr 1
          rw [UInt8.toNat_add, UInt8.toNat_ofNat']
          omega
        have e2 : ((entB size b).take k ++ noughts (N - k)).set k (b + UInt8.ofNat (k * 3)) = (entB size b).take (k + 1) ++ noughts (N - (k + 1)) := by
          have hel := hel'.out
          have h1 : ((entB size b).take k).length = k := by rw [List.length_take, hel]; omega
          have h2 : (entB size b)[k]? = some (b + UInt8.ofNat (k * 3)) := by
            unfold entB
            rw [List.getElem?_map, List.getElem?_range (by rw [hN'.out]; exact hlt)]; rfl
          rw [List.set_append_right _ _ (by omega), h1, Nat.sub_self, show N - k = (N - (k + 1)) + 1 by omega]
          obtain ⟨h3, h4⟩ := List.getElem?_eq_some_iff.1 h2
          rw [List.take_succ_eq_append_getElem h3, h4, List.append_assoc]
          unfold noughts
          rw [List.replicate_succ]; rfl
        rw [e1, e2] at hset
        have hk3 := hK.out.setCell (p := ⟨g, k, none⟩) (.inr (by rw [hg'.out]; exact Nat.le_refl _)) (.int .u8 (((b.toNat : Int) + (k : Int) * 3) % 256))
        exact ⟨⟨k + 1, by omega, by go_num, Lib.hid hset, Lib.hid hk3⟩, by simp [intOf]; omega⟩
      · obtain rfl : k = N := by omega
        have hel : (entB size b).length = k := by rw [entB_len]; exact hN'.out
        have hB' : BufAt wr g (entB size b) := by
          have h := hB.out
          rw [Nat.sub_self] at h
          have e : (entB size b).take k ++ noughts 0 = entB size b := by rw [← hel, List.take_length]; exact List.append_nil _
          rw [e] at h; exact h
        have hcv := conv_str g 0 k (entB size b) wr hB'.range
        rw [hel] at hcv
        obtain ⟨X, hX⟩ : ∃ X : ByteArray, ⟨(entB size b).toArray⟩ = X := ⟨_, rfl⟩
        rw [hX] at hcv
        have hX' := Lib.hid hX
        clear hX hel hB' hB
        go_wp2_with fail
        go_ret
        exact ⟨by rw [hX'.out]; rfl, hk1.out.trans hK.out⟩
end Go.Proofs.Ytcmpbablmofofaa
