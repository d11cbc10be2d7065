/- The document's Put of a right configuration (gen_chg.py). -/
import Derived.Test.YtdjmhjgfjbcdkaaU13
import Derived.Test.YtdjmhjgfjbcdkaaU10
import Derived.Test.YtdjmhjgfjbcdkaaU06
import Derived.Test.YtdjmhjgfjbcdkaaU11
import Derived.Test.YtdjmhjgfjbcdkaaU14
import Derived.Test.YtdjmhjgfjbcdkaaU09
import Derived.Test.YtdjmhjgfjbcdkaaU08
import Derived.Deep.DeepCutAuto
import Derived.Laws.BitsAllLaws
set_option linter.unusedVariables false
set_option linter.unusedSimpArgs false
set_option linter.unusedVariables false
set_option linter.unusedSimpArgs false
namespace Go.Proofs.Ytdjmhjgfjbcdkaa
open Go.RowKit

def PutPost (x : List UInt8) (w : World) (e : Ending) (w' : World) : Prop :=
  ∃ p c, e = .returned (.slice p x.length c) ∧ OwnB w w' (.slice p x.length c) x ∧ Keeps (fun _ => False) w w'
theorem putAll_take {ls : List LineD} {k : Nat} {q : LineD} (hq : ls[k]? = some q) : putAll (ls.take (k + 1)) = putAll (ls.take k) ++ putLine q := by
  rw [List.take_add_one, hq]; exact putAll_snoc _ _
theorem head_byte {h : Int} (h0 : 0 ≤ h ∧ h ≤ 255) : Value.int .u8 h = bv (UInt8.ofNat h.toNat) := by
  have e : (((UInt8.ofNat h.toNat).toNat : Nat) : Int) = h := by simp; omega
  unfold bv; rw [e]
theorem len_byte {n : Nat} (h0 : n ≤ 255) : Value.int .u8 (n : Int) = bv (UInt8.ofNat n) := by
  have e : (UInt8.ofNat n).toNat = n := by simp; omega
  unfold bv; rw [e]
theorem u8_in {n : Int} (h : 0 ≤ n ∧ n ≤ 255) : IntKind.u8.wrap n = n := IntWalk.u8_in _ (by omega)

set_option maxRecDepth 100000 in
set_option maxHeartbeats 16000000 in
theorem rPut_c (v : Value) (ls : List LineD) (w : World) (hv : Hid (RowsAt 4 lineVals w v ls)) (hr : Hid (rightC ls = true)) :
    Calls Try.prog 29 #[v] w (PutPost (putAll ls) w) := by
  have hlen := right_len hr.out
  have hsm := Lib.hid (right_small hr.out)
  have hpl := Lib.hid (fun k => putAll_len (ls := ls.take k) (fun q hq => line_small (right_line hr.out q (List.mem_of_mem_take hq))))
  have hsm2 := Lib.hid (fun q hq => line_small (right_line hr.out q hq))
  obtain ⟨i0, hi0, hz0, hz1, hz2⟩ := info_parts u8InfoAll
  obtain ⟨p, c, rfl⟩ := hv.out.slice
  go_enter Try.func29, Try.ntmps29
  go_wp2_with fail
  go_loopw [4, 3] (fun iv ov wr => ∃ (k : Nat) (x : List UInt8) (pq : Option Addr) (d : Nat), k ≤ ls.length ∧ iv = .int .i64 k ∧ ov = .slice pq x.length d ∧ Hid (putAll (ls.take k) = x) ∧ Hid (OwnB w wr (.slice pq x.length d) x) ∧ Hid (Keeps (fun _ => False) w wr)) (fun iv _ _ => ls.length - (intOf iv).toNat)
  case atStart => exact ⟨0, [], none, 0, by omega, rfl, rfl, Lib.hid rfl, Lib.hid (OwnB.nil _ _ (Nat.le_refl _)), Lib.hid (Keeps.refl _ _)⟩
  case round =>
    obtain ⟨k, x, pq, d, hk, rfl, rfl, hx, hO, hKr⟩ := hrel
    have hxl : x.length ≤ 20000 := by
      have h1 := hpl.out k
      rw [hx.out, List.length_take] at h1
      omega
    by_cases hlk : k < ls.length
    · obtain ⟨g, o, rfl, hrows⟩ := hv.out.open (by omega)
      obtain ⟨q, hq⟩ : ∃ q, ls[k]? = some q := ⟨_, List.getElem?_eq_getElem hlk⟩
      obtain ⟨z1, z2, z3⟩ := hsm2.out q (List.mem_of_getElem? hq)
      obtain ⟨z0, -⟩ := hsm.out q (List.mem_of_getElem? hq)
      obtain ⟨N, hN⟩ : ∃ N : ByteArray, N = ⟨q.name.toArray⟩ := ⟨_, rfl⟩
      obtain ⟨F, hF⟩ : ∃ N : ByteArray, N = ⟨q.leaf.toArray⟩ := ⟨_, rfl⟩
      obtain ⟨V, hV⟩ : ∃ N : ByteArray, N = ⟨q.value.toArray⟩ := ⟨_, rfl⟩
      have sN : N.size ≤ 100 := by rw [hN]; exact z1
      have sF : F.size ≤ 100 := by rw [hF]; exact z2
      have sV : V.size ≤ 100 := by rw [hV]; exact z3
      have hrw : Hid (wr.rangeAt g (o + k * 4) [.int .i64 q.head, .string N, .string F, .string V]) := Lib.hid (by rw [hN, hF, hV]; exact hKr.out.rangeAt (hrows k q hq) id)
      have hline : Hid (putLine q = [UInt8.ofNat q.head.toNat, UInt8.ofNat N.size] ++ N.data.toList ++ [UInt8.ofNat F.size] ++ F.data.toList ++ [UInt8.ofNat V.size] ++ V.data.toList) := Lib.hid (by
        unfold putLine txtB
        rw [show N.data.toList = q.name by rw [hN], show F.data.toList = q.leaf by rw [hF], show V.data.toList = q.value by rw [hV], show N.size = q.name.length by rw [hN]; rfl, show F.size = q.leaf.length by rw [hF]; rfl, show V.size = q.value.length by rw [hV]; rfl]
        simp)
      have hnext := Lib.hid (putAll_take hq)
      rw [hx.out, hline.out] at hnext
      have w0 : IntKind.u8.wrap q.head = q.head := u8_in z0
      have w1 : IntKind.u8.wrap (N.size : Int) = (N.size : Int) := u8_in (by omega)
      have w2 : IntKind.u8.wrap (F.size : Int) = (F.size : Int) := u8_in (by omega)
      have w3 : IntKind.u8.wrap (V.size : Int) = (V.size : Int) := u8_in (by omega)
      have b0 := Lib.hid (head_byte z0)
      have b1 := Lib.hid (len_byte (n := N.size) (by omega))
      have b2 := Lib.hid (len_byte (n := F.size) (by omega))
      have b3 := Lib.hid (len_byte (n := V.size) (by omega))
      have hS0 : Hid (BoxK w wr.heap.size 28 [.int .i64 q.head, .string N, .string F, .string V] (wr.alloc (.cells #[.int .i64 q.head, .string N, .string F, .string V] 28))) := Lib.hid ⟨BlkAt.new _ _ _, hKr.out.alloc _⟩
      have hO0 := Lib.hid (hO.out.keep ((Keeps.refl (fun _ => False) wr).alloc (.cells #[.int .i64 q.head, .string N, .string F, .string V] 28)) (fun _ _ f => f))
      have m1 : (0 : Int) ≤ (k : Int) := by omega
      have m2 : (k : Int) < (ls.length : Int) := by omega
      clear hrows hN hF hV hq z0 z1 z2 z3 hx hline hO
      go_upto_region 6 with (first | ((with_reducible refine at_slot 15 ?_); refine wpList_load_mid rfl 28 (.tmp 14) rfl g (o + k * 4) rfl [.int .i64 q.head, .string N, .string F, .string V] _ hrw.out Try.underlying28 rfl line5InfoG ?_) | ((with_reducible refine at_store 5 ?_); refine wpList_store_new rfl 28 (.tmp 5) (.tmp 15) rfl _ #[.int .i64 q.head, .string N, .string F, .string V] rfl rfl line5InfoG rfl (line_one _ _ _ _) ?_))
      generalize hgx : wr.heap.size = gx at hS0 ⊢
      generalize hWx : wr.alloc (.cells #[.int .i64 q.head, .string N, .string F, .string V] 28) = Wx at hS0 hO0 ⊢
      clear hgx hWx hrw hKr
      skip
      refine wp_region_noPanic ?_
      refine wp_region_held_drew (S := (fun W => BoxK w gx 28 [.int .i64 q.head, .string N, .string F, .string V] W)) (by kernel_rfl) ((hS0.out.next ((Keeps.refl _ _).drew))) (fun hHeld => ?_)
      refine tk 0 rfl ?_
      refine tk 1 rfl ?_
      refine tkL 2 rfl (yieldsIf_load_cell (by rfl) 3 (.tmp 17) rfl gx 0 rfl _ (fun _ s => s.1.cell 0 _ rfl) (fun w s => load_int w _ _ _ s)) ?_
      refine tk 3 rfl ?_
      refine tk 4 rfl ?_
      refine tkL 5 rfl (yieldsIf_load_cell (by rfl) 9 (.tmp 20) rfl gx 1 rfl _ (fun _ s => s.1.cell 1 _ rfl) (fun w s => load_str w _ _ _ s)) ?_
      refine tk 6 rfl ?_
      refine tk 7 rfl ?_
      refine tk 10 rfl ?_
      refine tkL 11 rfl (yieldsIf_load_cell (by rfl) 9 (.tmp 26) rfl gx 1 rfl _ (fun _ s => s.1.cell 1 _ rfl) (fun w s => load_str w _ _ _ s)) ?_
      have hOa := Lib.hid (hO0.out.keep ((Keeps.refl (fun _ => False) Wx).drew) (fun _ _ f => f))
      obtain ⟨Wa1, hWa⟩ : ∃ W0, W0 = Wx.drew := ⟨_, rfl⟩
      rw [← hWa] at hOa hHeld ⊢
      clear hWa hO0 hS0
      refine stepL 8 rfl (by kernel_rfl) (fun K hK => ?_)
      go_simp
      refine hK.out _ _ ((hHeld.next ((Keeps.refl _ _).alloc _))) (fun hHeld => ?_)
      clear hK K
      try simp only [Act.put, sA, sZ, sS]
      have hBy := Lib.hid (one_bytes Wa1 [UInt8.ofNat q.head.toNat, UInt8.ofNat N.size] (n := 2) rfl (by omega))
      have hOb := Lib.hid (hOa.out.keep ((Keeps.refl (fun _ => False) Wa1).alloc (.cells (List.map bv [UInt8.ofNat q.head.toNat, UInt8.ofNat N.size]).toArray 5)) (fun _ _ f => f))
      simp only [List.map_cons, List.map_nil, ← b0.out, ← b1.out] at hBy hOb
      clear hOa
      refine stepL 9 rfl (by kernel_rfl) (fun K hK => ?_)
      rw [if_pos (by rfl)]
      (refine wp_append_bx (.tmp 16) (.tmp 24) 50 rfl i0 Try.underlying50 hi0 hz0 hz1 hz2 w _ x rfl hOb.out _ rfl [UInt8.ofNat q.head.toNat, UInt8.ofNat N.size] hBy.out (by simp; omega) ?_; intro p1 c1 W1 hOc hGc)
      refine hK.out _ _ ((hHeld.app (by decide) hOb.out hGc.k)) (fun hHeld => ?_)
      clear hK K
      try simp only [Act.put, sA, sZ, sS]
      clear hOb hBy
      refine stepL 12 rfl (by kernel_rfl) (fun K hK => ?_)
      rw [if_pos (by rfl)]
      (refine wp_append_str (.tmp 25) (.tmp 27) 50 9 rfl i0 Try.underlying50 Try.underlying9 hi0 hz0 hz1 hz2 w _ (x ++ [UInt8.ofNat q.head.toNat, UInt8.ofNat N.size]) rfl hOc N rfl (by simp; omega) ?_; intro q1 d1 V1 hOd hGd)
      refine hK.out _ _ ((hHeld.app (by decide) hOc hGd)) (fun hHeld => ?_)
      clear hK K
      try simp only [Act.put, sA, sZ, sS]
      refine tk 13 rfl ?_
      refine wpAnyH_done (by kernel_rfl) (NoPanic.normal ?_) _
      have hO1 := Lib.hid hOd
      have hS1 := Lib.hid hHeld
      clear hOc hGc hOd hGd hHeld
      obtain ⟨x1, hx1⟩ : ∃ y, y = x ++ [UInt8.ofNat q.head.toNat, UInt8.ofNat N.size] ++ N.data.toList := ⟨_, rfl⟩
      have hl1 : (x ++ [UInt8.ofNat q.head.toNat, UInt8.ofNat N.size]).length + N.size = x1.length := by rw [hx1]; simp; omega
      have hg1 : x.length + 2 + N.size = x1.length := by rw [hx1]; simp; omega
      have hxl1 : x1.length ≤ 20200 := by rw [hx1]; simp; omega
      rw [← hx1, hl1] at hO1
      first | rw [hg1] | rw [hl1]
      have hx1' := Lib.hid hx1
      clear hx1 hl1 hg1
      generalize V1 = U1 at hO1 hS1 ⊢
      go_upto_region 7 with fail
      refine wp_region_noPanic ?_
      refine wp_region_held_drew (S := (fun W => BoxK w gx 28 [.int .i64 q.head, .string N, .string F, .string V] W)) (by kernel_rfl) ((hS1.out.next ((Keeps.refl _ _).drew))) (fun hHeld => ?_)
      refine tk 0 rfl ?_
      refine tk 1 rfl ?_
      refine tkL 2 rfl (yieldsIf_load_cell (by rfl) 9 (.tmp 30) rfl gx 2 rfl _ (fun _ s => s.1.cell 2 _ rfl) (fun w s => load_str w _ _ _ s)) ?_
      refine tk 3 rfl ?_
      refine tk 4 rfl ?_
      refine tk 7 rfl ?_
      refine tkL 8 rfl (yieldsIf_load_cell (by rfl) 9 (.tmp 36) rfl gx 2 rfl _ (fun _ s => s.1.cell 2 _ rfl) (fun w s => load_str w _ _ _ s)) ?_
      have hOa := Lib.hid (hO1.out.keep ((Keeps.refl (fun _ => False) U1).drew) (fun _ _ f => f))
      obtain ⟨Wa2, hWa⟩ : ∃ W0, W0 = U1.drew := ⟨_, rfl⟩
      rw [← hWa] at hOa hHeld ⊢
      clear hWa hO1 hS1
      refine stepL 5 rfl (by kernel_rfl) (fun K hK => ?_)
      go_simp
      refine hK.out _ _ ((hHeld.next ((Keeps.refl _ _).alloc _))) (fun hHeld => ?_)
      clear hK K
      try simp only [Act.put, sA, sZ, sS]
      have hBy := Lib.hid (one_bytes Wa2 [UInt8.ofNat F.size] (n := 1) rfl (by omega))
      have hOb := Lib.hid (hOa.out.keep ((Keeps.refl (fun _ => False) Wa2).alloc (.cells (List.map bv [UInt8.ofNat F.size]).toArray 5)) (fun _ _ f => f))
      simp only [List.map_cons, List.map_nil, ← b2.out] at hBy hOb
      clear hOa
      refine stepL 6 rfl (by kernel_rfl) (fun K hK => ?_)
      rw [if_pos (by rfl)]
      (refine wp_append_bx (.tmp 29) (.tmp 34) 50 rfl i0 Try.underlying50 hi0 hz0 hz1 hz2 w _ x1 rfl hOb.out _ rfl [UInt8.ofNat F.size] hBy.out (by simp; omega) ?_; intro p2 c2 W2 hOc hGc)
      refine hK.out _ _ ((hHeld.app (by decide) hOb.out hGc.k)) (fun hHeld => ?_)
      clear hK K
      try simp only [Act.put, sA, sZ, sS]
      clear hOb hBy
      refine stepL 9 rfl (by kernel_rfl) (fun K hK => ?_)
      rw [if_pos (by rfl)]
      (refine wp_append_str (.tmp 35) (.tmp 37) 50 9 rfl i0 Try.underlying50 Try.underlying9 hi0 hz0 hz1 hz2 w _ (x1 ++ [UInt8.ofNat F.size]) rfl hOc F rfl (by simp; omega) ?_; intro q2 d2 V2 hOd hGd)
      refine hK.out _ _ ((hHeld.app (by decide) hOc hGd)) (fun hHeld => ?_)
      clear hK K
      try simp only [Act.put, sA, sZ, sS]
      refine tk 10 rfl ?_
      refine wpAnyH_done (by kernel_rfl) (NoPanic.normal ?_) _
      have hO2 := Lib.hid hOd
      have hS2 := Lib.hid hHeld
      clear hOc hGc hOd hGd hHeld
      obtain ⟨x2, hx2⟩ : ∃ y, y = x1 ++ [UInt8.ofNat F.size] ++ F.data.toList := ⟨_, rfl⟩
      have hl2 : (x1 ++ [UInt8.ofNat F.size]).length + F.size = x2.length := by rw [hx2]; simp; omega
      have hg2 : x1.length + 1 + F.size = x2.length := by rw [hx2]; simp; omega
      have hxl2 : x2.length ≤ 20400 := by rw [hx2]; simp; omega
      rw [← hx2, hl2] at hO2
      first | rw [hg2] | rw [hl2]
      have hx2' := Lib.hid hx2
      clear hx2 hl2 hg2
      generalize V2 = U2 at hO2 hS2 ⊢
      go_upto_region 8 with fail
      refine wp_region_noPanic ?_
      refine wp_region_held_drew (S := (fun W => BoxK w gx 28 [.int .i64 q.head, .string N, .string F, .string V] W)) (by kernel_rfl) ((hS2.out.next ((Keeps.refl _ _).drew))) (fun hHeld => ?_)
      refine tk 0 rfl ?_
      refine tk 1 rfl ?_
      refine tkL 2 rfl (yieldsIf_load_cell (by rfl) 9 (.tmp 40) rfl gx 3 rfl _ (fun _ s => s.1.cell 3 _ rfl) (fun w s => load_str w _ _ _ s)) ?_
      refine tk 3 rfl ?_
      refine tk 4 rfl ?_
      refine tk 7 rfl ?_
      refine tkL 8 rfl (yieldsIf_load_cell (by rfl) 9 (.tmp 46) rfl gx 3 rfl _ (fun _ s => s.1.cell 3 _ rfl) (fun w s => load_str w _ _ _ s)) ?_
      have hOa := Lib.hid (hO2.out.keep ((Keeps.refl (fun _ => False) U2).drew) (fun _ _ f => f))
      obtain ⟨Wa3, hWa⟩ : ∃ W0, W0 = U2.drew := ⟨_, rfl⟩
      rw [← hWa] at hOa hHeld ⊢
      clear hWa hO2 hS2
      refine stepL 5 rfl (by kernel_rfl) (fun K hK => ?_)
      go_simp
      refine hK.out _ _ ((hHeld.next ((Keeps.refl _ _).alloc _))) (fun hHeld => ?_)
      clear hK K
      try simp only [Act.put, sA, sZ, sS]
      have hBy := Lib.hid (one_bytes Wa3 [UInt8.ofNat V.size] (n := 1) rfl (by omega))
      have hOb := Lib.hid (hOa.out.keep ((Keeps.refl (fun _ => False) Wa3).alloc (.cells (List.map bv [UInt8.ofNat V.size]).toArray 5)) (fun _ _ f => f))
      simp only [List.map_cons, List.map_nil, ← b3.out] at hBy hOb
      clear hOa
      refine stepL 6 rfl (by kernel_rfl) (fun K hK => ?_)
      rw [if_pos (by rfl)]
      (refine wp_append_bx (.tmp 39) (.tmp 44) 50 rfl i0 Try.underlying50 hi0 hz0 hz1 hz2 w _ x2 rfl hOb.out _ rfl [UInt8.ofNat V.size] hBy.out (by simp; omega) ?_; intro p3 c3 W3 hOc hGc)
      refine hK.out _ _ ((hHeld.app (by decide) hOb.out hGc.k)) (fun hHeld => ?_)
      clear hK K
      try simp only [Act.put, sA, sZ, sS]
      clear hOb hBy
      refine stepL 9 rfl (by kernel_rfl) (fun K hK => ?_)
      rw [if_pos (by rfl)]
      (refine wp_append_str (.tmp 45) (.tmp 47) 50 9 rfl i0 Try.underlying50 Try.underlying9 hi0 hz0 hz1 hz2 w _ (x2 ++ [UInt8.ofNat V.size]) rfl hOc V rfl (by simp; omega) ?_; intro q3 d3 V3 hOd hGd)
      refine hK.out _ _ ((hHeld.app (by decide) hOc hGd)) (fun hHeld => ?_)
      clear hK K
      try simp only [Act.put, sA, sZ, sS]
      refine tk 10 rfl ?_
      refine wpAnyH_done (by kernel_rfl) (NoPanic.normal ?_) _
      have hO3 := Lib.hid hOd
      have hS3 := Lib.hid hHeld
      clear hOc hGc hOd hGd hHeld
      obtain ⟨x3, hx3⟩ : ∃ y, y = x2 ++ [UInt8.ofNat V.size] ++ V.data.toList := ⟨_, rfl⟩
      have hl3 : (x2 ++ [UInt8.ofNat V.size]).length + V.size = x3.length := by rw [hx3]; simp; omega
      have hg3 : x2.length + 1 + V.size = x3.length := by rw [hx3]; simp; omega
      have hxl3 : x3.length ≤ 20600 := by rw [hx3]; simp; omega
      rw [← hx3, hl3] at hO3
      first | rw [hg3] | rw [hl3]
      have hx3' := Lib.hid hx3
      clear hx3 hl3 hg3
      generalize V3 = U3 at hO3 hS3 ⊢
      have hfin : Hid (putAll (ls.take (k + 1)) = x3) := Lib.hid (by rw [hnext.out, hx3'.out, hx2'.out, hx1'.out]; simp)
      clear hx1' hx2' hx3' hnext
      go_wp2_with fail
      exact ⟨⟨k + 1, x3, _, _, by omega, by go_num, rfl, hfin, hO3, Lib.hid hS3.out.2⟩, by simp [intOf]; omega⟩
    · obtain rfl : k = ls.length := by omega
      have hx2 : x = putAll ls := by rw [← hx.out, List.take_length]
      have hx3 := Lib.hid hx2
      clear hx hx2
      go_wp2_with fail
      go_ret
      rw [← hx3.out]
      exact ⟨_, _, rfl, hO.out, hKr.out⟩
end Go.Proofs.Ytdjmhjgfjbcdkaa
/- The law's digits, walked (out of ZRN). -/
namespace Go.Proofs.Ytdjmhjgfjbcdkaa
open Go.RowKit

/-- what stands behind some rounds of Digits -/
def DigRel (N m : Nat) (S : ByteArray) : Prop := (S.data.toList = [] ∧ m = N) ∨ (S.data.toList ≠ [] ∧ ((m = 0 ∧ S.data.toList = digs N) ∨ (0 < m ∧ digs N = digs m ++ S.data.toList)))
theorem DigRel.next {N m : Nat} {S : ByteArray} (h : DigRel N m S) (hgo : 0 < m ∨ S.data.toList = []) : DigRel N (m / 10) (⟨#[UInt8.ofNat (48 + m % 10)]⟩ ++ S) := by
  have e : ((⟨#[UInt8.ofNat (48 + m % 10)]⟩ : ByteArray) ++ S).data.toList = UInt8.ofNat (48 + m % 10) :: S.data.toList := by simp
  right
  rw [e]
  refine ⟨by simp, ?_⟩
  rcases h with ⟨h1, rfl⟩ | ⟨h1, h2⟩
  · rw [h1]
    by_cases hm : m < 10
    · left; exact ⟨by omega, by rw [digs_lt hm, Nat.mod_eq_of_lt hm]⟩
    · right; exact ⟨by omega, digs_ge hm⟩
  · rcases h2 with ⟨h2, _⟩ | ⟨h2, h3⟩
    · rcases hgo with h | h
      · omega
      · exact (h1 h).elim
    · by_cases hm : m < 10
      · left; refine ⟨by omega, ?_⟩
        rw [h3, digs_lt hm, Nat.mod_eq_of_lt hm]; rfl
      · right; refine ⟨by omega, ?_⟩
        rw [h3, digs_ge hm]; simp

theorem DigRel.size {N m : Nat} {S : ByteArray} (h : DigRel N m S) (hN : N ≤ 9223372036854775807) : S.size ≤ 19 := by
  have hl := digs_len 19 N (by omega) (by omega)
  have hs : S.data.toList.length = S.size := by simp
  rcases h with ⟨h1, _⟩ | ⟨_, ⟨_, h2⟩ | ⟨_, h2⟩⟩
  · rw [h1] at hs; simp at hs; omega
  · rw [h2] at hs; omega
  · rw [h2, List.length_append] at hl; omega
set_option maxRecDepth 100000 in
set_option maxHeartbeats 1000000 in
theorem l5digits_D (N : Nat) (D : ByteArray) (w : World) (hN : N ≤ 9223372036854775807) (hD : Hid (D = ⟨(digs N).toArray⟩)) :
    Calls Try.prog 34 #[.int .i64 N] w (NewRes (.string D) w) := by
  go_enter Try.func34, Try.ntmps34
  go_wp2
  go_loopw [0, 3] (fun nv sv wr => ∃ (m : Nat) (S : ByteArray), m ≤ N ∧ nv = .int .i64 m ∧ sv = .string S ∧ Hid (DigRel N m S) ∧ Hid (Keeps (fun _ => False) w wr)) (fun nv sv _ => (intOf nv).toNat + match sv with | .string S => if S.data.toList = [] then 1 else 0 | _ => 0)
  case atStart => exact ⟨N, _, by omega, rfl, rfl, Lib.hid (.inl ⟨rfl, rfl⟩), Lib.hid (Keeps.refl _ _)⟩
  case round =>
    obtain ⟨m, S, hm, rfl, rfl, hrel, hk⟩ := hrel
    have hSs : S.size ≤ 19 := hrel.out.size hN
    by_cases hgo : 0 < m ∨ S.data.toList = []
    · have hnext := Lib.hid (hrel.out.next hgo)
      have hmod : m % 10 < 10 := Nat.mod_lt _ (by omega)
      have hcv := conv_one wr (48 + (m : Int) % 10) (UInt8.ofNat (48 + m % 10)) (by rw [dig_toNat hmod]; omega)
      have hdec : (m / 10) + 0 < m + (if S.data.toList = [] then 1 else 0) := by
        rcases hgo with h | h
        · omega
        · rw [if_pos h]; omega
      have hne : ((⟨#[UInt8.ofNat (48 + m % 10)]⟩ : ByteArray) ++ S).data.toList ≠ [] := by simp
      have hdec' := Lib.hid hdec; have hne' := Lib.hid hne; clear hdec hne
      obtain ⟨C, hC⟩ : ∃ C : ByteArray, C = ⟨#[UInt8.ofNat (48 + m % 10)]⟩ := ⟨_, rfl⟩
      rw [← hC] at hcv hnext hne'
      have hCs : C.size ≤ 1 := by rw [hC]; exact Nat.le_refl _
      have hC' := Lib.hid hC; clear hC
      by_cases h0 : 0 < m
      · clear hgo
        go_wp2
        refine ⟨⟨m / 10, C ++ S, by omega, by first | rfl | go_num, rfl, hnext, Lib.hid (hk.out.alloc _)⟩, ?_⟩
        have h1 := hdec'.out
        simp only [intOf]
        rw [if_neg hne'.out]
        omega
      · obtain rfl : m = 0 := by omega
        have hSe : S.toList = [] := by rcases hgo with h | h; omega; rw [Lib.toList_data]; exact h
        have hS1 : S.toList.isEmpty = true := by rw [hSe]; rfl
        have hS0 : S.size = 0 := by
          have : S.data.toList.length = 0 := by rw [← Lib.toList_data, hSe]; rfl
          simpa using this
        have hS0' : S.size ≤ 0 := by omega
        have hcv0 : (convert 50 9 (.slice (some ⟨wr.heap.size, 0, none⟩) 1 1)).run Try.prog (wr.alloc (.cells #[.int .u8 48] 5)) = .ok (.string C) (wr.alloc (.cells #[.int .u8 48] 5)) := by simpa using hcv
        have hSe' := Lib.hid hSe; clear hSe hgo hcv hS0
        go_wp2
        have hsz : (C ++ S).size ≤ 100 + (N - 0 / 10) := by rw [ByteArray.size_append]; omega
        refine ⟨⟨0 / 10, C ++ S, by omega, by first | rfl | go_num, rfl, hnext, Lib.hid (hk.out.alloc _)⟩, ?_⟩
        have h1 := hdec'.out
        simp only [intOf]
        rw [if_neg hne'.out]
        omega
    · have hm0 : m = 0 := by omega
      subst hm0
      have hSne : S.toList ≠ [] := fun h => hgo (.inr (by rw [← Lib.toList_data]; exact h))
      have hS1 : S.toList.isEmpty = false := by cases hl : S.toList with | nil => exact (hSne hl).elim | cons => rfl
      have hend : Hid (S = D) := Lib.hid (by
        rw [hD.out]
        have : S.data.toList = digs N := by
          rcases hrel.out with ⟨h, _⟩ | ⟨_, ⟨_, h⟩ | ⟨h, _⟩⟩
          · exact (hgo (.inr h)).elim
          · exact h
          · omega
        rw [← this])
      clear hgo hSne hrel
      go_wp2
      go_ret
      exact ⟨by rw [← hend.out]; rfl, hk.out⟩
end Go.Proofs.Ytdjmhjgfjbcdkaa
/- writes, walked. -/
set_option linter.unusedVariables false
set_option linter.unusedSimpArgs false
namespace Go.Proofs.Ytdjmhjgfjbcdkaa
open Go.RowKit

def oneL : LineD := ⟨1, [48, 46, 48, 46, 48, 46, 48], [116, 121, 112, 101], [115, 116, 117, 98]⟩
set_option maxRecDepth 100000
theorem one_line : lineB oneL = true := by decide +kernel
theorem one_right : rightC [oneL] = true := by decide +kernel
theorem nil_right : rightC [] = true := by decide +kernel
theorem one_set : setC oneL [] = [oneL] := rfl
theorem one_there : thereB ⟨1, [48, 46, 48, 46, 48, 46, 48], [99, 111, 115, 116], []⟩ [oneL] = false := by decide +kernel
theorem one_default : ((findD 1 [99, 111, 115, 116]).map (·.df)) = some [49] := by decide +kernel
theorem one_T1 : (⟨#[97, 114, 101, 97, 32, 48, 46, 48, 46, 48, 46, 48, 32, 123, 10]⟩ : ByteArray) = ⟨#[97, 114, 101, 97]⟩ ++ ⟨#[32]⟩ ++ ⟨#[48, 46, 48, 46, 48, 46, 48]⟩ ++ ⟨#[32, 123, 10]⟩ := by decide +kernel
theorem one_T2 : (⟨#[116, 121, 112, 101, 32, 115, 116, 117, 98, 59, 10]⟩ : ByteArray) = ⟨#[116, 121, 112, 101]⟩ ++ ⟨#[32]⟩ ++ ⟨#[115, 116, 117, 98]⟩ ++ ⟨#[59, 10]⟩ := by decide +kernel
theorem one_T3 : (⟨#[32, 32, 116, 121, 112, 101, 32, 115, 116, 117, 98, 59, 10]⟩ : ByteArray) = ⟨#[32, 32]⟩ ++ ⟨#[116, 121, 112, 101, 32, 115, 116, 117, 98, 59, 10]⟩ := by decide +kernel
set_option maxHeartbeats 4000000 in
theorem writes_any (w : World) : Calls Try.prog 20 #[] w (NewRes (.bool true) w) := by
  go_enter Try.func20, Try.ntmps20
  go_wp2_with fail
  have hs : Calls Try.prog 12 #[.slice none 0 0, .agg #[.int .i64 1, .string ⟨#[48, 46, 48, 46, 48, 46, 48]⟩, .string ⟨#[116, 121, 112, 101]⟩, .string ⟨#[115, 116, 117, 98]⟩]] w (SetPost [oneL] w) := set_ok _ [] 1 ⟨#[48, 46, 48, 46, 48, 46, 48]⟩ ⟨#[116, 121, 112, 101]⟩ ⟨#[115, 116, 117, 98]⟩ false _ (Lib.hid (RowsAt.nil _)) (Lib.hid (fun l hl => by cases hl)) (by decide) (by decide) (Lib.hid nil_right) (Lib.hid one_line) (Lib.hid rfl) (by simp) (fun _ => by simp)
  refine hs.mono ?_
  rintro e w2 ⟨p, c, rfl, hO, k2⟩
  have hR : RowsAt 4 lineVals w2 (.slice p 1 c) [oneL] := hO.at lineVals_len
  obtain ⟨g, o, rfl, hrows⟩ := hR.open (by simp)
  have hrow : Hid (w2.rangeAt g o [.int .i64 1, .string ⟨#[48, 46, 48, 46, 48, 46, 48]⟩, .string ⟨#[116, 121, 112, 101]⟩, .string ⟨#[115, 116, 117, 98]⟩]) := Lib.hid (by
    have := hrows 0 oneL rfl
    rw [Nat.zero_mul, Nat.add_zero] at this
    exact this)
  have hR' := Lib.hid hR; have k2' := Lib.hid k2
  clear hO hR hrows k2
  have hlt : Hid (LinesLt [oneL] 9223372036854775807) := Lib.hid (fun l hl => by
    simp at hl; subst hl; decide)
  clear hs
  have ht : Calls Try.prog 21 #[.slice (some ⟨g, o, none⟩) 1 c] w2 (NewRes (.string ⟨#[97, 114, 101, 97, 32, 48, 46, 48, 46, 48, 46, 48, 32, 123, 10, 32, 32, 116, 121, 112, 101, 32, 115, 116, 117, 98, 59, 10, 125, 10]⟩) w2) :=
    text_one g o c _ _ _ _ _ _ _ w2 hrow (Lib.hid one_right) (by decide) (by decide) (by decide) (Lib.hid one_T1) (Lib.hid one_T2) (Lib.hid one_T3) (by decide) (by decide) (by decide) (Lib.hid rfl)
  have ht' := Lib.hid ht
  clear ht
  go_wp2_with fail
  refine ht'.out.mono ?_
  rintro e w3 ⟨rfl, k3⟩
  have hR3 := Lib.hid (hR'.out.keep k3)
  have k3' := Lib.hid (k2'.out.trans k3)
  clear k3 ht' hrow hR' k2'
  go_wp2_with fail
  refine (right_c _ [oneL] true _ (Lib.hid hR3.out.lines) (by decide) hlt (Lib.hid one_right)).mono ?_
  rintro e w4 ⟨rfl, k4⟩
  have hR4 := Lib.hid (hR3.out.keep k4)
  have k4' := Lib.hid (k3'.out.trans k4)
  clear k4 hR3 k3'
  obtain ⟨r, hr, hdf⟩ := Option.map_eq_some_iff.1 one_default
  have hr' := Lib.hid hr
  have hdf' : Hid ((⟨#[49]⟩ : ByteArray) = ⟨r.df.toArray⟩) := Lib.hid (by rw [hdf])
  clear hr hdf
  go_wp2_with fail
  refine (value_default _ [oneL] r 1 ⟨#[48, 46, 48, 46, 48, 46, 48]⟩ ⟨#[99, 111, 115, 116]⟩ ⟨#[49]⟩ _ hR4 (by decide) hlt (Lib.hid one_right) (Lib.hid one_there) hr' hdf').mono ?_
  rintro e w5 ⟨rfl, k5⟩
  have k5' := Lib.hid (k4'.out.trans k5)
  clear k5
  go_wp2_with fail
  go_ret
  exact ⟨rfl, k5'.out⟩
end Go.Proofs.Ytdjmhjgfjbcdkaa
/- ConfGets, walked. -/
set_option linter.unusedVariables false
set_option linter.unusedSimpArgs false
namespace Go.Proofs.Ytdjmhjgfjbcdkaa
open Go.RowKit

theorem u64_wrap (n : Int) : IntKind.u64.wrap n = n % 18446744073709551616 := by
  unfold IntKind.wrap
  have h1 : IntKind.u64.signed = false := rfl
  have h2 : (2 : Int) ^ IntKind.u64.bits = 18446744073709551616 := rfl
  simp [h1, h2]
theorem u8_wrap (n : Int) : IntKind.u8.wrap n = n % 256 := by
  unfold IntKind.wrap
  have h1 : IntKind.u8.signed = false := rfl
  have h2 : (2 : Int) ^ IntKind.u8.bits = 256 := rfl
  simp [h1, h2]
theorem u64_nata (n : Int) : ∃ U : Nat, IntKind.u64.wrap n = (U : Int) := ⟨(n % 18446744073709551616).toNat, by rw [u64_wrap]; omega⟩
theorem u8_nat (n : Int) : ∃ U : Nat, IntKind.u8.wrap n = (U : Int) ∧ U < 256 := ⟨(n % 256).toNat, by rw [u8_wrap]; omega, by omega⟩
theorem u8_xor (a : UInt8) (m : Nat) (hm : m < 256) : ∃ X : UInt8, bits .xor .u8 (a.toNat : Int) (m : Int) = (X.toNat : Int) := by
  refine ⟨UInt8.ofNat (a.toNat ^^^ m), ?_⟩
  have h1 := u8_xor_nat a.toNat m a.toNat_lt hm
  have h2 : a.toNat ^^^ m < 2 ^ 8 := Nat.xor_lt_two_pow a.toNat_lt hm
  rw [h1, UInt8.toNat_ofNat']
  rw [Nat.mod_eq_of_lt h2]
theorem BytesAt.head {w : World} {p : Option Addr} {n c : Nat} {x : List UInt8} (h : BytesAt w (.slice p n c) x) (k : Nat) (hk : k ≤ x.length) : BytesAt w (.slice p k c) (x.take k) := by
  obtain ⟨p', c', e, hp, hc, hr⟩ := h
  injection e with e1 e2 e3
  subst e1; subst e3
  refine ⟨p, c, by rw [List.length_take, Nat.min_eq_left hk], hp, by rw [List.length_take]; omega, fun h0 => ?_⟩
  rw [List.length_take] at h0
  obtain ⟨b, o, rfl, hra⟩ := hr (by omega)
  have := range_part hra 0 k
  exact ⟨b, o, rfl, by simpa using this⟩
theorem BytesAt.cap {w : World} {p : Option Addr} {n c : Nat} {x : List UInt8} (h : BytesAt w (.slice p n c) x) : x.length ≤ c := by
  obtain ⟨p', c', e, hp, hc, hr⟩ := h
  injection e with e1 e2 e3
  subst e3; exact hc
/-- a row of the call's own may be written -/
theorem OwnB.writes {w0 w : World} {q : Option Addr} {n c : Nat} {xs : List UInt8} (h : OwnB w0 w (.slice q n c) xs) (h0 : 0 < xs.length) :
    ∃ g, q = some ⟨g, 0, none⟩ ∧ w0.heap.size ≤ g ∧ (∀ k, (hk : k < xs.length) → w.cell? ⟨g, k, none⟩ = some (.int .u8 (xs[k]).toNat) ∧ w.frozen? ⟨g, k, none⟩ = false) ∧
      ∀ (k : Nat) (b : UInt8), OwnB w0 (w.setCell ⟨g, k, none⟩ (.int .u8 b.toNat)) (.slice q n c) (xs.set k b) := by
  obtain ⟨⟨h1, h2⟩, h3, h4⟩ := h
  rcases h2 with ⟨e, _⟩ | ⟨g, cap, cur, e, _, hg, hn, hm, hs, ht⟩
  · injection e with e1 e2 e3; omega
  · injection e with e1 e2 e3
    subst e1; subst e3
    have hl : xs.length * 1 = (xs.map bv).length := by simp
    refine ⟨g, rfl, h3 g rfl, fun k hk => ⟨?_, ?_⟩, fun k b => ⟨⟨by simp, .inr ⟨g, c, cur.setIfInBounds k (.int .u8 b.toNat), by simpa using e2, Nat.zero_le _, heap_put hg k _, by simpa using hn, hm, by simpa using hs, ?_⟩⟩, h3, by simp only [World.setCell, Array.size_modify]; exact h4⟩⟩
    · have hk2 : k < cur.size := by rw [hs]; omega
      have : cur.toList[k]? = some (.int .u8 (xs[k]).toNat) := by
        have e4 : (cur.toList.take (xs.length * 1))[k]? = (xs.map bv)[k]? := by rw [ht]
        rw [List.getElem?_take, if_pos (by omega)] at e4
        rw [e4]; simp [hk, bv]
      simp only [World.cell?, hg]
      simpa using this
    · simp [World.frozen?, hg]
    · simp only [List.length_set, Array.toList_setIfInBounds, List.map_set]
      rw [List.take_set, ht]; rfl
def lawEndG (w : World) (e : Ending) (w' : World) : Prop := e = .returned (.bool true) ∧ Keeps (fun _ => False) w w'
theorem ans_small {x : List UInt8} {z : List LineD × Nat} (h : ansC x = z) : z.1.length ≤ 64 ∧ z.2 ≤ 4 := by
  subst h
  refine ⟨?_, ?_⟩
  · exact right_len ans_right
  · unfold ansC
    split
    · simp
    · split <;> simp

set_option maxRecDepth 100000 in
set_option maxHeartbeats 16000000 in
theorem confGets_law (v : Value) (ls : List LineD) (d0 d1 : Int) (w : World) (hv : Hid (RowsAt 4 lineVals w v ls)) (hl : ls.length ≤ 1000000000000) (hlt : Hid (LinesLt ls 8796093022000))
    (hd0 : -9223372036854775808 ≤ d0) (hd0' : d0 ≤ 9223372036854775807) (hd1 : -9223372036854775808 ≤ d1) (hd1' : d1 ≤ 9223372036854775807) :
    Calls Try.prog 5 #[v, .agg #[.int .i64 d0, .int .i64 d1]] w (lawEndG w) := by
  obtain ⟨W0, hW0⟩ : ∃ W0, W0 = w.alloc (.cells #[.int .i64 d0, .int .i64 d1] 61) := ⟨_, rfl⟩
  have hE : Hid (BlkAt W0 w.heap.size 61 [.int .i64 d0, .int .i64 d1]) := Lib.hid (by rw [hW0]; exact BlkAt.new _ _ _)
  have hK : Hid (Keeps (fun _ => False) w W0) := Lib.hid (by rw [hW0]; exact (Keeps.refl _ _).alloc _)
  have hv0 := Lib.hid (hv.out.keep hK.out)
  have hlow : Hid (w.heap.size ≤ w.heap.size) := Lib.hid (Nat.le_refl _)
  have hW0' := Lib.hid hW0
  clear hW0 hv
  go_enter Try.func5, Try.ntmps5
  go_upto_region 1 with fail
  rw [← hW0'.out]
  generalize hEB : w.heap.size = EB at hE hlow ⊢
  have hEB' := Lib.hid hEB
  clear hW0' hEB
  go_wp2_with fail
  refine (build_any _ ls _ hv0 hl hlt).mono ?_
  rintro e w1 ⟨p1, c1, rfl, hO1, k1⟩
  have hR1 := Lib.hid (hO1.at lineVals_len)
  have hr1 := Lib.hid (build_right ls)
  have hK1 := Lib.hid (hK.out.trans k1)
  have hE1 := Lib.hid (hE.out.keep k1 id)
  clear hv0 hlt hO1 k1 hE hK
  go_wp2_with fail
  refine (rPut_c _ (buildC ls) _ hR1 hr1).mono ?_
  rintro e w2 ⟨p2, c2, rfl, hO2, k2⟩
  have hxl : (putAll (buildC ls)).length ≤ 20000 := by
    have h1 := putAll_len (ls := buildC ls) (fun q hq => line_small (right_line hr1.out q hq))
    have h2 := right_len hr1.out
    omega
  generalize putAll (buildC ls) = x at hO2 hxl ⊢
  have hO := Lib.hid (hO2.older hK1.out.size)
  have hk := Lib.hid (hK1.out.trans k2)
  have hE2 := Lib.hid (hE1.out.keep k2 id)
  clear hO2 k2 hR1 hr1 hK1 hE1
  go_upto_if 16 with fail
  go_cut [5] (fun bv' wx => (∃ q d y, bv' = .slice q y.length d ∧ y.length ≤ 20000 ∧ Hid (BytesAt wx (.slice q y.length d) y)) ∧ Hid (Keeps (fun _ => False) w wx))
  case first =>
    by_cases h0 : 0 < x.length
    · obtain ⟨U, hU⟩ := u64_nata d0
      obtain ⟨kk, hkk, hkl⟩ : ∃ kk : Nat, (U : Int) % (x.length : Int) = kk ∧ kk < x.length := ⟨U % x.length, by omega, Nat.mod_lt _ h0⟩
      have cE0 := hE2.out.cell 0 (.int .i64 d0) rfl
      have cE1 := hE2.out.cell 1 (.int .i64 d1) rfl
      have hnz : ¬ (x.length : Int) = 0 := by omega
      have hcap : x.length ≤ c2 := hO.out.bytes.cap
      have hkd : (kk : Int) ≤ c2 := by omega
      have hkli : (kk : Int) < x.length := by omega
      go_upto_if 28 with fail
      cases htz : (d1.tmod 4 == 3) with
      | true =>
        have hbb : Hid (BytesAt w2 (.slice p2 (x.take kk).length c2) (x.take kk)) := Lib.hid (by have := hO.out.bytes.head kk (by omega); rw [List.length_take, Nat.min_eq_left (by omega)]; exact this)
        have htl : Hid ((x.take kk).length = kk) := Lib.hid (by rw [List.length_take]; omega)
        go_wp2_with fail
        go_meet
        case rel => exact ⟨⟨p2, c2, x.take kk, by rw [htl.out], by rw [htl.out]; omega, hbb⟩, hk⟩
      | false =>
        obtain ⟨g, rfl, hg0, hcell, hset⟩ := hO.out.writes h0
        have hc1 := (hcell kk hkl).1
        have hf1 := (hcell kk hkl).2
        obtain ⟨M, hM, lM⟩ := u8_nat d1
        obtain ⟨X, hX⟩ := u8_xor (x[kk]'hkl) M lM
        go_upto_region 6 with fail
        go_still_tail 9, (by kernel_rfl)
        change wpList _ _ _ _ _ w2.drew
        have hst := hset kk X
        have hkd2 : Keeps (fun _ => False) w ((w2.setCell ⟨g, kk, none⟩ (.int .u8 X.toNat)).drew) := (hk.out.setCell (p := ⟨g, kk, none⟩) (.inr hg0) _).drew
        have hbb : Hid (BytesAt ((w2.setCell ⟨g, kk, none⟩ (.int .u8 X.toNat)).drew) (.slice (some ⟨g, 0, none⟩) (x.set kk X).length c2) (x.set kk X)) := Lib.hid (by rw [List.length_set]; exact hst.bytes.keep ((Keeps.refl (fun _ => False) _).drew))
        have hkd2' := Lib.hid hkd2
        clear hst hkd2 hset hcell
        go_wp2_with fail
        go_meet
        case rel => exact ⟨⟨_, c2, x.set kk X, by rw [List.length_set], by rw [List.length_set]; omega, hbb⟩, hkd2'⟩
    · have h0' : x.length = 0 := by omega
      have hbb := Lib.hid hO.out.bytes
      go_wp2_with fail
      go_meet
      case rel => exact ⟨⟨p2, c2, x, rfl, hxl, hbb⟩, hk⟩
  case rest =>
    obtain ⟨⟨q, d, y, rfl, hyl, hyB⟩, hkc⟩ := hcut
    clear hE2 hO hk
    obtain ⟨⟨R, ee⟩, hans⟩ : ∃ z, ansC y = z := ⟨_, rfl⟩
    have hsml := ans_small hans
    have hans' := Lib.hid hans
    clear hans
    go_wp2_with fail
    refine (get_any _ y _ hyB (by omega)).mono ?_
    rintro e w3 hp3
    rw [hans'.out] at hp3
    obtain ⟨p3, c3, rfl, hR3, k3⟩ := hp3
    simp only at hR3 hsml ⊢
    have hR3' := Lib.hid hR3
    have hyB3 := Lib.hid (hyB.out.keep k3)
    have hk3 := Lib.hid (hkc.out.trans k3)
    clear k3 hR3 hyB hkc
    go_wp2_with fail
    refine (rGet_any _ y _ hyB3 (by omega)).mono ?_
    rintro e w4 hp4
    rw [hans'.out] at hp4
    obtain ⟨p4, c4, rfl, hR4, k4⟩ := hp4
    simp only at hR4 ⊢
    have hR4' := Lib.hid hR4
    have hR34 := Lib.hid (hR3'.out.keep k4)
    have hk4 := Lib.hid (hk3.out.trans k4)
    clear k4 hR4 hyB3 hk3 hR3' hans'
    go_wp2_with fail
    refine (writes_any _).mono ?_
    rintro e w5 ⟨rfl, k5⟩
    have hR35 := Lib.hid (hR34.out.keep k5)
    have hR45 := Lib.hid (hR4'.out.keep k5)
    have hk5 := Lib.hid (hk4.out.trans k5)
    clear k5 hR34 hR4' hk4
    go_wp2_with fail
    refine (from_any _ R _ hR35 (by omega)).mono ?_
    rintro e w6 ⟨p6, c6, rfl, hO6, k6⟩
    have hR6 := Lib.hid (hO6.at lineVals_len)
    have hR46 := Lib.hid (hR45.out.keep k6)
    have hk6 := Lib.hid (hk5.out.trans k6)
    clear k6 hO6 hR35 hR45 hk5
    go_wp2_with fail
    refine (rSame_c _ _ R R true _ hR6 hR46 (by omega) (by omega) (Lib.hid ⟨fun _ => rfl, fun _ => rfl⟩)).mono ?_
    rintro e w7 ⟨rfl, k7⟩
    have hk7 := Lib.hid (hk6.out.trans k7)
    clear k7 hk6 hR6 hR46
    go_wp2_with fail
    go_ret
    exact ⟨rfl, hk7.out⟩
end Go.Proofs.Ytdjmhjgfjbcdkaa
/- conf.Put, walked. -/
set_option linter.unusedVariables false
set_option linter.unusedSimpArgs false
namespace Go.Proofs.Ytdjmhjgfjbcdkaa
open Go.RowKit

def PutRes (x : List UInt8) (z : Nat) (w : World) (e : Ending) (w' : World) : Prop :=
  ∃ p c, e = .returned (.tuple #[.slice p x.length c, .int .i64 z]) ∧ OwnB w w' (.slice p x.length c) x ∧ Keeps (fun _ => False) w w'
def putR (ls : List LineD) : List UInt8 × Nat := if rightC ls = true then (putAll ls, 0) else ([], 1)
def flatT (L : List ByteArray) : List UInt8 := L.flatMap (fun S => UInt8.ofNat S.size :: S.data.toList)
theorem flatT_take {L : List ByteArray} {j : Nat} {S : ByteArray} (h : L[j]? = some S) : flatT (L.take (j + 1)) = flatT (L.take j) ++ [UInt8.ofNat S.size] ++ S.data.toList := by
  rw [List.take_add_one, h]; unfold flatT; simp

set_option maxRecDepth 100000 in
set_option maxHeartbeats 4000000 in
theorem put_no (v : Value) (ls : List LineD) (w : World) (hv : Hid (RowsAt 4 lineVals w v ls)) (hl : ls.length ≤ 9223372036854775807) (hlt : Hid (LinesLt ls 9223372036854775807)) (hr : Hid (rightC ls = false)) :
    Calls Try.prog 24 #[v] w (PutRes [] 1 w) := by
  have hLn := Lib.hid hv.out.lines
  clear hv
  go_enter Try.func24, Try.ntmps24
  go_wp2_with fail
  refine (right_c _ ls false _ hLn hl hlt hr).mono ?_
  rintro e w2 ⟨rfl, k2⟩
  have k2' := Lib.hid k2
  clear k2
  go_wp2_with fail
  go_ret2
  exact ⟨none, 0, rfl, OwnB.nil _ _ k2'.out.size, k2'.out⟩

set_option maxRecDepth 100000 in
set_option maxHeartbeats 16000000 in
theorem put_c (v : Value) (ls : List LineD) (w : World) (hv : Hid (RowsAt 4 lineVals w v ls)) (hr : Hid (rightC ls = true)) :
    Calls Try.prog 24 #[v] w (PutRes (putAll ls) 0 w) := by
  have hlen := right_len hr.out
  have hlt := Lib.hid (right_lt hr.out 9223372036854775807 (by omega))
  have hsm := Lib.hid (right_small hr.out)
  have hpl := Lib.hid (fun k => putAll_len (ls := ls.take k) (fun q hq => line_small (right_line hr.out q (List.mem_of_mem_take hq))))
  have hsm2 := Lib.hid (fun q hq => line_small (right_line hr.out q hq))
  obtain ⟨i0, hi0, hz0, hz1, hz2⟩ := info_parts u8InfoAll
  obtain ⟨p, c, rfl⟩ := hv.out.slice
  have hLn := Lib.hid hv.out.lines
  go_enter Try.func24, Try.ntmps24
  go_wp2_with fail
  refine (right_c _ ls true _ hLn (by omega) hlt hr).mono ?_
  rintro e w2 ⟨rfl, k2⟩
  have k2' := Lib.hid k2
  clear k2 hLn hlt hr
  go_wp2_with fail
  go_loopw [14, 4] (fun iv ov wr => ∃ (k : Nat) (x : List UInt8) (pq : Option Addr) (d : Nat), k ≤ ls.length ∧ iv = .int .i64 k ∧ ov = .slice pq x.length d ∧ Hid (putAll (ls.take k) = x) ∧ Hid (OwnB w wr (.slice pq x.length d) x) ∧ Hid (Keeps (fun _ => False) w wr)) (fun iv _ _ => ls.length - (intOf iv).toNat)
  case atStart => exact ⟨0, [], none, 0, by omega, rfl, rfl, Lib.hid rfl, Lib.hid (OwnB.nil _ _ k2'.out.size), k2'⟩
  case round =>
    obtain ⟨k, x, pq, d, hk, rfl, rfl, hx, hO, hKr⟩ := hrel
    have hxl : x.length ≤ 20000 := by
      have h1 := hpl.out k
      rw [hx.out, List.length_take] at h1
      omega
    by_cases hlk : k < ls.length
    · obtain ⟨g, o, rfl, hrows⟩ := hv.out.open (by omega)
      obtain ⟨q, hq⟩ : ∃ q, ls[k]? = some q := ⟨_, List.getElem?_eq_getElem hlk⟩
      obtain ⟨z1, z2, z3⟩ := hsm2.out q (List.mem_of_getElem? hq)
      obtain ⟨z0, -⟩ := hsm.out q (List.mem_of_getElem? hq)
      obtain ⟨N, hN⟩ : ∃ N : ByteArray, N = ⟨q.name.toArray⟩ := ⟨_, rfl⟩
      obtain ⟨F, hF⟩ : ∃ N : ByteArray, N = ⟨q.leaf.toArray⟩ := ⟨_, rfl⟩
      obtain ⟨V, hV⟩ : ∃ N : ByteArray, N = ⟨q.value.toArray⟩ := ⟨_, rfl⟩
      have sN : N.size ≤ 100 := by rw [hN]; exact z1
      have sF : F.size ≤ 100 := by rw [hF]; exact z2
      have sV : V.size ≤ 100 := by rw [hV]; exact z3
      have hsT : Hid (∀ (j : Nat) (S : ByteArray), [N, F, V][j]? = some S → S.size ≤ 100) := Lib.hid (fun j S hS => by
        have hm := List.mem_of_getElem? hS
        simp only [List.mem_cons, List.not_mem_nil, or_false] at hm
        rcases hm with rfl | rfl | rfl <;> assumption)
      have hrw : Hid (wr.rangeAt g (o + k * 4) [.int .i64 q.head, .string N, .string F, .string V]) := Lib.hid (by rw [hN, hF, hV]; exact hKr.out.rangeAt (hrows k q hq) id)
      have hline : Hid (putLine q = [UInt8.ofNat q.head.toNat] ++ flatT [N, F, V]) := Lib.hid (by
        unfold putLine txtB flatT
        simp only [List.flatMap_cons, List.flatMap_nil]
        rw [show N.data.toList = q.name by rw [hN], show F.data.toList = q.leaf by rw [hF], show V.data.toList = q.value by rw [hV], show N.size = q.name.length by rw [hN]; rfl, show F.size = q.leaf.length by rw [hF]; rfl, show V.size = q.value.length by rw [hV]; rfl]
        simp)
      have hnext := Lib.hid (putAll_take hq)
      have hnextL := Lib.hid (hpl.out (k + 1))
      rw [hnext.out, hx.out, hline.out] at hnextL
      rw [hx.out, hline.out] at hnext
      have w0 : IntKind.u8.wrap q.head = q.head := u8_in z0
      have b0 := Lib.hid (head_byte z0)
      have hS0 : Hid (BoxK w wr.heap.size 36 [.int .i64 q.head, .string N, .string F, .string V] (wr.alloc (.cells #[.int .i64 q.head, .string N, .string F, .string V] 36))) := Lib.hid ⟨BlkAt.new _ _ _, hKr.out.alloc _⟩
      have hO0 := Lib.hid (hO.out.keep ((Keeps.refl (fun _ => False) wr).alloc (.cells #[.int .i64 q.head, .string N, .string F, .string V] 36)) (fun _ _ f => f))
      have m1 : (0 : Int) ≤ (k : Int) := by omega
      have m2 : (k : Int) < (ls.length : Int) := by omega
      clear hrows hN hF hV hq z0 z1 z2 z3 hx hline hO sN sF sV
      go_upto_region 7 with (first | ((with_reducible refine at_slot 17 ?_); refine wpList_load_mid rfl 36 (.tmp 16) rfl g (o + k * 4) rfl [.int .i64 q.head, .string N, .string F, .string V] _ hrw.out Try.underlying36 rfl lineInfo ?_) | ((with_reducible refine at_store 6 ?_); refine wpList_store_new rfl 36 (.tmp 6) (.tmp 17) rfl _ #[.int .i64 q.head, .string N, .string F, .string V] rfl rfl lineInfo rfl (line_one _ _ _ _) ?_))
      generalize hgx : wr.heap.size = gx at hS0 ⊢
      generalize hWx : wr.alloc (.cells #[.int .i64 q.head, .string N, .string F, .string V] 36) = Wx at hS0 hO0 ⊢
      clear hgx hWx hrw hKr
      have c0 := hS0.out.1.cell 0 _ rfl
      have hBy := Lib.hid (one_bytes Wx [UInt8.ofNat q.head.toNat] (n := 1) rfl (by omega))
      have hOb := Lib.hid (hO0.out.keep ((Keeps.refl (fun _ => False) Wx).alloc (.cells (List.map bv [UInt8.ofNat q.head.toNat]).toArray 5)) (fun _ _ f => f))
      have hSb := Lib.hid (hS0.out.next ((Keeps.refl (fun _ => False) Wx).alloc (.cells (List.map bv [UInt8.ofNat q.head.toNat]).toArray 5)))
      simp only [List.map_cons, List.map_nil, ← b0.out] at hBy hOb hSb
      clear hO0
      go_upto_region 8 with ((with_reducible refine at_slot 23 ?_); refine wpList_append_b rfl (.tmp 18) (.tmp 22) 50 rfl i0 Try.underlying50 hi0 hz0 hz1 hz2 w _ x rfl hOb.out _ rfl [UInt8.ofNat q.head.toNat] hBy.out (by simp; omega) ?_; intro p1 cp1 W1 hOc hGc)
      have hS1 := Lib.hid (hSb.out.app (by decide) hOb.out hGc.out.k)
      obtain ⟨x1, hx1⟩ : ∃ y, y = x ++ [UInt8.ofNat q.head.toNat] := ⟨_, rfl⟩
      have hg1 : x.length + 1 = x1.length := by rw [hx1]; simp
      have hg2 : x.length + [UInt8.ofNat q.head.toNat].length = x1.length := by rw [hx1]; simp
      have hl1 : x1.length ≤ 20001 := by omega
      rw [← hx1, hg2] at hOc
      rw [hg1]
      rw [← List.append_assoc, ← hx1] at hnext hnextL
      clear hS0 c0 hBy hOb hSb hx1 hg1 hg2 hGc b0 w0
      have c1 := hS1.out.1.cell 1 _ rfl
      have c2 := hS1.out.1.cell 2 _ rfl
      have c3 := hS1.out.1.cell 3 _ rfl
      have hT0 : Hid (BoxK w W1.heap.size 9 [.string N, .string F, .string V] (W1.alloc (.cells #[.string N, .string F, .string V] 9))) := Lib.hid ⟨BlkAt.new _ _ _, hS1.out.2.alloc _⟩
      have hO2 := Lib.hid (hOc.out.keep ((Keeps.refl (fun _ => False) W1).alloc (.cells #[.string N, .string F, .string V] 9)) (fun _ _ f => f))
      clear hOc hS1
      go_wp2_with fail
      clear c1 c2 c3
      generalize W1.alloc (.cells #[.string N, .string F, .string V] 9) = U at hT0 hO2 ⊢
      generalize W1.heap.size = gt at hT0 ⊢
      go_loopw [32, 4] (fun iv ov wr => ∃ (j : Nat) (y : List UInt8) (pq : Option Addr) (d : Nat), j ≤ 3 ∧ iv = .int .i64 j ∧ ov = .slice pq y.length d ∧ y.length ≤ 20001 + j * 101 ∧ Hid (y = x1 ++ flatT ([N, F, V].take j)) ∧ Hid (OwnB w wr (.slice pq y.length d) y) ∧ Hid (BoxK w gt 9 [.string N, .string F, .string V] wr)) (fun iv _ _ => 3 - (intOf iv).toNat)
      case atStart => exact ⟨0, x1, p1, cp1, by omega, rfl, rfl, by omega, Lib.hid (by simp [flatT]), hO2, hT0⟩
      case round =>
        obtain ⟨j, y, pq2, d2, hj, rfl, rfl, hyl, hy, hOj, hTj⟩ := hrel
        by_cases hj3 : j < 3
        · obtain ⟨S, hS⟩ : ∃ S, [N, F, V][j]? = some S := ⟨_, List.getElem?_eq_getElem hj3⟩
          have sS := hsT.out j S hS
          have hS' : ([.string N, .string F, .string V] : List Value)[j]? = some (.string S) := by
            have := congrArg (Option.map Value.string) hS
            rw [← List.getElem?_map] at this
            exact this
          have cj := hTj.out.1.cell j _ hS'
          have w1 : IntKind.u8.wrap (S.size : Int) = (S.size : Int) := u8_in (by omega)
          have b1 := Lib.hid (len_byte (n := S.size) (by omega))
          have hnx := Lib.hid (flatT_take hS)
          have hBy := Lib.hid (one_bytes wr [UInt8.ofNat S.size] (n := 1) rfl (by omega))
          have hOb := Lib.hid (hOj.out.keep ((Keeps.refl (fun _ => False) wr).alloc (.cells (List.map bv [UInt8.ofNat S.size]).toArray 5)) (fun _ _ f => f))
          have hTb := Lib.hid (hTj.out.next ((Keeps.refl (fun _ => False) wr).alloc (.cells (List.map bv [UInt8.ofNat S.size]).toArray 5)))
          simp only [List.map_cons, List.map_nil, ← b1.out] at hBy hOb hTb
          have j1 : (0 : Int) ≤ (j : Int) := by omega
          have j2 : (j : Int) < 3 := by omega
          clear hS hS' hOj hTj
          go_upto_region 12 with ((with_reducible refine at_slot 41 ?_); refine wpList_append_b rfl (.tmp 36) (.tmp 40) 50 rfl i0 Try.underlying50 hi0 hz0 hz1 hz2 w _ y rfl hOb.out _ rfl [UInt8.ofNat S.size] hBy.out (by simp; omega) ?_; intro p3 c3 W3 hOc hGc)
          have hTc := Lib.hid (hTb.out.app (by decide) hOb.out hGc.out.k)
          clear hTb hOb hBy hGc cj w1 b1
          go_wp2_with ((with_reducible refine at_slot 44 ?_); refine wpList_append_str rfl (.tmp 42) (.tmp 43) 50 9 rfl i0 Try.underlying50 Try.underlying9 hi0 hz0 hz1 hz2 w _ (y ++ [UInt8.ofNat S.size]) rfl hOc.out S rfl (by simp; omega) ?_; intro p4 c4 W4 hOd hKd)
          have hTd := Lib.hid (hTc.out.app (by decide) hOc.out hKd.out)
          obtain ⟨y2, hy2⟩ : ∃ z, z = y ++ [UInt8.ofNat S.size] ++ S.data.toList := ⟨_, rfl⟩
          have hg1 : y.length + 1 + S.size = y2.length := by rw [hy2]; simp; omega
          have hg2 : (y ++ [UInt8.ofNat S.size]).length + S.size = y2.length := by rw [hy2]; simp; omega
          have hOe := hOd.out
          rw [← hy2, hg2] at hOe
          first | rw [hg1] | rw [hg2]
          have hyy : Hid (y2 = x1 ++ flatT ([N, F, V].take (j + 1))) := Lib.hid (by rw [hnx.out, hy2, hy.out]; simp)
          exact ⟨⟨j + 1, y2, p4, c4, by omega, by go_num, rfl, by omega, hyy, Lib.hid hOe, hTd⟩, by simp [intOf]; omega⟩
        · obtain rfl : j = 3 := by omega
          have hy2 := Lib.hid (show y = x1 ++ flatT [N, F, V] from hy.out)
          rw [← hy2.out] at hnext hnextL
          have hkk := Lib.hid hTj.out.2
          clear hTj hy hy2
          go_wp2_with fail
          exact ⟨⟨k + 1, y, pq2, d2, by omega, by go_num, rfl, hnext, hOj, hkk⟩, by simp [intOf]; omega⟩
    · obtain rfl : k = ls.length := by omega
      have hx2 : x = putAll ls := by rw [← hx.out, List.take_length]
      have hx3 := Lib.hid hx2
      clear hx hx2
      go_wp2_with fail
      go_ret2
      rw [← hx3.out]
      exact ⟨_, _, rfl, hO.out, hKr.out⟩

theorem put_any (v : Value) (ls : List LineD) (w : World) (hv : Hid (RowsAt 4 lineVals w v ls)) (hl : ls.length ≤ 9223372036854775807) (hlt : Hid (LinesLt ls 9223372036854775807)) :
    Calls Try.prog 24 #[v] w (PutRes (putR ls).1 (putR ls).2 w) := by
  unfold putR
  cases hz : rightC ls with
  | true => rw [if_pos rfl]; exact put_c v ls w hv (Lib.hid hz)
  | false => rw [if_neg (by simp)]; exact put_no v ls w hv hl hlt (Lib.hid hz)
end Go.Proofs.Ytdjmhjgfjbcdkaa
/- Delete, Text, Value of lines that may be no configuration: both sides (gen_chn.py). -/
set_option linter.unusedVariables false
set_option linter.unusedSimpArgs false
namespace Go.Proofs.Ytdjmhjgfjbcdkaa
open Go.RowKit

def delW (h : Int) (n l : List UInt8) (ls : List LineD) : List LineD × Nat := if rightC ls = true then delR h n l ls else ([], 1)
def textW (ls : List LineD) : List UInt8 := if rightC ls = true then textK ls ls.length else []
def valueW (ls : List LineD) (h : Int) (n l : List UInt8) : List UInt8 := if rightC ls = true then valueR ls h n l else []

set_option maxRecDepth 100000 in
set_option maxHeartbeats 4000000 in
theorem del_no (v : Value) (ls : List LineD) (h : Int) (N L : ByteArray) (w : World) (hv : Hid (RowsAt 4 lineVals w v ls)) (hl : ls.length ≤ 9223372036854775807) (hlt : Hid (LinesLt ls 8796093022000)) (hr : Hid (rightC ls = false)) :
    Calls Try.prog 9 #[v, .int .i64 h, .string N, .string L] w (NewRes (.tuple #[.slice none 0 0, .int .i64 1]) w) := by
  have hLn := Lib.hid hv.out.lines
  have hlt2 := Lib.hid (small_mono hlt.out (show 8796093022000 ≤ 9223372036854775807 by omega))
  clear hv hlt
  go_enter Try.func9, Try.ntmps9
  go_wp2_with fail
  refine (right_c _ ls false _ hLn hl hlt2 hr).mono ?_
  rintro e w2 ⟨rfl, k2⟩
  have k2' := Lib.hid k2
  clear k2
  go_wp2_with fail
  go_ret2
  exact ⟨rfl, k2'.out⟩

set_option maxRecDepth 100000 in
set_option maxHeartbeats 4000000 in
theorem rDel_no (v : Value) (ls : List LineD) (h : Int) (N L : ByteArray) (w : World) (hv : Hid (RowsAt 4 lineVals w v ls)) (hl : ls.length ≤ 9223372036854775807) (hlt : Hid (LinesLt ls 8796093022000)) (hr : Hid (rightC ls = false)) :
    Calls Try.prog 10 #[v, .int .i64 h, .string N, .string L] w (NewRes (.tuple #[.slice none 0 0, .int .i64 1]) w) := by
  have hLn := Lib.hid hv.out.lines
  have hlt2 := Lib.hid (small_mono hlt.out (show 8796093022000 ≤ 8796093022000 by omega))
  clear hv hlt
  go_enter Try.func10, Try.ntmps10
  go_wp2_with fail
  refine (rRight_c _ ls false _ hLn hl hlt2 hr).mono ?_
  rintro e w2 ⟨rfl, k2⟩
  have k2' := Lib.hid k2
  clear k2
  go_wp2_with fail
  go_ret2
  exact ⟨rfl, k2'.out⟩

set_option maxRecDepth 100000 in
set_option maxHeartbeats 4000000 in
theorem text_no (v : Value) (ls : List LineD) (w : World) (hv : Hid (RowsAt 4 lineVals w v ls)) (hl : ls.length ≤ 9223372036854775807) (hlt : Hid (LinesLt ls 8796093022000)) (hr : Hid (rightC ls = false)) :
    Calls Try.prog 21 #[v] w (NewRes (.string ⟨#[]⟩) w) := by
  have hLn := Lib.hid hv.out.lines
  have hlt2 := Lib.hid (small_mono hlt.out (show 8796093022000 ≤ 9223372036854775807 by omega))
  clear hv hlt
  go_enter Try.func21, Try.ntmps21
  go_wp2_with fail
  refine (right_c _ ls false _ hLn hl hlt2 hr).mono ?_
  rintro e w2 ⟨rfl, k2⟩
  have k2' := Lib.hid k2
  clear k2
  go_wp2_with fail
  go_ret
  exact ⟨rfl, k2'.out⟩

set_option maxRecDepth 100000 in
set_option maxHeartbeats 4000000 in
theorem rText_no (v : Value) (ls : List LineD) (w : World) (hv : Hid (RowsAt 4 lineVals w v ls)) (hl : ls.length ≤ 9223372036854775807) (hlt : Hid (LinesLt ls 8796093022000)) (hr : Hid (rightC ls = false)) :
    Calls Try.prog 22 #[v] w (NewRes (.string ⟨#[]⟩) w) := by
  have hLn := Lib.hid hv.out.lines
  have hlt2 := Lib.hid (small_mono hlt.out (show 8796093022000 ≤ 8796093022000 by omega))
  clear hv hlt
  go_enter Try.func22, Try.ntmps22
  go_wp2_with fail
  refine (rRight_c _ ls false _ hLn hl hlt2 hr).mono ?_
  rintro e w2 ⟨rfl, k2⟩
  have k2' := Lib.hid k2
  clear k2
  go_wp2_with fail
  go_ret
  exact ⟨rfl, k2'.out⟩

set_option maxRecDepth 100000 in
set_option maxHeartbeats 4000000 in
theorem value_no (v : Value) (ls : List LineD) (h : Int) (N L : ByteArray) (w : World) (hv : Hid (RowsAt 4 lineVals w v ls)) (hl : ls.length ≤ 9223372036854775807) (hlt : Hid (LinesLt ls 8796093022000)) (hr : Hid (rightC ls = false)) :
    Calls Try.prog 15 #[v, .int .i64 h, .string N, .string L] w (NewRes (.string ⟨#[]⟩) w) := by
  have hLn := Lib.hid hv.out.lines
  have hlt2 := Lib.hid (small_mono hlt.out (show 8796093022000 ≤ 9223372036854775807 by omega))
  clear hv hlt
  go_enter Try.func15, Try.ntmps15
  go_wp2_with fail
  refine (right_c _ ls false _ hLn hl hlt2 hr).mono ?_
  rintro e w2 ⟨rfl, k2⟩
  have k2' := Lib.hid k2
  clear k2
  go_wp2_with fail
  go_ret
  exact ⟨rfl, k2'.out⟩

set_option maxRecDepth 100000 in
set_option maxHeartbeats 4000000 in
theorem rValue_no (v : Value) (ls : List LineD) (h : Int) (N L : ByteArray) (w : World) (hv : Hid (RowsAt 4 lineVals w v ls)) (hl : ls.length ≤ 9223372036854775807) (hlt : Hid (LinesLt ls 8796093022000)) (hr : Hid (rightC ls = false)) :
    Calls Try.prog 16 #[v, .int .i64 h, .string N, .string L] w (NewRes (.string ⟨#[]⟩) w) := by
  have hLn := Lib.hid hv.out.lines
  have hlt2 := Lib.hid (small_mono hlt.out (show 8796093022000 ≤ 8796093022000 by omega))
  clear hv hlt
  go_enter Try.func16, Try.ntmps16
  go_wp2_with fail
  refine (rRight_c _ ls false _ hLn hl hlt2 hr).mono ?_
  rintro e w2 ⟨rfl, k2⟩
  have k2' := Lib.hid k2
  clear k2
  go_wp2_with fail
  go_ret
  exact ⟨rfl, k2'.out⟩

theorem del_w (v : Value) (ls : List LineD) (h : Int) (N L : ByteArray) (w : World) (hv : Hid (RowsAt 4 lineVals w v ls)) (hl : ls.length ≤ 9223372036854775807) (hlt : Hid (LinesLt ls 8796093022000)) :
    Calls Try.prog 9 #[v, .int .i64 h, .string N, .string L] w (ResPost (delW h N.data.toList L.data.toList ls) w) := by
  unfold delW
  cases hz : rightC ls with
  | true => rw [if_pos rfl]; exact del_any v ls h N L w hv (Lib.hid hz)
  | false =>
    rw [if_neg (by simp)]
    refine (del_no v ls h N L w hv hl hlt (Lib.hid hz)).mono ?_
    rintro e w2 ⟨rfl, k⟩
    exact ⟨none, 0, rfl, RowsAt.nil _, k⟩

theorem rDel_w (v : Value) (ls : List LineD) (h : Int) (N L : ByteArray) (w : World) (hv : Hid (RowsAt 4 lineVals w v ls)) (hl : ls.length ≤ 9223372036854775807) (hlt : Hid (LinesLt ls 8796093022000)) :
    Calls Try.prog 10 #[v, .int .i64 h, .string N, .string L] w (ResPost (delW h N.data.toList L.data.toList ls) w) := by
  unfold delW
  cases hz : rightC ls with
  | true => rw [if_pos rfl]; exact rDel_any v ls h N L w hv (Lib.hid hz)
  | false =>
    rw [if_neg (by simp)]
    refine (rDel_no v ls h N L w hv hl hlt (Lib.hid hz)).mono ?_
    rintro e w2 ⟨rfl, k⟩
    exact ⟨none, 0, rfl, RowsAt.nil _, k⟩

theorem text_w (v : Value) (ls : List LineD) (T : ByteArray) (w : World) (hv : Hid (RowsAt 4 lineVals w v ls)) (hl : ls.length ≤ 9223372036854775807) (hlt : Hid (LinesLt ls 8796093022000)) (hT : Hid (T = ⟨(textW ls).toArray⟩)) :
    Calls Try.prog 21 #[v] w (NewRes (.string T) w) := by
  have hT2 := hT.out
  unfold textW at hT2
  cases hz : rightC ls with
  | true => rw [if_pos hz] at hT2; exact text_c v ls T w hv (Lib.hid hz) (Lib.hid hT2)
  | false =>
    rw [if_neg (by simp [hz])] at hT2
    subst hT2
    exact text_no v ls w hv hl hlt (Lib.hid hz)

theorem rText_w (v : Value) (ls : List LineD) (T : ByteArray) (w : World) (hv : Hid (RowsAt 4 lineVals w v ls)) (hl : ls.length ≤ 9223372036854775807) (hlt : Hid (LinesLt ls 8796093022000)) (hT : Hid (T = ⟨(textW ls).toArray⟩)) :
    Calls Try.prog 22 #[v] w (NewRes (.string T) w) := by
  have hT2 := hT.out
  unfold textW at hT2
  cases hz : rightC ls with
  | true => rw [if_pos hz] at hT2; exact rText_c v ls T w hv (Lib.hid hz) (Lib.hid hT2)
  | false =>
    rw [if_neg (by simp [hz])] at hT2
    subst hT2
    exact rText_no v ls w hv hl hlt (Lib.hid hz)

theorem value_w (v : Value) (ls : List LineD) (h : Int) (N L : ByteArray) (T : ByteArray) (w : World) (hv : Hid (RowsAt 4 lineVals w v ls)) (hl : ls.length ≤ 9223372036854775807) (hlt : Hid (LinesLt ls 8796093022000)) (hT : Hid (T = ⟨(valueW ls h N.data.toList L.data.toList).toArray⟩)) :
    Calls Try.prog 15 #[v, .int .i64 h, .string N, .string L] w (NewRes (.string T) w) := by
  have hT2 := hT.out
  unfold valueW at hT2
  cases hz : rightC ls with
  | true => rw [if_pos hz] at hT2; exact value_any v ls h N L T w hv (Lib.hid hz) (Lib.hid hT2)
  | false =>
    rw [if_neg (by simp [hz])] at hT2
    subst hT2
    exact value_no v ls h N L w hv hl hlt (Lib.hid hz)

theorem rValue_w (v : Value) (ls : List LineD) (h : Int) (N L : ByteArray) (T : ByteArray) (w : World) (hv : Hid (RowsAt 4 lineVals w v ls)) (hl : ls.length ≤ 9223372036854775807) (hlt : Hid (LinesLt ls 8796093022000)) (hT : Hid (T = ⟨(valueW ls h N.data.toList L.data.toList).toArray⟩)) :
    Calls Try.prog 16 #[v, .int .i64 h, .string N, .string L] w (NewRes (.string T) w) := by
  have hT2 := hT.out
  unfold valueW at hT2
  cases hz : rightC ls with
  | true => rw [if_pos hz] at hT2; exact rValue_c v ls h N L T w hv hlt (right_len hz) (Lib.hid hz) (Lib.hid hT2)
  | false =>
    rw [if_neg (by simp [hz])] at hT2
    subst hT2
    exact rValue_no v ls h N L w hv hl hlt (Lib.hid hz)
end Go.Proofs.Ytdjmhjgfjbcdkaa
