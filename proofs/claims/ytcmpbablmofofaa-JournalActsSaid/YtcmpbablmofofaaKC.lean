/- stays: walked. -/
import Derived.Test.YtcmpbablmofofaaKB
import Derived.Lib.SlBytesConst
set_option linter.unusedVariables false
set_option linter.unusedSimpArgs false
namespace Go.Proofs.Ytcmpbablmofofaa
open Go.RowKit
section
variable [Inhabited BaseN]

theorem NewJ.ok {w w' : World} {r : Int × Dk} {gen half : Nat} {L : List (List UInt8)} {x : Ending} (h : NewJ w r gen half L x w') (h0 : r.1 = 0) : KeepD w w' ∧ ∃ jb ev, x = .returned (.tuple #[.pointer (some ⟨jb, 0, none⟩), .int .i64 0]) ∧ w.heap.size ≤ jb ∧ JAt w w' jb r.2 gen half ev L false := by
  obtain ⟨h1, h2⟩ := h
  rw [if_pos h0] at h2
  exact ⟨h1, h2⟩
def nineB : List UInt8 := [49, 50, 51, 52, 53, 54, 55, 56, 57]
/-- a constant's bytes: a new block with the mark -/
theorem const_bytes (w : World) (l : List UInt8) (n : Nat) (hn : l.length = n) (r : Nat × Nat) : BytesAt (w.alloc (.cells (l.map bv).toArray 5 r)) (.slice (some ⟨w.heap.size, 0, none⟩) n n) l ∧ ¬ DTy (w.alloc (.cells (l.map bv).toArray 5 r)) w.heap.size := by
  subst hn
  have hb : (w.alloc (.cells (l.map bv).toArray 5 r)).heap[w.heap.size]? = some (.cells (l.map bv).toArray 5 r) := heap_alloc_last w _
  refine ⟨BytesAt.of rfl (Nat.le_refl _) (fun j u hu => ?_), fun ⟨_, cs, t, r2, h1, h2⟩ => ?_⟩
  · unfold World.cell?
    simp only [hb]
    simpa using hu
  · rw [hb] at h1
    injection h1 with h1
    injection h1 with _ h1 _
    subst h1
    revert h2; decide
set_option maxRecDepth 100000 in
set_option maxHeartbeats 8000000 in
theorem stays_any (w : World) (hb0 : base0 ≤ w.heap.size) : Calls Try.prog 28 #[] w fun e w' => e = .returned (.bool true) ∧ KeepD w w' := by
  go_enter Try.func28, Try.ntmps28
  go_wp2_with fail
  refine (own_new 8 w (by omega) (by omega)).mono ?_
  rintro e w1 ⟨b, bs, rfl, hO1, k1⟩
  have hD1 : Hid (DkAt (fresh b bs 8) w1) := Lib.hid (by obtain ⟨v, hm, hf⟩ := hO1; exact ⟨v, hm, fun k hk => Nat.le_trans hb0 (hf k hk)⟩)
  have hk1 : Hid (KeepD w w1) := Lib.hid (KeepD.of k1)
  clear hO1 k1
  have hB := Lib.hid (begin_any (fresh b bs 8) w1 hD1)
  go_wp2_with fail
  refine hB.out.mono ?_
  clear hB
  intro e w2 h2
  obtain ⟨k12, jb, ev, rfl, hjb, hJ2⟩ := h2.ok (stay1 b bs)
  clear h2
  rw [stay2] at hJ2
  have hJ2' : Hid (JAt w1 w2 jb (sD1 b bs) 1 0 ev [] false) := Lib.hid hJ2
  have hk2 := Lib.hid (hk1.out.trans k12)
  have hw1 : Hid (w.heap.size ≤ w1.heap.size) := Lib.hid hk1.out.size
  clear hJ2 k12 hk1 hD1
  have hcv := Lib.run_convert_bytes_const (P := Try.prog) w2 27 5 (oneB.map bv).toArray 3 3 Try.underlying27 Try.underlying5
  have hcb := const_bytes w2 oneB 3 rfl (3, 4)
  obtain ⟨w3, hw3⟩ : ∃ W, w2.alloc (.cells (oneB.map bv).toArray 5 (3, 4)) = W := ⟨_, rfl⟩
  have hcv' : (convert 27 27 (.slice (some ⟨w2.heap.size, 0, none⟩) 3 3)).run Try.prog (w2.alloc (.cells #[.int .u8 111, .int .u8 110, .int .u8 101] 5)) = .ok (.slice (some ⟨w2.heap.size, 0, none⟩) 3 3) w3 := by rw [← hw3]; exact hcv
  rw [hw3] at hcb
  have k23 : Keeps (fun _ => False) w2 w3 := by rw [← hw3]; exact (Keeps.refl _ _).alloc _
  have hJ3 := Lib.hid (hJ2'.out.keep k23)
  have hk3 := Lib.hid (hk2.out.thenK k23)
  have hB := (stayB b bs)
  have hA := Lib.hid (append_any w1 jb 1 0 ev [] (sD1 b bs) _ oneB w3 hJ3 (Lib.hid hcb.1) (by decide) (Lib.hid (fun k e => by
    simp only [Value.ownBlock, Option.some.injEq] at e
    subst e; exact hcb.2)) (by rw [hB.2.1]; omega) (by omega) (by omega) (Nat.zero_le _) (Nat.zero_le _))
  have hB' := Lib.hid hB
  clear k23 hB hw3 hk2 hJ2' hcv hcb
  go_wp2_with fail
  refine hA.out.mono ?_
  rintro e w4 ⟨rfl, ev', hJ4, k34⟩
  have hk4 : Hid (KeepD w w4) := Lib.hid (Keeps.trans' hk3.out k34 (fun i hi => by
    rcases hi with hi | hi | hi
    · by_cases hs : i < w.heap.size
      · left
        by_cases hd : DTy w i
        · exact hd
        · have e := hk3.out.block i hs hd
          obtain ⟨hbi, cs, t, r, h1, h2⟩ := hi
          rw [e] at h1
          exact ⟨hbi, cs, t, r, h1, h2⟩
      · right; omega
    · right; subst hi; exact Nat.le_trans hw1.out hjb
    · right
      obtain ⟨vs, -, h2, -⟩ := hJ3.out.ents
      exact Nat.le_trans hw1.out (h2.2.1 i hi)))
  rw [stay3]
  have hD4 : Hid (DkAt (sD2 b bs) w4) := Lib.hid hJ4.dk
  clear hJ4 k34 hk3 hJ3 hA hjb hw1 hcv'
  have hop := Lib.hid (open_any (sD2 b bs) w4 hD4)
  rw [hB'.out.2.2.1] at hop
  go_wp2_with fail
  refine hop.out.mono ?_
  clear hop
  intro e w5 h5
  obtain ⟨k45, kb, ek, rfl, hkb, hJ5⟩ := h5.ok (stay4 b bs)
  clear h5
  rw [stay5, stay6, stay7] at hJ5
  have hJ5' : Hid (JAt w4 w5 kb (sD2 b bs) 1 0 ek [oneB] false) := Lib.hid hJ5
  have hk5 := Lib.hid (hk4.out.trans k45)
  have hAll := Lib.hid (all_any w4 kb 1 0 ek [oneB] false (sD2 b bs) w5 hJ5' (by decide) (Lib.hid (by decide)))
  clear hJ5 k45 hk4 hD4 hkb
  go_wp2_with fail
  refine hAll.out.mono ?_
  rintro e w6 ⟨p, c, rfl, hE6, k56⟩
  have hJ6 := Lib.hid (hJ5'.out.keep k56)
  have hk6 := Lib.hid (hk5.out.thenK k56)
  obtain ⟨g, o, q, d, rfl, hc6, hb6⟩ := hE6.at.get (k := 0) (l := oneB) rfl
  have hc6' : w6.cell? ⟨g, o, none⟩ = some (.slice q 3 d) := hc6
  obtain ⟨gq, oq, rfl, hqd, hrq⟩ := hb6.open (by decide)
  have hcs : (convert 27 9 (.slice (some ⟨gq, oq, none⟩) 3 d)).run Try.prog w6 = .ok (.string ⟨#[111, 110, 101]⟩) w6 := by
    have h := run_convert_bytes_back (P := Try.prog) w6 27 9 5 ⟨gq, oq, none⟩ d oneB Try.underlying27 Try.underlying5 Try.underlying9 (fun j hj => by
      have e3 : some (Value.int .u8 (oneB[j].toNat : Int)) = (oneB.map bv)[j]? := by rw [List.getElem?_map, List.getElem?_eq_getElem hj]; rfl
      rw [Addr.add_mid]; exact hrq j _ e3.symm)
    exact h
  have hfr := Lib.hid (free_any kb 1 0 _ _ _ (sD2 b bs) w6 hJ6.out.head hJ6.out.dk.own hJ6.out.dk.n1.2 (by rw [hB'.out.2.2.2]; omega) (by rw [hB'.out.2.2.2]; decide))
  rw [hB'.out.2.2.2] at hfr
  rw [show (8 - 2) / 2 - usedOf [oneB] = 2 by decide] at hfr
  have hcv := Lib.run_convert_bytes_const (P := Try.prog) w6.drew 27 5 (nineB.map bv).toArray 9 9 Try.underlying27 Try.underlying5
  have hcb := const_bytes w6.drew nineB 9 rfl (9, 10)
  obtain ⟨w8, hw8⟩ : ∃ W, w6.drew.alloc (.cells (nineB.map bv).toArray 5 (9, 10)) = W := ⟨_, rfl⟩
  have hcv' : (convert 27 27 (.slice (some ⟨w6.heap.size, 0, none⟩) 9 9)).run Try.prog (w6.alloc (.cells #[.int .u8 49, .int .u8 50, .int .u8 51, .int .u8 52, .int .u8 53, .int .u8 54, .int .u8 55, .int .u8 56, .int .u8 57] 5)).drew = .ok (.slice (some ⟨w6.heap.size, 0, none⟩) 9 9) w8 := by rw [← hw8]; exact hcv
  rw [hw8] at hcb
  have hk8 : Hid (KeepD w w8) := Lib.hid (by rw [← hw8]; exact hk6.out.thenK (((Keeps.refl _ _).drew).alloc _))
  have hcr := Lib.hid (crc_any (.slice (some ⟨w6.heap.size, 0, none⟩) 9 9) nineB (by decide) w8 (Lib.hid hcb.1))
  rw [show crc nineB = 3421780262 from stay9] at hcr
  clear hb6 hE6 k56 hk5 hc6 hAll hJ5' hcv hcb hw8 hk6
  go_wp2_with fail
  refine hfr.out.mono ?_
  rintro e w7 ⟨rfl, rfl⟩
  clear hfr
  go_wp2_with fail
  refine hcr.out.mono ?_
  rintro e w9 ⟨rfl, rfl⟩
  clear hcr hcv'
  go_wp2_with fail
  go_ret
  exact ⟨rfl, hk8.out⟩
end
end Go.Proofs.Ytcmpbablmofofaa
