/- ParseWrites' walk. -/
import Derived.Test.YtfflgbpppcfamaaDoorZPH
import Derived.Test.YtfflgbpppcfamaaDoorZRI
import Derived.Test.YtfflgbpppcfamaaDoorZRM
import Derived.Test.YtfflgbpppcfamaaDoorZRO
import Derived.Test.YtfflgbpppcfamaaDoorZRP
import Derived.Lib.ItoaLen
set_option linter.unusedVariables false
set_option linter.unusedSimpArgs false
namespace Go.Proofs.YtfflgbpppcfamaaDoor
open Go.RowKit

theorem verbW_len (a : Int) : (verbW a).length ≤ 20 := by
  unfold verbW
  split
  · have : ∀ i : Nat, (verbsL.getD i []).length ≤ 20 := fun i => by
      by_cases hi : i < verbsL.length
      · have := (show ∀ x ∈ verbsL, x.length ≤ 20 by decide) _ (List.getElem_mem hi)
        rw [List.getD_eq_getElem?_getD, List.getElem?_eq_getElem hi]; exact this
      · rw [List.getD_eq_getElem?_getD, List.getElem?_eq_none (by omega)]; simp
    exact this _
  · simp
theorem headW_len (a : Int) : (headW a).length ≤ 20 := by
  unfold headW
  split
  · decide
  · split
    · decide
    · simp
theorem textC_len (c : CmdD) (h1 : c.name.length ≤ 40) (h2 : c.leaf.length ≤ 40) (h3 : c.value.length ≤ 40) (hn1 : -9223372036854775808 ≤ c.n) (hn2 : c.n ≤ 9223372036854775807) : (textC c).length ≤ 1000 := by
  have hv := verbW_len c.what
  have hh := headW_len c.head
  have hi := Lib.itoa_length_le c.n hn1 hn2
  unfold textC restC
  rw [List.length_append]
  split
  · split <;> split <;> split <;> simp [spaced] <;> omega
  · split
    · simp [spaced, itoaL]; omega
    · simp [spaced]; omega
theorem textD_len (c : CmdD) (h1 : c.name.length ≤ 40) (h2 : c.leaf.length ≤ 40) (h3 : c.value.length ≤ 40) (hn2 : c.n ≤ 9223372036854775807) : (textD c).length ≤ 1000 := by
  have hv := verbW_len c.what
  have hd : (digitsD c.n).length ≤ 19 := by
    unfold digitsD
    split
    · simp
    · exact digs_len 19 _ (by omega) (by omega)
  have ho : ∀ l : List UInt8, (opt l).length ≤ l.length + 1 := fun l => by unfold opt; split <;> simp
  have hT : (headT c).length ≤ 70 := by
    unfold headT
    have ha : areaW.length ≤ 20 := by decide
    have hf : faceW.length ≤ 20 := by decide
    split
    · simp; omega
    · split
      · simp; omega
      · simp
  have o1 := ho c.leaf; have o2 := ho c.value
  unfold textD
  split
  · simp only [List.length_append]; omega
  · split
    · simp only [List.length_append, List.length_cons]; omega
    · omega
theorem allB {n : Nat} {L : Array Bool} (h : ((List.range n).all fun i => L.getD i true) = true) : ∀ i, i < n → L.getD i true = true := fun i hi => List.all_eq_true.1 h i (List.mem_range.2 hi)
theorem cut_len (N N1 : ByteArray) (k : Nat) (h : N1 = N.extract 0 k) (hk : k ≤ 40) : N1.size ≤ 40 := by
  rw [h]
  have := cut_size N k
  omega

set_option maxRecDepth 100000 in
set_option maxHeartbeats 8000000 in
theorem parseWrites_law (a h : Int) (N L V : ByteArray) (n : Int) (w : World) (hn1 : -9223372036854775808 ≤ n) (hn2 : n ≤ 9223372036854775807) (ht : Hid (VerbsOk w)) (htab : Hid (TabOk w)) :
    Calls Tryd.prog 4 #[.agg #[.int .i64 a, .int .i64 h, .string N, .string L, .string V, .int .i64 n]] w (lawEnd w) := by
  obtain ⟨kN, eN⟩ : ∃ k : Nat, k = min N.size 40 := ⟨_, rfl⟩
  have hkN : (kN : Int) ≤ N.size := by omega
  have lN : kN ≤ 40 := by omega
  have mN : Hid (min (N.size : Int) 40 = kN) := Lib.hid (by omega)
  clear eN
  obtain ⟨kL, eL⟩ : ∃ k : Nat, k = min L.size 40 := ⟨_, rfl⟩
  have hkL : (kL : Int) ≤ L.size := by omega
  have lL : kL ≤ 40 := by omega
  have mL : Hid (min (L.size : Int) 40 = kL) := Lib.hid (by omega)
  clear eL
  obtain ⟨kV, eV⟩ : ∃ k : Nat, k = min V.size 40 := ⟨_, rfl⟩
  have hkV : (kV : Int) ≤ V.size := by omega
  have lV : kV ≤ 40 := by omega
  have mV : Hid (min (V.size : Int) 40 = kV) := Lib.hid (by omega)
  clear eV
  have hB : Hid (BlkAt (w.alloc (.cells #[.int .i64 a, .int .i64 h, .string N, .string L, .string V, .int .i64 n] 31)) w.heap.size 31 [.int .i64 a, .int .i64 h, .string N, .string L, .string V, .int .i64 n]) := Lib.hid (BlkAt.new _ _ _)
  have hK0 : Hid (Keeps (fun _ => False) w (w.alloc (.cells #[.int .i64 a, .int .i64 h, .string N, .string L, .string V, .int .i64 n] 31))) := Lib.hid ((Keeps.refl _ _).alloc _)
  have hg0 : Hid (w.heap.size ≤ w.heap.size) := Lib.hid (Nat.le_refl _)
  go_enter Tryd.func4, Tryd.ntmps4
  go_upto_region 1 with fail
  generalize w.alloc (.cells #[.int .i64 a, .int .i64 h, .string N, .string L, .string V, .int .i64 n] 31) = w1 at hB hK0 ⊢
  generalize hgg : w.heap.size = g at hB ⊢
  have hgs : Hid (w.heap.size ≤ g) := Lib.hid (by omega)
  clear hgg hg0
  refine wp_region_noPanic ?_
  refine wp_region_phase (S := fun W => BlkAt W g 31 [.int .i64 a, .int .i64 h, .string N, .string L, .string V, .int .i64 n]) 27 (by kernel_rfl) (hB.out.keep ((Keeps.refl (fun _ => False) _).drew) id) (fun hHeld => ?_)
  refine tkx 0 rfl ?_
  refine tkx 1 rfl ?_
  refine tkxL 2 rfl (yieldsIf_load_cell (by rfl) 9 (.tmp 10) rfl g 2 rfl _ (fun _ s => BlkAt.cell s 2 _ rfl) (fun w s => load_strp w _ _ _ s)) ?_
  refine tkx 3 rfl ?_
  refine tkx 4 rfl ?_
  refine tkxL 5 rfl (yieldsIf_load_cell (by rfl) 9 (.tmp 13) rfl g 2 rfl _ (fun _ s => BlkAt.cell s 2 _ rfl) (fun w s => load_strp w _ _ _ s)) ?_
  refine tkx 6 rfl ?_
  refine tkx 7 (v := .int .i64 (kN : Int)) (hy := fun wS => by go_simp; exact mN.out) rfl ?_
  refine tkx 8 rfl ?_
  refine tkx 9 rfl ?_
  refine tkx 10 rfl ?_
  refine tkxL 11 rfl (yieldsIf_load_cell (by rfl) 9 (.tmp 19) rfl g 3 rfl _ (fun _ s => BlkAt.cell s 3 _ rfl) (fun w s => load_strp w _ _ _ s)) ?_
  refine tkx 12 rfl ?_
  refine tkx 13 rfl ?_
  refine tkxL 14 rfl (yieldsIf_load_cell (by rfl) 9 (.tmp 22) rfl g 3 rfl _ (fun _ s => BlkAt.cell s 3 _ rfl) (fun w s => load_strp w _ _ _ s)) ?_
  refine tkx 15 rfl ?_
  refine tkx 16 (v := .int .i64 (kL : Int)) (hy := fun wS => by go_simp; exact mL.out) rfl ?_
  refine tkx 17 rfl ?_
  refine tkx 18 rfl ?_
  refine tkx 19 rfl ?_
  refine tkxL 20 rfl (yieldsIf_load_cell (by rfl) 9 (.tmp 28) rfl g 4 rfl _ (fun _ s => BlkAt.cell s 4 _ rfl) (fun w s => load_strp w _ _ _ s)) ?_
  refine tkx 21 rfl ?_
  refine tkx 22 rfl ?_
  refine tkxL 23 rfl (yieldsIf_load_cell (by rfl) 9 (.tmp 31) rfl g 4 rfl _ (fun _ s => BlkAt.cell s 4 _ rfl) (fun w s => load_strp w _ _ _ s)) ?_
  refine tkx 24 rfl ?_
  refine tkx 25 (v := .int .i64 (kV : Int)) (hy := fun wS => by go_simp; exact mV.out) rfl ?_
  refine tkx 26 rfl ?_
  generalize hN1 : N.extract 0 kN = N1
  generalize hL1 : L.extract 0 kL = L1
  generalize hV1 : V.extract 0 kV = V1
  have sN := cut_len N N1 kN hN1.symm lN
  have sL := cut_len L L1 kL hL1.symm lL
  have sV := cut_len V V1 kV hV1.symm lV
  clear hN1 hL1 hV1 mN mL mV hkN hkL hkV lN lL lV
  refine wpX_tail _ _ _ _ (allB (by kernel_rfl)) ?_
  have hB1 := Lib.hid hHeld
  clear hHeld
  have hK1 := Lib.hid (hK0.out.drew)
  clear hK0 hB
  generalize w1.drew = W1 at hB1 hK1 ⊢
  have hHeld : (fun _ : World => True) W1 := trivial
  have c2 := hB1.out.cell 2 _ rfl
  have f2 := hB1.out.frozen 2
  clear hHeld
  have hHeld : (fun _ : World => True) W1 := trivial
  refine tk 27 rfl ?_
  refine tk 28 rfl ?_
  refine stepL 29 rfl (by kernel_rfl) (fun K hK => ?_)
  go_simp
  refine hK.out _ _ (trivial) (fun hHeld => ?_)
  clear hK K
  try simp only [Act.put, sA, sZ, sS]
  have hB2 := Lib.hid (hB1.out.set 2 (.string N1))
  have hK2 := Lib.hid (hK1.out.setCell (p := ⟨g, 2, none⟩) (.inr hgs.out) (.string N1))
  clear c2 f2 hHeld hB1 hK1
  generalize W1.setCell ⟨g, 2, none⟩ (.string N1) = W2 at hB2 hK2 ⊢
  have hHeld : (fun _ : World => True) W2 := trivial
  have c3 := hB2.out.cell 3 _ rfl
  have f3 := hB2.out.frozen 3
  clear hHeld
  have hHeld : (fun _ : World => True) W2 := trivial
  refine tk 30 rfl ?_
  refine tk 31 rfl ?_
  refine stepL 32 rfl (by kernel_rfl) (fun K hK => ?_)
  go_simp
  refine hK.out _ _ (trivial) (fun hHeld => ?_)
  clear hK K
  try simp only [Act.put, sA, sZ, sS]
  have hB3 := Lib.hid (hB2.out.set 3 (.string L1))
  have hK3 := Lib.hid (hK2.out.setCell (p := ⟨g, 3, none⟩) (.inr hgs.out) (.string L1))
  clear c3 f3 hHeld hB2 hK2
  generalize W2.setCell ⟨g, 3, none⟩ (.string L1) = W3 at hB3 hK3 ⊢
  have hHeld : (fun _ : World => True) W3 := trivial
  have c4 := hB3.out.cell 4 _ rfl
  have f4 := hB3.out.frozen 4
  clear hHeld
  have hHeld : (fun _ : World => True) W3 := trivial
  refine tk 33 rfl ?_
  refine tk 34 rfl ?_
  refine stepL 35 rfl (by kernel_rfl) (fun K hK => ?_)
  go_simp
  refine hK.out _ _ (trivial) (fun hHeld => ?_)
  clear hK K
  try simp only [Act.put, sA, sZ, sS]
  have hB4 := Lib.hid (hB3.out.set 4 (.string V1))
  have hK4 := Lib.hid (hK3.out.setCell (p := ⟨g, 4, none⟩) (.inr hgs.out) (.string V1))
  clear c4 f4 hHeld hB3 hK3
  generalize W3.setCell ⟨g, 4, none⟩ (.string V1) = W4 at hB4 hK4 ⊢
  have hHeld : (fun _ : World => True) W4 := trivial
  refine wpAnyH_done (by kernel_rfl) (NoPanic.normal ?_) _
  clear hHeld
  have hB5 : Hid (BlkAt W4 g 31 [.int .i64 a, .int .i64 h, .string N1, .string L1, .string V1, .int .i64 n]) := Lib.hid hB4.out
  clear hB4
  have ht4 := Lib.hid (ht.out.keep hK4.out)
  have htab4 := Lib.hid (htab.out.keep hK4.out)
  go_wp2_with ((with_reducible refine at_slot 43 ?_); refine wpList_load_mid rfl 31 (.tmp 1) rfl g 0 rfl [.int .i64 a, .int .i64 h, .string N1, .string L1, .string V1, .int .i64 n] _ hB5.out.range Tryd.underlying31 rfl cmd6Info ?_)
  refine (to6_any a h N1 L1 V1 n _).mono ?_
  rintro e w5 ⟨rfl, k5⟩
  have hB6 := Lib.hid (hB5.out.keep k5 id)
  have hK5 := Lib.hid (hK4.out.trans k5)
  have ht5 := Lib.hid (ht4.out.keep k5)
  have htab5 := Lib.hid (htab4.out.keep k5)
  clear k5 hB5 hK4 ht4 htab4
  have lN1 : N1.data.toList.length ≤ 40 := by have : N1.data.toList.length = N1.size := by simp
                                              omega
  have lL1 : L1.data.toList.length ≤ 40 := by have : L1.data.toList.length = L1.size := by simp
                                              omega
  have lV1 : V1.data.toList.length ≤ 40 := by have : V1.data.toList.length = V1.size := by simp
                                              omega
  obtain ⟨c, hc⟩ : ∃ c : CmdD, c = ⟨a, h, N1.data.toList, L1.data.toList, V1.data.toList, n⟩ := ⟨_, rfl⟩
  have hCl := textC_len c (by rw [hc]; exact lN1) (by rw [hc]; exact lL1) (by rw [hc]; exact lV1) (by rw [hc]; exact hn1) (by rw [hc]; exact hn2)
  have hDl := textD_len c (by rw [hc]; exact lN1) (by rw [hc]; exact lL1) (by rw [hc]; exact lV1) (by rw [hc]; exact hn2)
  clear lN1 lL1 lV1
  obtain ⟨T, hT⟩ : ∃ T : ByteArray, T = ⟨(textC c).toArray⟩ := ⟨_, rfl⟩
  have hTs : T.size ≤ 1000000 := by
    rw [hT]
    show (textC c).length ≤ 1000000
    omega
  by_cases hr : readD (textC c) = some c
  · have hTD : Hid (T = ⟨(textD c).toArray⟩) := Lib.hid (by rw [hT, write_eq hr])
    have hrT : Hid (readD T.data.toList = some c) := Lib.hid (by rw [hT]; exact hr)
    have hrC : Hid ((true = true) ↔ readD (textC c) = some c) := Lib.hid ⟨fun _ => hr, fun _ => rfl⟩
    have hrD : Hid ((true = true) ↔ readD (textD c) = some c) := Lib.hid ⟨fun _ => (write_iff c).1 hr, fun _ => rfl⟩
    have hT' := Lib.hid hT
    subst hc
    have hwD : Hid (∀ W, Calls Tryd.prog 11 #[.agg #[.int .i64 a, .int .i64 h, .string N1, .string L1, .string V1, .int .i64 n]] W (NewRes (.tuple #[.string T, .bool true]) W)) := Lib.hid (fun W => rWrite_text ⟨a, h, N1.data.toList, L1.data.toList, V1.data.toList, n⟩ N1 L1 V1 T W (Lib.hid (ba_of rfl)) (Lib.hid (ba_of rfl)) (Lib.hid (ba_of rfl)) sN sL sV hn2 hTD hTs true hrD)
    have hwA : Calls Tryd.prog 9 #[.agg #[.int .i64 a, .int .i64 h, .string N1, .string L1, .string V1, .int .i64 n]] w5 (NewRes (.tuple #[.string T, .int .i64 0]) w5) := write_any ⟨a, h, N1.data.toList, L1.data.toList, V1.data.toList, n⟩ N1 L1 V1 T w5 ht5 htab5 (Lib.hid (ba_of rfl)) (Lib.hid (ba_of rfl)) (Lib.hid (ba_of rfl)) hn1 hn2 hT' hTs true hrC
    have hwA' := Lib.hid hwA
    clear hwA hr hT hrC hT' hCl hDl hTD hrD
    go_wp2_with fail
    refine hwA'.out.mono ?_
    rintro e w6 ⟨rfl, k6⟩
    have hB7 := Lib.hid (hB6.out.keep k6 id)
    have hK6 := Lib.hid (hK5.out.trans k6)
    have ht6 := Lib.hid (ht5.out.keep k6)
    clear k6 hB6 hK5 ht5 htab5 hwA'
    go_wp2_with ((with_reducible refine at_slot 49 ?_); refine wpList_load_mid rfl 31 (.tmp 1) rfl g 0 rfl [.int .i64 a, .int .i64 h, .string N1, .string L1, .string V1, .int .i64 n] _ hB7.out.range Tryd.underlying31 rfl cmd6Info ?_)
    refine (hwD.out _).mono ?_
    rintro e w7 ⟨rfl, k7⟩
    have hB8 := Lib.hid (hB7.out.keep k7 id)
    have hK7 := Lib.hid (hK6.out.trans k7)
    have ht7 := Lib.hid (ht6.out.keep k7)
    clear k7 hB7 hK6 ht6 hwD
    go_wp2_with fail
    have hrd : Calls Tryd.prog 5 #[.string T] w7 fun e w' => e = .returned (.tuple #[.agg #[.int .i64 a, .int .i64 h, .string N1, .string L1, .string V1, .int .i64 n], .int .i64 0]) ∧ Keeps (fun _ => False) w7 w' := read_some T ⟨a, h, N1.data.toList, L1.data.toList, V1.data.toList, n⟩ N1 L1 V1 w7 ht7 hTs hrT (Lib.hid (ba_of rfl)) (Lib.hid (ba_of rfl)) (Lib.hid (ba_of rfl))
    refine hrd.mono ?_
    rintro e w8 ⟨rfl, k8⟩
    have hB9 := Lib.hid (hB8.out.keep k8 id)
    have hK8 := Lib.hid (hK7.out.trans k8)
    have ht8 := Lib.hid (ht7.out.keep k8)
    clear k8 hB8 hK7 ht7 hrd hrT
    obtain ⟨W9, hW9⟩ : ∃ W9, W9 = w8.alloc (.cells #[.int .i64 a, .int .i64 h, .string N1, .string L1, .string V1, .int .i64 n] 25) := ⟨_, rfl⟩
    have hBa : Hid (BlkAt W9 g 31 [.int .i64 a, .int .i64 h, .string N1, .string L1, .string V1, .int .i64 n]) := Lib.hid (by rw [hW9]; exact hB9.out.alloc _)
    have hBb : Hid (BlkAt W9 w8.heap.size 25 [.int .i64 a, .int .i64 h, .string N1, .string L1, .string V1, .int .i64 n]) := Lib.hid (by rw [hW9]; exact BlkAt.new w8 25 _)
    have hK9 : Hid (Keeps (fun _ => False) w W9) := Lib.hid (by rw [hW9]; exact hK8.out.alloc _)
    have ht9 : Hid (VerbsOk W9) := Lib.hid (by rw [hW9]; exact ht8.out.keep ((Keeps.refl (fun _ => False) _).alloc _))
    have hW9' := Lib.hid hW9
    clear hW9 hB9 hK8 ht8
    go_upto_region 7 with ((with_reducible refine at_store 7 ?_); refine wpList_store_new rfl 25 (.tmp 7) (.tmp 67) rfl _ #[.int .i64 a, .int .i64 h, .string N1, .string L1, .string V1, .int .i64 n] rfl rfl cmdInfo rfl (cmd_one _ _ _ _ _ _) ?_)
    rw [← hW9'.out]
    clear hW9'
    refine wp_region_noPanic ?_
    refine wp_region_held_drew (S := (fun W => Keeps (fun _ => False) W9 W)) (by kernel_rfl) (((Keeps.refl _ _).drew)) (fun hHeld => ?_)
    refine stepL 0 rfl (by kernel_rfl) (fun K hK => ?_)
    go_simp
    (refine (reads6_any _ (Lib.hid (ht9.out.keep hHeld))).mono ?_; rintro e w4 ⟨rfl, k4⟩; have k4' := Lib.hid k4; clear k4)
    go_wp2_with fail
    refine hK.out _ _ ((hHeld.trans k4'.out)) (fun hHeld => ?_)
    clear hK K
    try simp only [Act.put, sA, sZ, sS]
    refine tk 1 rfl ?_
    refine tk 2 rfl ?_
    refine tk 3 rfl ?_
    refine tk 4 rfl ?_
    refine tk 5 rfl ?_
    refine tk 6 rfl ?_
    refine tk 7 rfl ?_
    refine tk 8 rfl ?_
    refine tk 9 rfl ?_
    refine tk 10 rfl ?_
    refine tk 11 rfl ?_
    refine tk 12 rfl ?_
    refine tk 13 rfl ?_
    refine tk 14 rfl ?_
    refine tkL 15 rfl (yieldsIf_load_mid (by rfl) 25 (.tmp 7) rfl w8.heap.size 0 rfl [.int .i64 a, .int .i64 h, .string N1, .string L1, .string V1, .int .i64 n] _ (fun _ s => (hBb.out.keep s id).range) Tryd.underlying25 rfl cmdInfo) ?_
    refine tkL 17 rfl (yieldsIf_load_mid (by rfl) 31 (.tmp 1) rfl g 0 rfl [.int .i64 a, .int .i64 h, .string N1, .string L1, .string V1, .int .i64 n] _ (fun _ s => (hBa.out.keep s id).range) Tryd.underlying31 rfl cmd6Info) ?_
    refine stepL 16 rfl (by kernel_rfl) (fun K hK => ?_)
    go_simp
    (refine (from6_any a h N1 L1 V1 n _).mono ?_; rintro e wz ⟨rfl, kz⟩; have kz' := Lib.hid kz; clear kz)
    go_wp2_with fail
    refine hK.out _ _ ((hHeld.trans kz'.out)) (fun hHeld => ?_)
    clear hK K
    try simp only [Act.put, sA, sZ, sS]
    refine tk 18 rfl ?_
    refine tk 19 rfl ?_
    refine tk 20 rfl ?_
    refine wpAnyH_done (by kernel_rfl) (NoPanic.normal ?_) _
    have hKz := Lib.hid (hK9.out.trans hHeld)
    clear hHeld
    go_wp2_with fail
    go_ret
    exact lawEnd.mk hKz.out
  · obtain ⟨T2, hT2⟩ : ∃ T : ByteArray, T = ⟨(textD c).toArray⟩ := ⟨_, rfl⟩
    have hT2s : T2.size ≤ 1000000 := by
      rw [hT2]
      show (textD c).length ≤ 1000000
      omega
    have hrC : Hid ((false = true) ↔ readD (textC c) = some c) := Lib.hid ⟨fun e => (by cases e), fun e => absurd e hr⟩
    have hrD : Hid ((false = true) ↔ readD (textD c) = some c) := Lib.hid ⟨fun e => (by cases e), fun e => absurd ((write_iff c).2 e) hr⟩
    have hT' := Lib.hid hT; have hT2' := Lib.hid hT2
    subst hc
    have hwD : Hid (∀ W, Calls Tryd.prog 11 #[.agg #[.int .i64 a, .int .i64 h, .string N1, .string L1, .string V1, .int .i64 n]] W (NewRes (.tuple #[.string T2, .bool false]) W)) := Lib.hid (fun W => rWrite_text ⟨a, h, N1.data.toList, L1.data.toList, V1.data.toList, n⟩ N1 L1 V1 T2 W (Lib.hid (ba_of rfl)) (Lib.hid (ba_of rfl)) (Lib.hid (ba_of rfl)) sN sL sV hn2 hT2' hT2s false hrD)
    have hwA : Calls Tryd.prog 9 #[.agg #[.int .i64 a, .int .i64 h, .string N1, .string L1, .string V1, .int .i64 n]] w5 (NewRes (.tuple #[.string ⟨#[]⟩, .int .i64 1]) w5) := write_any ⟨a, h, N1.data.toList, L1.data.toList, V1.data.toList, n⟩ N1 L1 V1 T w5 ht5 htab5 (Lib.hid (ba_of rfl)) (Lib.hid (ba_of rfl)) (Lib.hid (ba_of rfl)) hn1 hn2 hT' hTs false hrC
    have hwA' := Lib.hid hwA
    clear hwA hr hT hrC hT' hCl hDl hT2 hrD hT2'
    go_wp2_with fail
    refine hwA'.out.mono ?_
    rintro e w6 ⟨rfl, k6⟩
    have hB7 := Lib.hid (hB6.out.keep k6 id)
    have hK6 := Lib.hid (hK5.out.trans k6)
    have ht6 := Lib.hid (ht5.out.keep k6)
    clear k6 hB6 hK5 ht5 htab5 hwA'
    go_wp2_with ((with_reducible refine at_slot 49 ?_); refine wpList_load_mid rfl 31 (.tmp 1) rfl g 0 rfl [.int .i64 a, .int .i64 h, .string N1, .string L1, .string V1, .int .i64 n] _ hB7.out.range Tryd.underlying31 rfl cmd6Info ?_)
    refine (hwD.out _).mono ?_
    rintro e w7 ⟨rfl, k7⟩
    have hK7 := Lib.hid (hK6.out.trans k7)
    have ht7 := Lib.hid (ht6.out.keep k7)
    clear k7 hB7 hK6 ht6 hwD
    go_wp2_with fail
    refine (reads6_any _ ht7).mono ?_
    rintro e w8 ⟨rfl, k8⟩
    have hK8 := Lib.hid (hK7.out.trans k8)
    clear k8 hK7
    go_wp2_with fail
    go_ret
    exact lawEnd.mk hK8.out
end Go.Proofs.YtfflgbpppcfamaaDoor
