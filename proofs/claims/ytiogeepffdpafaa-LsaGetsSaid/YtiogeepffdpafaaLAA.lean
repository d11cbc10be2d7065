/- LsaAlike, walked (gen_laa.py writes this). -/
import Derived.Test.YtiogeepffdpafaaLZ
namespace Go.Proofs.Ytiogeepffdpafaa
open Go.RowKit

theorem linksEq_self (l : List LinkD) : linksEq l l = true := by
  induction l with
  | nil => rfl
  | cons a l ih => simp [linksEq, linkEq, ih]
theorem numsEq_self (l : List Nat) : numsEq l l = true := by
  induction l with
  | nil => rfl
  | cons a l ih => simp [numsEq, ih]
theorem alikeB_self (l : LsaD) : alikeB l l = true := by
  unfold alikeB; simp [linksEq_self, numsEq_self, keyEq]
theorem links_lt {w : World} {v : Value} {ls : List LinkD} (h : LinksAt w v ls) : 0 < ls.length → ∀ i, v.ownBlock = some i → i < w.heap.size := by
  intro h0 i e
  obtain ⟨p, c, rfl, -, -, hr⟩ := h
  obtain ⟨g, o, rfl, hrr⟩ := hr h0
  have e : some g = some i := e
  injection e with e; subst e
  have := hrr 0 ls[0] (List.getElem?_eq_getElem h0) 0 (.int .u32 ls[0].id) rfl
  exact World.block_lt_of_cell? _ _ this
theorem nums_lt {w : World} {v : Value} {ns : List Nat} (h : NumsAt w v ns) : 0 < ns.length → ∀ i, v.ownBlock = some i → i < w.heap.size := fun h0 i e => (old_block h h0 i e).1
set_option maxRecDepth 100000 in
set_option maxHeartbeats 4000000 in
theorem lLsaAlike_walk (age1 type1 seq1 cost1 age2 type2 seq2 cost2 : Int) (id1 adv1 mask1 id2 adv2 mask2 : Nat) (links1 links2 : List LinkD) (routers1 routers2 : List Nat) (p5 p7 q5 q7 : Option Addr) (c5 c7 d5 d7 : Nat) (same : Bool) (w : World)
    (hll1 : links1.length * 24 ≤ 140737488351232) (hll2 : links2.length * 24 ≤ 140737488351232) (hrl1 : routers1.length * 4 ≤ 140737488351232) (hrl2 : routers2.length * 4 ≤ 140737488351232)
    (hL1 : Hid (LinksAt w (.slice p5 links1.length c5) links1)) (hL2 : Hid (LinksAt w (.slice q5 links2.length d5) links2)) (hR1 : Hid (NumsAt w (.slice p7 routers1.length c7) routers1)) (hR2 : Hid (NumsAt w (.slice q7 routers2.length d7) routers2)) :
    Calls Try.prog 5 #[.agg #[.int .i64 age1, .int .i64 type1, .int .u32 id1, .int .u32 adv1, .int .i64 seq1, .slice p5 links1.length c5, .int .u32 mask1, .slice p7 routers1.length c7, .int .i64 cost1], .agg #[.int .i64 age2, .int .i64 type2, .int .u32 id2, .int .u32 adv2, .int .i64 seq2, .slice q5 links2.length d5, .int .u32 mask2, .slice q7 routers2.length d7, .int .i64 cost2], .bool same] w (fun e w' => e = .returned (.bool true) ∧ Keeps (fun _ => False) w w') := by
  obtain ⟨W0, hW0⟩ : ∃ W0, W0 = (w.alloc (.cells #[.int .i64 age1, .int .i64 type1, .int .u32 id1, .int .u32 adv1, .int .i64 seq1, .slice p5 links1.length c5, .int .u32 mask1, .slice p7 routers1.length c7, .int .i64 cost1] 28)).alloc (.cells #[.int .i64 age2, .int .i64 type2, .int .u32 id2, .int .u32 adv2, .int .i64 seq2, .slice q5 links2.length d5, .int .u32 mask2, .slice q7 routers2.length d7, .int .i64 cost2] 28) := ⟨_, rfl⟩
  have hA : Hid (BlkAt W0 w.heap.size 28 [.int .i64 age1, .int .i64 type1, .int .u32 id1, .int .u32 adv1, .int .i64 seq1, .slice p5 links1.length c5, .int .u32 mask1, .slice p7 routers1.length c7, .int .i64 cost1]) := Lib.hid (by rw [hW0]; exact (BlkAt.new w 28 [.int .i64 age1, .int .i64 type1, .int .u32 id1, .int .u32 adv1, .int .i64 seq1, .slice p5 links1.length c5, .int .u32 mask1, .slice p7 routers1.length c7, .int .i64 cost1]).alloc _)
  have hB : Hid (BlkAt W0 (w.heap.size + 1) 28 [.int .i64 age2, .int .i64 type2, .int .u32 id2, .int .u32 adv2, .int .i64 seq2, .slice q5 links2.length d5, .int .u32 mask2, .slice q7 routers2.length d7, .int .i64 cost2]) := Lib.hid (by
    have := BlkAt.new (w.alloc (.cells #[.int .i64 age1, .int .i64 type1, .int .u32 id1, .int .u32 adv1, .int .i64 seq1, .slice p5 links1.length c5, .int .u32 mask1, .slice p7 routers1.length c7, .int .i64 cost1] 28)) 28 [.int .i64 age2, .int .i64 type2, .int .u32 id2, .int .u32 adv2, .int .i64 seq2, .slice q5 links2.length d5, .int .u32 mask2, .slice q7 routers2.length d7, .int .i64 cost2]
    rw [hW0]; simpa using this)
  have hK : Hid (Keeps (fun _ => False) w W0) := Lib.hid (by rw [hW0]; exact ((Keeps.refl _ _).alloc _).alloc _)
  have hgL := Lib.hid (links_lt hL1.out); have hgN := Lib.hid (nums_lt hR1.out)
  have hL1 := Lib.hid (hL1.out.keep hK.out); have hL2 := Lib.hid (hL2.out.keep hK.out)
  have hR1 := Lib.hid (hR1.out.keep hK.out); have hR2 := Lib.hid (hR2.out.keep hK.out)
  have hW0' := Lib.hid hW0
  clear hW0
  go_enter Try.func5, Try.ntmps5
  cases same with
  | false =>
    go_upto_region 5 with fail
    rw [← hW0'.out]
    obtain ⟨z, hz⟩ : ∃ z, alikeB ⟨age1, type1, id1, adv1, seq1, links1, mask1, routers1, cost1⟩ ⟨age2, type2, id2, adv2, seq2, links2, mask2, routers2, cost2⟩ = z := ⟨_, rfl⟩
    have hz' := Lib.hid hz
    clear hz
    refine wp_region_noPanic ?_
    refine wp_region_held_drew (S := (fun W => Keeps (fun _ => False) W0 W)) (by kernel_rfl) (((Keeps.refl (fun _ => False) _).drew)) (fun hHeld => ?_)
    refine stepL 0 rfl (by kernel_rfl) (fun K hK => ?_)
    go_simp
    (refine (lwPuts_any _).mono ?_; rintro e wa ⟨rfl, ka⟩)
    go_wp2_with fail
    refine hK.out _ _ ((hHeld.trans ka)) (fun hHeld => ?_)
    clear hK K
    try simp only [Act.put, List.setIfInBounds_toArray, List.set_cons_zero, List.set_cons_succ]
    refine takeL 1 (v := ?_) rfl (by kernel_rfl) (by kernel_rfl) (by kernel_rfl) (fun _ _ _ h => h) (Or.inl ⟨by rfl, ?_⟩) (by assumption) ?_
    rotate_left
    · (intro wS hSw; go_simp; try with_reducible rfl)
    try simp only [Act.put, List.setIfInBounds_toArray, List.set_cons_zero, List.set_cons_succ]
    refine takeL 2 rfl (by kernel_rfl) (by kernel_rfl) (by kernel_rfl) (fun _ _ _ h => h) (yieldsIf_load_mid (by rfl) 28 (.tmp 3) rfl w.heap.size 0 rfl [.int .i64 age1, .int .i64 type1, .int .u32 id1, .int .u32 adv1, .int .i64 seq1, .slice p5 links1.length c5, .int .u32 mask1, .slice p7 routers1.length c7, .int .i64 cost1] _ (fun _ s => (hA.out.keep s (fun f => f)).range) Try.underlying28 rfl lsaInfoR) (by assumption) ?_
    try simp only [Act.put, List.setIfInBounds_toArray, List.set_cons_zero, List.set_cons_succ]
    refine takeL 4 rfl (by kernel_rfl) (by kernel_rfl) (by kernel_rfl) (fun _ _ _ h => h) (yieldsIf_load_mid (by rfl) 28 (.tmp 4) rfl (w.heap.size + 1) 0 rfl [.int .i64 age2, .int .i64 type2, .int .u32 id2, .int .u32 adv2, .int .i64 seq2, .slice q5 links2.length d5, .int .u32 mask2, .slice q7 routers2.length d7, .int .i64 cost2] _ (fun _ s => (hB.out.keep s (fun f => f)).range) Try.underlying28 rfl lsaInfoR) (by assumption) ?_
    try simp only [Act.put, List.setIfInBounds_toArray, List.set_cons_zero, List.set_cons_succ]
    refine takeL 7 rfl (by kernel_rfl) (by kernel_rfl) (by kernel_rfl) (fun _ _ _ h => h) (yieldsIf_load_mid (by rfl) 28 (.tmp 3) rfl w.heap.size 0 rfl [.int .i64 age1, .int .i64 type1, .int .u32 id1, .int .u32 adv1, .int .i64 seq1, .slice p5 links1.length c5, .int .u32 mask1, .slice p7 routers1.length c7, .int .i64 cost1] _ (fun _ s => (hA.out.keep s (fun f => f)).range) Try.underlying28 rfl lsaInfoR) (by assumption) ?_
    try simp only [Act.put, List.setIfInBounds_toArray, List.set_cons_zero, List.set_cons_succ]
    refine takeL 8 rfl (by kernel_rfl) (by kernel_rfl) (by kernel_rfl) (fun _ _ _ h => h) (yieldsIf_load_mid (by rfl) 28 (.tmp 4) rfl (w.heap.size + 1) 0 rfl [.int .i64 age2, .int .i64 type2, .int .u32 id2, .int .u32 adv2, .int .i64 seq2, .slice q5 links2.length d5, .int .u32 mask2, .slice q7 routers2.length d7, .int .i64 cost2] _ (fun _ s => (hB.out.keep s (fun f => f)).range) Try.underlying28 rfl lsaInfoR) (by assumption) ?_
    try simp only [Act.put, List.setIfInBounds_toArray, List.set_cons_zero, List.set_cons_succ]
    refine stepL 3 rfl (by kernel_rfl) (fun K hK => ?_)
    go_simp
    (refine (lwTo_any age1 type1 seq1 cost1 id1 adv1 mask1 links1 routers1 p5 p7 c5 c7 _ (Lib.hid (hL1.out.keep hHeld)) (Lib.hid (hR1.out.keep hHeld)) hll1 hrl1).mono ?_; rintro e wb ⟨⟨u5, v5, u7, v7, rfl, tl1, tr1⟩, kb⟩)
    go_wp2_with fail
    refine hK.out _ _ ((hHeld.trans kb)) (fun hHeld => ?_)
    clear hK K
    try simp only [Act.put, List.setIfInBounds_toArray, List.set_cons_zero, List.set_cons_succ]
    refine stepL 5 rfl (by kernel_rfl) (fun K hK => ?_)
    go_simp
    (refine (lwTo_any age2 type2 seq2 cost2 id2 adv2 mask2 links2 routers2 q5 q7 d5 d7 _ (Lib.hid (hL2.out.keep hHeld)) (Lib.hid (hR2.out.keep hHeld)) hll2 hrl2).mono ?_; rintro e wc ⟨⟨x5, y5, x7, y7, rfl, tl2, tr2⟩, kc⟩)
    go_wp2_with fail
    refine hK.out _ _ ((hHeld.trans kc)) (fun hHeld => ?_)
    clear hK K
    try simp only [Act.put, List.setIfInBounds_toArray, List.set_cons_zero, List.set_cons_succ]
    refine stepL 6 rfl (by kernel_rfl) (fun K hK => ?_)
    go_simp
    (refine (lsAlike_any age1 type1 seq1 cost1 age2 type2 seq2 cost2 id1 adv1 mask1 id2 adv2 mask2 links1 links2 routers1 routers2 u5 u7 x5 x7 v5 v7 y5 y7 z _ (by omega) (by omega) (by omega) (by omega) (Lib.hid (tl1.keep kc)) (Lib.hid tl2) (Lib.hid (tr1.keep kc)) (Lib.hid tr2) hz').mono ?_; rintro e wd ⟨rfl, kd⟩)
    go_wp2_with fail
    refine hK.out _ _ ((hHeld.trans kd)) (fun hHeld => ?_)
    clear hK K
    try simp only [Act.put, List.setIfInBounds_toArray, List.set_cons_zero, List.set_cons_succ]
    clear tl1 tr1 tl2 tr2
    refine stepL 9 rfl (by kernel_rfl) (fun K hK => ?_)
    go_simp
    (refine (r10Alike_any age1 type1 seq1 cost1 age2 type2 seq2 cost2 id1 adv1 mask1 id2 adv2 mask2 links1 links2 routers1 routers2 p5 p7 q5 q7 c5 c7 d5 d7 z _ (by omega) (by omega) (by omega) (by omega) (Lib.hid (hL1.out.keep hHeld)) (Lib.hid (hL2.out.keep hHeld)) (Lib.hid (hR1.out.keep hHeld)) (Lib.hid (hR2.out.keep hHeld)) hz').mono ?_; rintro e we ⟨rfl, ke⟩)
    go_wp2_with fail
    refine hK.out _ _ ((hHeld.trans ke)) (fun hHeld => ?_)
    clear hK K
    try simp only [Act.put, List.setIfInBounds_toArray, List.set_cons_zero, List.set_cons_succ]
    refine takeL 10 (v := ?_) rfl (by kernel_rfl) (by kernel_rfl) (by kernel_rfl) (fun _ _ _ h => h) (Or.inl ⟨by rfl, ?_⟩) (by assumption) ?_
    rotate_left
    · (intro wS hSw; go_simp; try with_reducible rfl)
    try simp only [Act.put, List.setIfInBounds_toArray, List.set_cons_zero, List.set_cons_succ]
    refine takeL 11 (v := ?_) rfl (by kernel_rfl) (by kernel_rfl) (by kernel_rfl) (fun _ _ _ h => h) (Or.inl ⟨by rfl, ?_⟩) (by assumption) ?_
    rotate_left
    · (intro wS hSw; go_simp; try with_reducible rfl)
    try simp only [Act.put, List.setIfInBounds_toArray, List.set_cons_zero, List.set_cons_succ]
    refine takeL 12 (v := ?_) rfl (by kernel_rfl) (by kernel_rfl) (by kernel_rfl) (fun _ _ _ h => h) (Or.inl ⟨by rfl, ?_⟩) (by assumption) ?_
    rotate_left
    · (intro wS hSw; go_simp; try with_reducible rfl)
    try simp only [Act.put, List.setIfInBounds_toArray, List.set_cons_zero, List.set_cons_succ]
    refine takeL 13 rfl (by kernel_rfl) (by kernel_rfl) (by kernel_rfl) (fun _ _ _ h => h) (yieldsIf_load_mid (by rfl) 28 (.tmp 3) rfl w.heap.size 0 rfl [.int .i64 age1, .int .i64 type1, .int .u32 id1, .int .u32 adv1, .int .i64 seq1, .slice p5 links1.length c5, .int .u32 mask1, .slice p7 routers1.length c7, .int .i64 cost1] _ (fun _ s => (hA.out.keep s (fun f => f)).range) Try.underlying28 rfl lsaInfoR) (by assumption) ?_
    try simp only [Act.put, List.setIfInBounds_toArray, List.set_cons_zero, List.set_cons_succ]
    refine takeL 15 rfl (by kernel_rfl) (by kernel_rfl) (by kernel_rfl) (fun _ _ _ h => h) (yieldsIf_load_mid (by rfl) 28 (.tmp 3) rfl w.heap.size 0 rfl [.int .i64 age1, .int .i64 type1, .int .u32 id1, .int .u32 adv1, .int .i64 seq1, .slice p5 links1.length c5, .int .u32 mask1, .slice p7 routers1.length c7, .int .i64 cost1] _ (fun _ s => (hA.out.keep s (fun f => f)).range) Try.underlying28 rfl lsaInfoR) (by assumption) ?_
    try simp only [Act.put, List.setIfInBounds_toArray, List.set_cons_zero, List.set_cons_succ]
    refine stepL 14 rfl (by kernel_rfl) (fun K hK => ?_)
    go_simp
    (refine (lwTo_any age1 type1 seq1 cost1 id1 adv1 mask1 links1 routers1 p5 p7 c5 c7 _ (Lib.hid (hL1.out.keep hHeld)) (Lib.hid (hR1.out.keep hHeld)) hll1 hrl1).mono ?_; rintro e wf ⟨⟨a5, b5, a7, b7, rfl, tl1, tr1⟩, kf⟩)
    go_wp2_with fail
    refine hK.out _ _ ((hHeld.trans kf)) (fun hHeld => ?_)
    clear hK K
    try simp only [Act.put, List.setIfInBounds_toArray, List.set_cons_zero, List.set_cons_succ]
    refine stepL 16 rfl (by kernel_rfl) (fun K hK => ?_)
    go_simp
    (refine (lwTo_any age1 type1 seq1 cost1 id1 adv1 mask1 links1 routers1 p5 p7 c5 c7 _ (Lib.hid (hL1.out.keep hHeld)) (Lib.hid (hR1.out.keep hHeld)) hll1 hrl1).mono ?_; rintro e wg ⟨⟨e5, f5, e7, f7, rfl, tl2, tr2⟩, kg⟩)
    go_wp2_with fail
    refine hK.out _ _ ((hHeld.trans kg)) (fun hHeld => ?_)
    clear hK K
    try simp only [Act.put, List.setIfInBounds_toArray, List.set_cons_zero, List.set_cons_succ]
    refine stepL 17 rfl (by kernel_rfl) (fun K hK => ?_)
    go_simp
    (refine (lsAlike_any age1 type1 seq1 cost1 age1 type1 seq1 cost1 id1 adv1 mask1 id1 adv1 mask1 links1 links1 routers1 routers1 a5 a7 e5 e7 b5 b7 f5 f7 true _ (by omega) (by omega) (by omega) (by omega) (Lib.hid (tl1.keep kg)) (Lib.hid tl2) (Lib.hid (tr1.keep kg)) (Lib.hid tr2) (Lib.hid (alikeB_self _))).mono ?_; rintro e wh ⟨rfl, kh⟩)
    go_wp2_with fail
    refine hK.out _ _ ((hHeld.trans kh)) (fun hHeld => ?_)
    clear hK K
    try simp only [Act.put, List.setIfInBounds_toArray, List.set_cons_zero, List.set_cons_succ]
    refine takeL 18 (v := ?_) rfl (by kernel_rfl) (by kernel_rfl) (by kernel_rfl) (fun _ _ _ h => h) (Or.inl ⟨by rfl, ?_⟩) (by assumption) ?_
    rotate_left
    · (intro wS hSw; go_simp; try with_reducible rfl)
    try simp only [Act.put, List.setIfInBounds_toArray, List.set_cons_zero, List.set_cons_succ]
    refine takeL 19 (v := ?_) rfl (by kernel_rfl) (by kernel_rfl) (by kernel_rfl) (fun _ _ _ h => h) (Or.inl ⟨by rfl, ?_⟩) (by assumption) ?_
    rotate_left
    · (intro wS hSw; go_simp; try with_reducible rfl)
    try simp only [Act.put, List.setIfInBounds_toArray, List.set_cons_zero, List.set_cons_succ]
    refine wpAnyH_done (by kernel_rfl) (NoPanic.normal ?_) _
    have hfin := Lib.hid (hK.out.trans hHeld)
    clear hHeld tl1 tr1 tl2 tr2
    go_wp2_with fail
    go_ret
    exact ⟨rfl, hfin.out⟩
  | true =>
    go_upto_region 2 with fail
    rw [← hW0'.out]
    clear hW0' hL2 hR2
    refine wp_region_noPanic ?_
    refine wp_region_held_drew (S := (fun W => Keeps (fun _ => False) W0 W)) (by kernel_rfl) (((Keeps.refl (fun _ => False) _).drew)) (fun hHeld => ?_)
    refine takeL 0 (v := ?_) rfl (by kernel_rfl) (by kernel_rfl) (by kernel_rfl) (fun _ _ _ h => h) (Or.inl ⟨by rfl, ?_⟩) (by assumption) ?_
    rotate_left
    · (intro wS hSw; go_simp; try with_reducible rfl)
    try simp only [Act.put, List.setIfInBounds_toArray, List.set_cons_zero, List.set_cons_succ]
    refine takeL 1 rfl (by kernel_rfl) (by kernel_rfl) (by kernel_rfl) (fun _ _ _ h => h) (yieldsIf_load_cell (by rfl) 3 (.tmp 10) rfl (w.heap.size + 1) 0 rfl _ (fun _ s => (hB.out.keep s (fun f => f)).cell 0 (.int .i64 age2) rfl) (fun w s => load_int w _ _ _ s)) (by assumption) ?_
    try simp only [Act.put, List.setIfInBounds_toArray, List.set_cons_zero, List.set_cons_succ]
    refine takeL 2 (v := ?_) rfl (by kernel_rfl) (by kernel_rfl) (by kernel_rfl) (fun _ _ _ h => h) (Or.inl ⟨by rfl, ?_⟩) (by assumption) ?_
    rotate_left
    · (intro wS hSw; go_simp; try with_reducible rfl)
    try simp only [Act.put, List.setIfInBounds_toArray, List.set_cons_zero, List.set_cons_succ]
    refine takeL 3 rfl (by kernel_rfl) (by kernel_rfl) (by kernel_rfl) (fun _ _ _ h => h) (yieldsIf_load_cell (by rfl) 3 (.tmp 12) rfl (w.heap.size + 1) 4 rfl _ (fun _ s => (hB.out.keep s (fun f => f)).cell 4 (.int .i64 seq2) rfl) (fun w s => load_int w _ _ _ s)) (by assumption) ?_
    try simp only [Act.put, List.setIfInBounds_toArray, List.set_cons_zero, List.set_cons_succ]
    refine takeL 4 (v := ?_) rfl (by kernel_rfl) (by kernel_rfl) (by kernel_rfl) (fun _ _ _ h => h) (Or.inl ⟨by rfl, ?_⟩) (by assumption) ?_
    rotate_left
    · (intro wS hSw; go_simp; try with_reducible rfl)
    try simp only [Act.put, List.setIfInBounds_toArray, List.set_cons_zero, List.set_cons_succ]
    refine takeL 5 (v := ?_) rfl (by kernel_rfl) (by kernel_rfl) (by kernel_rfl) (fun _ _ _ h => h) (Or.inl ⟨by rfl, ?_⟩) (by assumption) ?_
    rotate_left
    · (intro wS hSw; go_simp; try with_reducible rfl)
    try simp only [Act.put, List.setIfInBounds_toArray, List.set_cons_zero, List.set_cons_succ]
    refine wpAnyH_done (by kernel_rfl) (NoPanic.normal ?_) _
    have hA1 := Lib.hid (hA.out.keep hHeld (fun f => f)); have hB1 := Lib.hid (hB.out.keep hHeld (fun f => f)); have hK1 := Lib.hid (hK.out.trans hHeld); have hLx := Lib.hid (hL1.out.keep hHeld); have hRx := Lib.hid (hR1.out.keep hHeld)
    clear hHeld hA hB hK hL1 hR1
    obtain ⟨W1, hW1⟩ : ∃ W1, W1 = W0.drew := ⟨_, rfl⟩
    rw [← hW1] at hA1 hB1 hK1 hLx hRx ⊢
    clear hW1
    go_upto_region 4 with (first | ((with_reducible refine at_slot 14 ?_); refine wpList_load_mid rfl 28 (.tmp 3) rfl w.heap.size 0 rfl [.int .i64 age1, .int .i64 type1, .int .u32 id1, .int .u32 adv1, .int .i64 seq1, .slice p5 links1.length c5, .int .u32 mask1, .slice p7 routers1.length c7, .int .i64 cost1] _ hA1.out.range Try.underlying28 rfl lsaInfoR ?_) | ((with_reducible refine at_store 4 ?_); refine wpList_store_mid rfl 28 (.tmp 4) (.tmp 14) rfl (w.heap.size + 1) 0 #[.int .i64 age1, .int .i64 type1, .int .u32 id1, .int .u32 adv1, .int .i64 seq1, .slice p5 links1.length c5, .int .u32 mask1, .slice p7 routers1.length c7, .int .i64 cost1] rfl rfl (BlkAt.there hB1.out 0 9 (Nat.le_refl 9)) lsaInfoR (lsa_one _ _ _ _ _ _ _ _ _ (slice_one _ _ _) (slice_one _ _ _)) ?_))
    obtain ⟨W2, hW2⟩ : ∃ W2, W2 = W1.setCells (w.heap.size + 1) 0 [.int .i64 age1, .int .i64 type1, .int .u32 id1, .int .u32 adv1, .int .i64 seq1, .slice p5 links1.length c5, .int .u32 mask1, .slice p7 routers1.length c7, .int .i64 cost1] := ⟨_, rfl⟩
    have hk2 : Keeps (fun k => k = w.heap.size + 1) W1 W2 := by rw [hW2]; exact Keeps.setCells (F := fun k => k = w.heap.size + 1) (.inl rfl) _ _ _ (Keeps.refl _ _)
    have hB2 : Hid (BlkAt W2 (w.heap.size + 1) 28 [.int .i64 age1, .int .i64 type1, .int .u32 id1, .int .u32 adv1, .int .i64 seq1, .slice p5 links1.length c5, .int .u32 mask1, .slice p7 routers1.length c7, .int .i64 cost1]) := Lib.hid (by rw [hW2]; exact (((((((((hB1.out.put 0 _).put 1 _).put 2 _).put 3 _).put 4 _).put 5 _).put 6 _).put 7 _).put 8 _))
    have hA2 := Lib.hid (hA1.out.keep hk2 (by omega))
    have hK2 := Lib.hid (hK1.out.trans' hk2 (fun i e => .inr (by rw [e]; omega)))
    have hL2 := Lib.hid (hLx.out.keepF hk2 (fun h0 i e f => by have := hgL.out h0 i e; omega))
    have hR2 := Lib.hid (hRx.out.keepF hk2 (fun h0 i e f => by have := hgN.out h0 i e; omega))
    have hc0 := hB2.out.cell 0 (.int .i64 age1) rfl
    have hf0 := hB2.out.frozen 0
    have hB3 := hB2.out.put 0 (.int .i64 age2)
    have hc4 : (W2.setCell ⟨w.heap.size + 1, 0, none⟩ (.int .i64 age2)).cell? ⟨w.heap.size + 1, 4, none⟩ = some (.int .i64 seq1) := hB3.cell 4 (.int .i64 seq1) rfl
    have hf4 := hB3.frozen 4
    obtain ⟨W4, hW4⟩ : ∃ W4, W4 = (W2.setCell ⟨w.heap.size + 1, 0, none⟩ (.int .i64 age2)).setCell ⟨w.heap.size + 1, 4, none⟩ (.int .i64 seq2) := ⟨_, rfl⟩
    have hB4 : Hid (BlkAt W4 (w.heap.size + 1) 28 [.int .i64 age2, .int .i64 type1, .int .u32 id1, .int .u32 adv1, .int .i64 seq2, .slice p5 links1.length c5, .int .u32 mask1, .slice p7 routers1.length c7, .int .i64 cost1]) := Lib.hid (by rw [hW4]; exact hB3.put 4 _)
    have hk4 : Keeps (fun k => k = w.heap.size + 1) W2 W4 := by rw [hW4]; exact ((Keeps.refl (fun k => k = w.heap.size + 1) W2).setCell (.inl rfl) _).setCell (.inl rfl) _
    have hA4 := Lib.hid (hA2.out.keep hk4 (by omega))
    have hK4 := Lib.hid (hK2.out.trans' hk4 (fun i e => .inr (by rw [e]; omega)))
    have hL4 := Lib.hid (hL2.out.keepF hk4 (fun h0 i e f => by have := hgL.out h0 i e; omega))
    have hR4 := Lib.hid (hR2.out.keepF hk4 (fun h0 i e f => by have := hgN.out h0 i e; omega))
    have hW4' := Lib.hid hW4
    rw [← hW2]
    clear hk2 hk4 hB3 hW4 hA2 hB2 hK2 hL2 hR2 hA1 hB1 hK1 hLx hRx hW2
    go_upto_region 5 with fail
    rw [← hW4'.out]
    clear hc0 hf0 hc4 hf4 hW4'
    obtain ⟨z, hz⟩ : ∃ z, alikeB ⟨age1, type1, id1, adv1, seq1, links1, mask1, routers1, cost1⟩ ⟨age2, type1, id1, adv1, seq2, links1, mask1, routers1, cost1⟩ = z := ⟨_, rfl⟩
    have hz' := Lib.hid hz
    clear hz
    refine wp_region_noPanic ?_
    refine wp_region_held_drew (S := (fun W => Keeps (fun _ => False) W4 W)) (by kernel_rfl) (((Keeps.refl (fun _ => False) _).drew)) (fun hHeld => ?_)
    refine stepL 0 rfl (by kernel_rfl) (fun K hK => ?_)
    go_simp
    (refine (lwPuts_any _).mono ?_; rintro e wa ⟨rfl, ka⟩)
    go_wp2_with fail
    refine hK.out _ _ ((hHeld.trans ka)) (fun hHeld => ?_)
    clear hK K
    try simp only [Act.put, List.setIfInBounds_toArray, List.set_cons_zero, List.set_cons_succ]
    refine takeL 1 (v := ?_) rfl (by kernel_rfl) (by kernel_rfl) (by kernel_rfl) (fun _ _ _ h => h) (Or.inl ⟨by rfl, ?_⟩) (by assumption) ?_
    rotate_left
    · (intro wS hSw; go_simp; try with_reducible rfl)
    try simp only [Act.put, List.setIfInBounds_toArray, List.set_cons_zero, List.set_cons_succ]
    refine takeL 2 rfl (by kernel_rfl) (by kernel_rfl) (by kernel_rfl) (fun _ _ _ h => h) (yieldsIf_load_mid (by rfl) 28 (.tmp 3) rfl w.heap.size 0 rfl [.int .i64 age1, .int .i64 type1, .int .u32 id1, .int .u32 adv1, .int .i64 seq1, .slice p5 links1.length c5, .int .u32 mask1, .slice p7 routers1.length c7, .int .i64 cost1] _ (fun _ s => (hA4.out.keep s (fun f => f)).range) Try.underlying28 rfl lsaInfoR) (by assumption) ?_
    try simp only [Act.put, List.setIfInBounds_toArray, List.set_cons_zero, List.set_cons_succ]
    refine takeL 4 rfl (by kernel_rfl) (by kernel_rfl) (by kernel_rfl) (fun _ _ _ h => h) (yieldsIf_load_mid (by rfl) 28 (.tmp 4) rfl (w.heap.size + 1) 0 rfl [.int .i64 age2, .int .i64 type1, .int .u32 id1, .int .u32 adv1, .int .i64 seq2, .slice p5 links1.length c5, .int .u32 mask1, .slice p7 routers1.length c7, .int .i64 cost1] _ (fun _ s => (hB4.out.keep s (fun f => f)).range) Try.underlying28 rfl lsaInfoR) (by assumption) ?_
    try simp only [Act.put, List.setIfInBounds_toArray, List.set_cons_zero, List.set_cons_succ]
    refine takeL 7 rfl (by kernel_rfl) (by kernel_rfl) (by kernel_rfl) (fun _ _ _ h => h) (yieldsIf_load_mid (by rfl) 28 (.tmp 3) rfl w.heap.size 0 rfl [.int .i64 age1, .int .i64 type1, .int .u32 id1, .int .u32 adv1, .int .i64 seq1, .slice p5 links1.length c5, .int .u32 mask1, .slice p7 routers1.length c7, .int .i64 cost1] _ (fun _ s => (hA4.out.keep s (fun f => f)).range) Try.underlying28 rfl lsaInfoR) (by assumption) ?_
    try simp only [Act.put, List.setIfInBounds_toArray, List.set_cons_zero, List.set_cons_succ]
    refine takeL 8 rfl (by kernel_rfl) (by kernel_rfl) (by kernel_rfl) (fun _ _ _ h => h) (yieldsIf_load_mid (by rfl) 28 (.tmp 4) rfl (w.heap.size + 1) 0 rfl [.int .i64 age2, .int .i64 type1, .int .u32 id1, .int .u32 adv1, .int .i64 seq2, .slice p5 links1.length c5, .int .u32 mask1, .slice p7 routers1.length c7, .int .i64 cost1] _ (fun _ s => (hB4.out.keep s (fun f => f)).range) Try.underlying28 rfl lsaInfoR) (by assumption) ?_
    try simp only [Act.put, List.setIfInBounds_toArray, List.set_cons_zero, List.set_cons_succ]
    refine stepL 3 rfl (by kernel_rfl) (fun K hK => ?_)
    go_simp
    (refine (lwTo_any age1 type1 seq1 cost1 id1 adv1 mask1 links1 routers1 p5 p7 c5 c7 _ (Lib.hid (hL4.out.keep hHeld)) (Lib.hid (hR4.out.keep hHeld)) hll1 hrl1).mono ?_; rintro e wb ⟨⟨u5, v5, u7, v7, rfl, tl1, tr1⟩, kb⟩)
    go_wp2_with fail
    refine hK.out _ _ ((hHeld.trans kb)) (fun hHeld => ?_)
    clear hK K
    try simp only [Act.put, List.setIfInBounds_toArray, List.set_cons_zero, List.set_cons_succ]
    refine stepL 5 rfl (by kernel_rfl) (fun K hK => ?_)
    go_simp
    (refine (lwTo_any age2 type1 seq2 cost1 id1 adv1 mask1 links1 routers1 p5 p7 c5 c7 _ (Lib.hid (hL4.out.keep hHeld)) (Lib.hid (hR4.out.keep hHeld)) hll1 hrl1).mono ?_; rintro e wc ⟨⟨x5, y5, x7, y7, rfl, tl2, tr2⟩, kc⟩)
    go_wp2_with fail
    refine hK.out _ _ ((hHeld.trans kc)) (fun hHeld => ?_)
    clear hK K
    try simp only [Act.put, List.setIfInBounds_toArray, List.set_cons_zero, List.set_cons_succ]
    refine stepL 6 rfl (by kernel_rfl) (fun K hK => ?_)
    go_simp
    (refine (lsAlike_any age1 type1 seq1 cost1 age2 type1 seq2 cost1 id1 adv1 mask1 id1 adv1 mask1 links1 links1 routers1 routers1 u5 u7 x5 x7 v5 v7 y5 y7 z _ (by omega) (by omega) (by omega) (by omega) (Lib.hid (tl1.keep kc)) (Lib.hid tl2) (Lib.hid (tr1.keep kc)) (Lib.hid tr2) hz').mono ?_; rintro e wd ⟨rfl, kd⟩)
    go_wp2_with fail
    refine hK.out _ _ ((hHeld.trans kd)) (fun hHeld => ?_)
    clear hK K
    try simp only [Act.put, List.setIfInBounds_toArray, List.set_cons_zero, List.set_cons_succ]
    clear tl1 tr1 tl2 tr2
    refine stepL 9 rfl (by kernel_rfl) (fun K hK => ?_)
    go_simp
    (refine (r10Alike_any age1 type1 seq1 cost1 age2 type1 seq2 cost1 id1 adv1 mask1 id1 adv1 mask1 links1 links1 routers1 routers1 p5 p7 p5 p7 c5 c7 c5 c7 z _ (by omega) (by omega) (by omega) (by omega) (Lib.hid (hL4.out.keep hHeld)) (Lib.hid (hL4.out.keep hHeld)) (Lib.hid (hR4.out.keep hHeld)) (Lib.hid (hR4.out.keep hHeld)) hz').mono ?_; rintro e we ⟨rfl, ke⟩)
    go_wp2_with fail
    refine hK.out _ _ ((hHeld.trans ke)) (fun hHeld => ?_)
    clear hK K
    try simp only [Act.put, List.setIfInBounds_toArray, List.set_cons_zero, List.set_cons_succ]
    refine takeL 10 (v := ?_) rfl (by kernel_rfl) (by kernel_rfl) (by kernel_rfl) (fun _ _ _ h => h) (Or.inl ⟨by rfl, ?_⟩) (by assumption) ?_
    rotate_left
    · (intro wS hSw; go_simp; try with_reducible rfl)
    try simp only [Act.put, List.setIfInBounds_toArray, List.set_cons_zero, List.set_cons_succ]
    refine takeL 11 (v := ?_) rfl (by kernel_rfl) (by kernel_rfl) (by kernel_rfl) (fun _ _ _ h => h) (Or.inl ⟨by rfl, ?_⟩) (by assumption) ?_
    rotate_left
    · (intro wS hSw; go_simp; try with_reducible rfl)
    try simp only [Act.put, List.setIfInBounds_toArray, List.set_cons_zero, List.set_cons_succ]
    refine takeL 12 (v := ?_) rfl (by kernel_rfl) (by kernel_rfl) (by kernel_rfl) (fun _ _ _ h => h) (Or.inl ⟨by rfl, ?_⟩) (by assumption) ?_
    rotate_left
    · (intro wS hSw; go_simp; try with_reducible rfl)
    try simp only [Act.put, List.setIfInBounds_toArray, List.set_cons_zero, List.set_cons_succ]
    refine takeL 13 rfl (by kernel_rfl) (by kernel_rfl) (by kernel_rfl) (fun _ _ _ h => h) (yieldsIf_load_mid (by rfl) 28 (.tmp 3) rfl w.heap.size 0 rfl [.int .i64 age1, .int .i64 type1, .int .u32 id1, .int .u32 adv1, .int .i64 seq1, .slice p5 links1.length c5, .int .u32 mask1, .slice p7 routers1.length c7, .int .i64 cost1] _ (fun _ s => (hA4.out.keep s (fun f => f)).range) Try.underlying28 rfl lsaInfoR) (by assumption) ?_
    try simp only [Act.put, List.setIfInBounds_toArray, List.set_cons_zero, List.set_cons_succ]
    refine takeL 15 rfl (by kernel_rfl) (by kernel_rfl) (by kernel_rfl) (fun _ _ _ h => h) (yieldsIf_load_mid (by rfl) 28 (.tmp 3) rfl w.heap.size 0 rfl [.int .i64 age1, .int .i64 type1, .int .u32 id1, .int .u32 adv1, .int .i64 seq1, .slice p5 links1.length c5, .int .u32 mask1, .slice p7 routers1.length c7, .int .i64 cost1] _ (fun _ s => (hA4.out.keep s (fun f => f)).range) Try.underlying28 rfl lsaInfoR) (by assumption) ?_
    try simp only [Act.put, List.setIfInBounds_toArray, List.set_cons_zero, List.set_cons_succ]
    refine stepL 14 rfl (by kernel_rfl) (fun K hK => ?_)
    go_simp
    (refine (lwTo_any age1 type1 seq1 cost1 id1 adv1 mask1 links1 routers1 p5 p7 c5 c7 _ (Lib.hid (hL4.out.keep hHeld)) (Lib.hid (hR4.out.keep hHeld)) hll1 hrl1).mono ?_; rintro e wf ⟨⟨a5, b5, a7, b7, rfl, tl1, tr1⟩, kf⟩)
    go_wp2_with fail
    refine hK.out _ _ ((hHeld.trans kf)) (fun hHeld => ?_)
    clear hK K
    try simp only [Act.put, List.setIfInBounds_toArray, List.set_cons_zero, List.set_cons_succ]
    refine stepL 16 rfl (by kernel_rfl) (fun K hK => ?_)
    go_simp
    (refine (lwTo_any age1 type1 seq1 cost1 id1 adv1 mask1 links1 routers1 p5 p7 c5 c7 _ (Lib.hid (hL4.out.keep hHeld)) (Lib.hid (hR4.out.keep hHeld)) hll1 hrl1).mono ?_; rintro e wg ⟨⟨e5, f5, e7, f7, rfl, tl2, tr2⟩, kg⟩)
    go_wp2_with fail
    refine hK.out _ _ ((hHeld.trans kg)) (fun hHeld => ?_)
    clear hK K
    try simp only [Act.put, List.setIfInBounds_toArray, List.set_cons_zero, List.set_cons_succ]
    refine stepL 17 rfl (by kernel_rfl) (fun K hK => ?_)
    go_simp
    (refine (lsAlike_any age1 type1 seq1 cost1 age1 type1 seq1 cost1 id1 adv1 mask1 id1 adv1 mask1 links1 links1 routers1 routers1 a5 a7 e5 e7 b5 b7 f5 f7 true _ (by omega) (by omega) (by omega) (by omega) (Lib.hid (tl1.keep kg)) (Lib.hid tl2) (Lib.hid (tr1.keep kg)) (Lib.hid tr2) (Lib.hid (alikeB_self _))).mono ?_; rintro e wh ⟨rfl, kh⟩)
    go_wp2_with fail
    refine hK.out _ _ ((hHeld.trans kh)) (fun hHeld => ?_)
    clear hK K
    try simp only [Act.put, List.setIfInBounds_toArray, List.set_cons_zero, List.set_cons_succ]
    refine takeL 18 (v := ?_) rfl (by kernel_rfl) (by kernel_rfl) (by kernel_rfl) (fun _ _ _ h => h) (Or.inl ⟨by rfl, ?_⟩) (by assumption) ?_
    rotate_left
    · (intro wS hSw; go_simp; try with_reducible rfl)
    try simp only [Act.put, List.setIfInBounds_toArray, List.set_cons_zero, List.set_cons_succ]
    refine takeL 19 (v := ?_) rfl (by kernel_rfl) (by kernel_rfl) (by kernel_rfl) (fun _ _ _ h => h) (Or.inl ⟨by rfl, ?_⟩) (by assumption) ?_
    rotate_left
    · (intro wS hSw; go_simp; try with_reducible rfl)
    try simp only [Act.put, List.setIfInBounds_toArray, List.set_cons_zero, List.set_cons_succ]
    refine wpAnyH_done (by kernel_rfl) (NoPanic.normal ?_) _
    have hfin := Lib.hid (hK4.out.trans hHeld)
    clear hHeld tl1 tr1 tl2 tr2
    go_wp2_with fail
    go_ret
    exact ⟨rfl, hfin.out⟩
end Go.Proofs.Ytiogeepffdpafaa
