/- elect.Elect, walked (gen_ele.py writes this). -/
import Derived.Test.YtdjbgjcniacgdaaELD
namespace Go.Proofs.Ytdjbgjcniacgdaa
open Go.RowKit

def newV (v : VotD) (a b : Nat) : VotD := ⟨v.id, v.addr, v.prio, a, b⟩
def stays (v : VotD) (x y : Nat) : Bool := (decide (v.dr = v.addr) == decide (x = v.addr)) && (decide (v.bdr = v.addr) == decide (y = v.addr))
def electX (l : List VotD) : Nat := match l with
  | [] => 0
  | v :: r => if stays v (drD l) (bdrD l) then drD l else drD (newV v (drD l) (bdrD l) :: r)
def electY (l : List VotD) : Nat := match l with
  | [] => 0
  | v :: r => if stays v (drD l) (bdrD l) then bdrD l else bdrD (newV v (drD l) (bdrD l) :: r)
set_option maxRecDepth 100000 in
set_option maxHeartbeats 1000000 in
theorem elElect_any (sl : Value) (v : VotD) (r : List VotD) (hl : r.length + 1 ≤ 1000000) (x y : Nat) (w : World) (h : Hid (VotersAt w sl (v :: r))) (hx : Hid (electX (v :: r) = x)) (hy : Hid (electY (v :: r) = y)) :
    Calls Try.prog 8 #[sl] w (fun e w' => e = .returned (.tuple #[.int .u32 x, .int .u32 y]) ∧ Keeps (fun _ => False) w w') := by
  obtain ⟨a, ha⟩ : ∃ a, drD (v :: r) = a := ⟨_, rfl⟩
  obtain ⟨b, hb⟩ : ∃ b, bdrD (v :: r) = b := ⟨_, rfl⟩
  obtain ⟨p1, hp1⟩ : ∃ z, decide (v.dr = v.addr) = z := ⟨_, rfl⟩
  obtain ⟨q1, hq1⟩ : ∃ z, decide (a = v.addr) = z := ⟨_, rfl⟩
  obtain ⟨p2, hp2⟩ : ∃ z, decide (v.bdr = v.addr) = z := ⟨_, rfl⟩
  obtain ⟨q2, hq2⟩ : ∃ z, decide (b = v.addr) = z := ⟨_, rfl⟩
  have hst : stays v a b = ((p1 == q1) && (p2 == q2)) := by unfold stays; rw [hp1, hq1, hp2, hq2]
  have hx1 : Hid ((if (p1 == q1) && (p2 == q2) then a else drD (newV v a b :: r)) = x) := Lib.hid (by rw [← hst, ← hx.out, ← ha, ← hb]; rfl)
  have hy1 : Hid ((if (p1 == q1) && (p2 == q2) then b else bdrD (newV v a b :: r)) = y) := Lib.hid (by rw [← hst, ← hy.out, ← ha, ← hb]; rfl)
  have ha' := Lib.hid ha; have hb' := Lib.hid hb; have hp1' := Lib.hid hp1; have hp2' := Lib.hid hp2
  have e1 := nat_beq hq1; have e2 := nat_beq hq2
  clear ha hb hx hy hst hp1 hp2 hq1 hq2
  obtain ⟨p, c, rfl, hp, hc, hrow⟩ := h.out
  obtain ⟨g, o, rfl, hrow1⟩ := hrow (Nat.succ_pos _)
  have hrow0 : Hid (w.rangeAt g o [.int .u32 v.id, .int .u32 v.addr, .int .i64 v.prio, .int .u32 v.dr, .int .u32 v.bdr]) := Lib.hid (by have := hrow1 0 v rfl; rw [Nat.zero_mul, Nat.add_zero] at this; exact this)
  have hlen : (v :: r).length = r.length + 1 := rfl
  have hc' : r.length + 1 ≤ c := by rw [← hlen]; exact hc
  rw [hlen] at h ⊢
  clear hrow hrow1 hc hp
  go_enter Try.func8, Try.ntmps8
  go_wp2_with fail
  refine (elRound_any _ (v :: r) (by rw [hlen]; exact hl) a b _ h ha' hb').mono ?_
  rintro e w1 ⟨rfl, k1⟩
  have h1 := Lib.hid (h.out.keep (k1.alloc (.cells #[.int .u32 v.id, .int .u32 v.addr, .int .i64 v.prio, .int .u32 v.dr, .int .u32 v.bdr] 26)))
  have hrow1 := Lib.hid (k1.rangeAt hrow0.out id)
  have hB : Hid (Boxed w1.heap.size [.int .u32 v.id, .int .u32 v.addr, .int .i64 v.prio, .int .u32 v.dr, .int .u32 v.bdr] w (w1.alloc (.cells #[.int .u32 v.id, .int .u32 v.addr, .int .i64 v.prio, .int .u32 v.dr, .int .u32 v.bdr] 26))) := Lib.hid ⟨(boxed_new w1 [.int .u32 v.id, .int .u32 v.addr, .int .i64 v.prio, .int .u32 v.dr, .int .u32 v.bdr] 26).r, k1.alloc _⟩
  clear k1 h hrow0
  go_upto_region 5 with (first | ((with_reducible refine at_slot 18 ?_); refine wpList_load_mid rfl 26 (.tmp 17) rfl g o rfl _ _ hrow1.out Try.underlying26 rfl voteInfo ?_) | ((with_reducible refine at_store 6 ?_); refine wpList_store_new rfl 26 (.tmp 6) (.tmp 18) rfl _ _ rfl rfl voteInfo rfl rfl ?_))
  obtain ⟨WB, hWB⟩ : ∃ WB, WB = w1.alloc (.cells #[.int .u32 v.id, .int .u32 v.addr, .int .i64 v.prio, .int .u32 v.dr, .int .u32 v.bdr] 26) := ⟨_, rfl⟩
  rw [← hWB] at hB h1 ⊢
  clear hWB
  refine wp_region_noPanic ?_
  refine wp_region_held_drew (S := (fun W => Keeps (fun _ => False) WB W)) (by kernel_rfl) (((Keeps.refl (fun _ => False) _).drew)) (fun hHeld => ?_)
  refine takeL 0 rfl (by kernel_rfl) (by kernel_rfl) (by kernel_rfl) (fun _ _ _ h => h) (yieldsIf_load_mid (by rfl) 26 (.tmp 6) rfl w1.heap.size 0 rfl [.int .u32 v.id, .int .u32 v.addr, .int .i64 v.prio, .int .u32 v.dr, .int .u32 v.bdr] _ (fun _ s => (hB.out.next s).r) Try.underlying26 rfl voteInfo) (by assumption) ?_
  try simp only [Act.put, List.setIfInBounds_toArray, List.set_cons_zero, List.set_cons_succ]
  refine takeL 2 (v := ?_) rfl (by kernel_rfl) (by kernel_rfl) (by kernel_rfl) (fun _ _ _ h => h) (Or.inl ⟨by rfl, ?_⟩) (by assumption) ?_
  rotate_left
  · (intro wS hSw; go_simp; try with_reducible rfl)
  try simp only [Act.put, List.setIfInBounds_toArray, List.set_cons_zero, List.set_cons_succ]
  refine takeL 3 (v := ?_) rfl (by kernel_rfl) (by kernel_rfl) (by kernel_rfl) (fun _ _ _ h => h) (Or.inl ⟨by rfl, ?_⟩) (by assumption) ?_
  rotate_left
  · (intro wS hSw; go_simp; try with_reducible rfl)
  try simp only [Act.put, List.setIfInBounds_toArray, List.set_cons_zero, List.set_cons_succ]
  refine takeL 4 rfl (by kernel_rfl) (by kernel_rfl) (by kernel_rfl) (fun _ _ _ h => h) (yieldsIf_load_cell (by rfl) 24 (.tmp 22) rfl w1.heap.size 1 rfl _ (fun _ s => (hB.out.next s).cell 1 (.int .u32 v.addr) rfl) (fun w s => load_u32v w _ _ _ s)) (by assumption) ?_
  try simp only [Act.put, List.setIfInBounds_toArray, List.set_cons_zero, List.set_cons_succ]
  refine takeL 5 (v := ?_) rfl (by kernel_rfl) (by kernel_rfl) (by kernel_rfl) (fun _ _ _ h => h) (Or.inl ⟨by rfl, ?_⟩) (by assumption) ?_
  rotate_left
  · (intro wS hSw; go_simp; try with_reducible rfl)
  try simp only [Act.put, List.setIfInBounds_toArray, List.set_cons_zero, List.set_cons_succ]
  refine stepL 1 rfl (by kernel_rfl) (fun K hK => ?_)
  go_simp
  (refine (elNDr_r v p1 _ hp1').mono ?_; rintro e wS ⟨rfl, kS⟩)
  go_wp2_with fail
  refine hK.out _ _ ((hHeld.trans kS)) (fun hHeld => ?_)
  clear hK K
  try simp only [Act.put, List.setIfInBounds_toArray, List.set_cons_zero, List.set_cons_succ]
  refine takeL 6 (v := ?_) rfl (by kernel_rfl) (by kernel_rfl) (by kernel_rfl) (fun _ _ _ h => h) (Or.inl ⟨by rfl, ?_⟩) (by assumption) ?_
  rotate_left
  · (intro wS hSw; go_simp; try with_reducible rfl)
  try simp only [Act.put, List.setIfInBounds_toArray, List.set_cons_zero, List.set_cons_succ]
  refine takeL 7 (v := ?_) rfl (by kernel_rfl) (by kernel_rfl) (by kernel_rfl) (fun _ _ _ h => h) (Or.inl ⟨by rfl, ?_⟩) (by assumption) ?_
  rotate_left
  · (intro wS hSw; go_simp; try with_reducible rfl)
  try simp only [Act.put, List.setIfInBounds_toArray, List.set_cons_zero, List.set_cons_succ]
  cases hpq : (p1 == q1) with
  | false =>
    rw [hpq] at hx1 hy1
    try simp only [hpq]
    refine takeL 8 (v := undef) rfl (by kernel_rfl) (by kernel_rfl) (by kernel_rfl) (fun _ _ _ h => h) (Or.inr ⟨by rfl, rfl⟩) (by assumption) ?_
    try simp only [Act.put, List.setIfInBounds_toArray, List.set_cons_zero, List.set_cons_succ]
    refine takeL 9 (v := undef) rfl (by kernel_rfl) (by kernel_rfl) (by kernel_rfl) (fun _ _ _ h => h) (Or.inr ⟨by rfl, rfl⟩) (by assumption) ?_
    try simp only [Act.put, List.setIfInBounds_toArray, List.set_cons_zero, List.set_cons_succ]
    refine takeL 10 (v := undef) rfl (by kernel_rfl) (by kernel_rfl) (by kernel_rfl) (fun _ _ _ h => h) (Or.inr ⟨by rfl, rfl⟩) (by assumption) ?_
    try simp only [Act.put, List.setIfInBounds_toArray, List.set_cons_zero, List.set_cons_succ]
    refine takeL 11 (v := undef) rfl (by kernel_rfl) (by kernel_rfl) (by kernel_rfl) (fun _ _ _ h => h) (Or.inr ⟨by rfl, rfl⟩) (by assumption) ?_
    try simp only [Act.put, List.setIfInBounds_toArray, List.set_cons_zero, List.set_cons_succ]
    refine takeL 12 (v := undef) rfl (by kernel_rfl) (by kernel_rfl) (by kernel_rfl) (fun _ _ _ h => h) (Or.inr ⟨by rfl, rfl⟩) (by assumption) ?_
    try simp only [Act.put, List.setIfInBounds_toArray, List.set_cons_zero, List.set_cons_succ]
    refine takeL 13 (v := undef) rfl (by kernel_rfl) (by kernel_rfl) (by kernel_rfl) (fun _ _ _ h => h) (Or.inr ⟨by rfl, rfl⟩) (by assumption) ?_
    try simp only [Act.put, List.setIfInBounds_toArray, List.set_cons_zero, List.set_cons_succ]
    refine takeL 14 (v := undef) rfl (by kernel_rfl) (by kernel_rfl) (by kernel_rfl) (fun _ _ _ h => h) (Or.inr ⟨by rfl, rfl⟩) (by assumption) ?_
    try simp only [Act.put, List.setIfInBounds_toArray, List.set_cons_zero, List.set_cons_succ]
    refine takeL 15 (v := ?_) rfl (by kernel_rfl) (by kernel_rfl) (by kernel_rfl) (fun _ _ _ h => h) (Or.inl ⟨by rfl, ?_⟩) (by assumption) ?_
    rotate_left
    · (intro wS hSw; go_simp; try with_reducible rfl)
    try simp only [Act.put, List.setIfInBounds_toArray, List.set_cons_zero, List.set_cons_succ]
    refine wpAnyH_done (by kernel_rfl) (NoPanic.normal ?_) _
    have hx2 : Hid (drD (newV v a b :: r) = x) := Lib.hid (by have := hx1.out; simpa using this)
    have hy2 : Hid (bdrD (newV v a b :: r) = y) := Lib.hid (by have := hy1.out; simpa using this)
    have h2 := Lib.hid (h1.out.keep hHeld)
    have hk2 := Lib.hid (hB.out.k.trans hHeld)
    clear hx1 hy1 hHeld kS h1 hB
    go_wp2_with fail
    refine (elClone_any _ (v :: r) (Nat.succ_pos _) (by rw [hlen]; exact hl) _ h2).mono ?_
    rintro e w3 ⟨⟨cv, rfl, ho⟩, k3⟩
    obtain ⟨cg, cc, rfl, hg1, hg2, hg3, hcell⟩ := ho.block (Nat.succ_pos _)
    have hk3 := Lib.hid (hk2.out.trans k3)
    have hg1' : Hid (w.heap.size ≤ cg) := Lib.hid (Nat.le_trans hk2.out.size hg1)
    obtain ⟨⟨u3, hc3⟩, hf3⟩ := hcell 3 (by rw [hlen]; omega)
    obtain ⟨⟨u4, hc4⟩, hf4⟩ := hcell 4 (by rw [hlen]; omega)
    have hput := ho.put 0 v rfl a b
    have hat : Hid (VotersAt ((w3.setCell ⟨cg, 3, none⟩ (.int .u32 a)).setCell ⟨cg, 4, none⟩ (.int .u32 b)) (.slice (some ⟨cg, 0, none⟩) (v :: r).length cc) (newV v a b :: r)) := Lib.hid hput.at
    have hk4 : Hid (Keeps (fun _ => False) w ((w3.setCell ⟨cg, 3, none⟩ (.int .u32 a)).setCell ⟨cg, 4, none⟩ (.int .u32 b))) := Lib.hid ((hk3.out.setCell (.inr hg1'.out) _).setCell (.inr hg1'.out) _)
    rw [hlen] at hat hg3 ⊢
    clear hput hcell ho k3 hg1 hg2 hk2 h2
    go_wp2_with fail
    refine (elRound_any _ (newV v a b :: r) hl x y _ hat hx2 hy2).mono ?_
    rintro e w5 ⟨rfl, k5⟩
    have hk5 := Lib.hid (hk4.out.trans k5)
    clear k5
    go_wp2_with fail
    go_ret2
    exact ⟨rfl, hk5.out⟩
  | true =>
    rw [hpq] at hx1 hy1
    try simp only [hpq]
    refine takeL 8 rfl (by kernel_rfl) (by kernel_rfl) (by kernel_rfl) (fun _ _ _ h => h) (yieldsIf_load_mid (by rfl) 26 (.tmp 6) rfl w1.heap.size 0 rfl [.int .u32 v.id, .int .u32 v.addr, .int .i64 v.prio, .int .u32 v.dr, .int .u32 v.bdr] _ (fun _ s => (hB.out.next s).r) Try.underlying26 rfl voteInfo) (by assumption) ?_
    try simp only [Act.put, List.setIfInBounds_toArray, List.set_cons_zero, List.set_cons_succ]
    refine takeL 10 (v := ?_) rfl (by kernel_rfl) (by kernel_rfl) (by kernel_rfl) (fun _ _ _ h => h) (Or.inl ⟨by rfl, ?_⟩) (by assumption) ?_
    rotate_left
    · (intro wS hSw; go_simp; try with_reducible rfl)
    try simp only [Act.put, List.setIfInBounds_toArray, List.set_cons_zero, List.set_cons_succ]
    refine takeL 11 (v := ?_) rfl (by kernel_rfl) (by kernel_rfl) (by kernel_rfl) (fun _ _ _ h => h) (Or.inl ⟨by rfl, ?_⟩) (by assumption) ?_
    rotate_left
    · (intro wS hSw; go_simp; try with_reducible rfl)
    try simp only [Act.put, List.setIfInBounds_toArray, List.set_cons_zero, List.set_cons_succ]
    refine takeL 12 rfl (by kernel_rfl) (by kernel_rfl) (by kernel_rfl) (fun _ _ _ h => h) (yieldsIf_load_cell (by rfl) 24 (.tmp 30) rfl w1.heap.size 1 rfl _ (fun _ s => (hB.out.next s).cell 1 (.int .u32 v.addr) rfl) (fun w s => load_u32v w _ _ _ s)) (by assumption) ?_
    try simp only [Act.put, List.setIfInBounds_toArray, List.set_cons_zero, List.set_cons_succ]
    refine takeL 13 (v := ?_) rfl (by kernel_rfl) (by kernel_rfl) (by kernel_rfl) (fun _ _ _ h => h) (Or.inl ⟨by rfl, ?_⟩) (by assumption) ?_
    rotate_left
    · (intro wS hSw; go_simp; try with_reducible rfl)
    try simp only [Act.put, List.setIfInBounds_toArray, List.set_cons_zero, List.set_cons_succ]
    refine stepL 9 rfl (by kernel_rfl) (fun K hK => ?_)
    go_simp
    (refine (elNBdr_r v p2 _ hp2').mono ?_; rintro e wT ⟨rfl, kT⟩)
    go_wp2_with fail
    refine hK.out _ _ ((hHeld.trans kT)) (fun hHeld => ?_)
    clear hK K
    try simp only [Act.put, List.setIfInBounds_toArray, List.set_cons_zero, List.set_cons_succ]
    refine takeL 14 (v := ?_) rfl (by kernel_rfl) (by kernel_rfl) (by kernel_rfl) (fun _ _ _ h => h) (Or.inl ⟨by rfl, ?_⟩) (by assumption) ?_
    rotate_left
    · (intro wS hSw; go_simp; try with_reducible rfl)
    try simp only [Act.put, List.setIfInBounds_toArray, List.set_cons_zero, List.set_cons_succ]
    refine takeL 15 (v := ?_) rfl (by kernel_rfl) (by kernel_rfl) (by kernel_rfl) (fun _ _ _ h => h) (Or.inl ⟨by rfl, ?_⟩) (by assumption) ?_
    rotate_left
    · (intro wS hSw; go_simp; try with_reducible rfl)
    try simp only [Act.put, List.setIfInBounds_toArray, List.set_cons_zero, List.set_cons_succ]
    cases hpq2 : (p2 == q2) with
    | false =>
      rw [hpq2] at hx1 hy1
      try simp only [hpq2]
      refine wpAnyH_done (by kernel_rfl) (NoPanic.normal ?_) _
      have hx2 : Hid (drD (newV v a b :: r) = x) := Lib.hid (by have := hx1.out; simpa using this)
      have hy2 : Hid (bdrD (newV v a b :: r) = y) := Lib.hid (by have := hy1.out; simpa using this)
      have h2 := Lib.hid (h1.out.keep hHeld)
      have hk2 := Lib.hid (hB.out.k.trans hHeld)
      clear hx1 hy1 hHeld kS h1 hB
      go_wp2_with fail
      refine (elClone_any _ (v :: r) (Nat.succ_pos _) (by rw [hlen]; exact hl) _ h2).mono ?_
      rintro e w3 ⟨⟨cv, rfl, ho⟩, k3⟩
      obtain ⟨cg, cc, rfl, hg1, hg2, hg3, hcell⟩ := ho.block (Nat.succ_pos _)
      have hk3 := Lib.hid (hk2.out.trans k3)
      have hg1' : Hid (w.heap.size ≤ cg) := Lib.hid (Nat.le_trans hk2.out.size hg1)
      obtain ⟨⟨u3, hc3⟩, hf3⟩ := hcell 3 (by rw [hlen]; omega)
      obtain ⟨⟨u4, hc4⟩, hf4⟩ := hcell 4 (by rw [hlen]; omega)
      have hput := ho.put 0 v rfl a b
      have hat : Hid (VotersAt ((w3.setCell ⟨cg, 3, none⟩ (.int .u32 a)).setCell ⟨cg, 4, none⟩ (.int .u32 b)) (.slice (some ⟨cg, 0, none⟩) (v :: r).length cc) (newV v a b :: r)) := Lib.hid hput.at
      have hk4 : Hid (Keeps (fun _ => False) w ((w3.setCell ⟨cg, 3, none⟩ (.int .u32 a)).setCell ⟨cg, 4, none⟩ (.int .u32 b))) := Lib.hid ((hk3.out.setCell (.inr hg1'.out) _).setCell (.inr hg1'.out) _)
      rw [hlen] at hat hg3 ⊢
      clear hput hcell ho k3 hg1 hg2 hk2 h2
      go_wp2_with fail
      refine (elRound_any _ (newV v a b :: r) hl x y _ hat hx2 hy2).mono ?_
      rintro e w5 ⟨rfl, k5⟩
      have hk5 := Lib.hid (hk4.out.trans k5)
      clear k5
      go_wp2_with fail
      go_ret2
      exact ⟨rfl, hk5.out⟩
    | true =>
      rw [hpq2] at hx1 hy1
      try simp only [hpq2]
      refine wpAnyH_done (by kernel_rfl) (NoPanic.normal ?_) _
      have hx2 : Hid (a = x) := Lib.hid (by have := hx1.out; simpa using this)
      have hy2 : Hid (b = y) := Lib.hid (by have := hy1.out; simpa using this)
      have hk2 := Lib.hid (hB.out.k.trans hHeld)
      clear hx1 hy1 hHeld kS kT h1 hB
      go_wp2_with fail
      go_ret2
      exact ⟨by rw [← hx2.out, ← hy2.out]; rfl, hk2.out⟩
end Go.Proofs.Ytdjbgjcniacgdaa
