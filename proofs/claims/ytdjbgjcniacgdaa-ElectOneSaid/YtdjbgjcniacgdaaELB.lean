/- isAhead, best, round: walked. -/
import Derived.Test.YtdjbgjcniacgdaaELA
namespace Go.Proofs.Ytdjbgjcniacgdaa
open Go.RowKit

def aheadB (a b : VotD) : Bool := decide (0 < orI (cmpI a.prio b.prio) (cmpI a.id b.id))
theorem load_intv (w : World) (b o : Nat) (v : Value) (h : w.cell? ⟨b, o, none⟩ = some v) : (loadVar 3 ⟨b, o, none⟩).run Try.prog w = .ok v w := by simp [go_sem, h]
theorem load_u32v (w : World) (b o : Nat) (v : Value) (h : w.cell? ⟨b, o, none⟩ = some v) : (loadVar 24 ⟨b, o, none⟩).run Try.prog w = .ok v w := by simp [go_sem, h]
set_option maxRecDepth 100000 in
theorem elIsAhead_any (a b : VotD) (z : Bool) (w : World) (hz : Hid (aheadB a b = z)) :
    Calls Try.prog 19 #[.agg #[.int .u32 a.id, .int .u32 a.addr, .int .i64 a.prio, .int .u32 a.dr, .int .u32 a.bdr], .agg #[.int .u32 b.id, .int .u32 b.addr, .int .i64 b.prio, .int .u32 b.dr, .int .u32 b.bdr]] w (fun e w' => e = .returned (.bool z) ∧ Keeps (fun _ => False) w w') := by
  have hA : Hid (Boxed w.heap.size [.int .u32 a.id, .int .u32 a.addr, .int .i64 a.prio, .int .u32 a.dr, .int .u32 a.bdr] w ((w.alloc (.cells #[.int .u32 a.id, .int .u32 a.addr, .int .i64 a.prio, .int .u32 a.dr, .int .u32 a.bdr] 26)).alloc (.cells #[.int .u32 b.id, .int .u32 b.addr, .int .i64 b.prio, .int .u32 b.dr, .int .u32 b.bdr] 26))) := Lib.hid ((boxed_new w _ _).next ((Keeps.refl _ _).alloc _))
  have hB : Hid (Boxed (w.heap.size + 1) [.int .u32 b.id, .int .u32 b.addr, .int .i64 b.prio, .int .u32 b.dr, .int .u32 b.bdr] (w.alloc (.cells #[.int .u32 a.id, .int .u32 a.addr, .int .i64 a.prio, .int .u32 a.dr, .int .u32 a.bdr] 26)) ((w.alloc (.cells #[.int .u32 a.id, .int .u32 a.addr, .int .i64 a.prio, .int .u32 a.dr, .int .u32 a.bdr] 26)).alloc (.cells #[.int .u32 b.id, .int .u32 b.addr, .int .i64 b.prio, .int .u32 b.dr, .int .u32 b.bdr] 26))) := Lib.hid (by
    have := boxed_new (w.alloc (.cells #[.int .u32 a.id, .int .u32 a.addr, .int .i64 a.prio, .int .u32 a.dr, .int .u32 a.bdr] 26)) [.int .u32 b.id, .int .u32 b.addr, .int .i64 b.prio, .int .u32 b.dr, .int .u32 b.bdr] 26
    simpa using this)
  obtain ⟨wB, hwB⟩ : ∃ wB, wB = (w.alloc (.cells #[.int .u32 a.id, .int .u32 a.addr, .int .i64 a.prio, .int .u32 a.dr, .int .u32 a.bdr] 26)).alloc (.cells #[.int .u32 b.id, .int .u32 b.addr, .int .i64 b.prio, .int .u32 b.dr, .int .u32 b.bdr] 26) := ⟨_, rfl⟩
  have hwB' := Lib.hid hwB
  rw [← hwB] at hA hB
  clear hwB
  obtain ⟨x, hx⟩ : ∃ x, orI (cmpI a.prio b.prio) (cmpI a.id b.id) = x := ⟨_, rfl⟩
  have hx' := Lib.hid hx
  have hz' : Hid (decide (0 < x) = z) := Lib.hid (by rw [← hz.out]; unfold aheadB; rw [hx])
  clear hx hz
  go_enter Try.func19, Try.ntmps19
  go_upto_region 1 with fail
  rw [← hwB'.out]
  refine wp_region_noPanic ?_
  refine wp_region_held_drew (S := (fun W => Keeps (fun _ => False) wB W)) (by kernel_rfl) (((Keeps.refl (fun _ => False) _).drew)) (fun hHeld => ?_)
  refine takeL 0 (v := ?_) rfl (by kernel_rfl) (by kernel_rfl) (by kernel_rfl) (fun _ _ _ h => h) (Or.inl ⟨by rfl, ?_⟩) (by assumption) ?_
  rotate_left
  · (intro wS hSw; go_simp; try with_reducible rfl)
  try simp only [Act.put, List.setIfInBounds_toArray, List.set_cons_zero, List.set_cons_succ]
  refine takeL 1 rfl (by kernel_rfl) (by kernel_rfl) (by kernel_rfl) (fun _ _ _ h => h) (yieldsIf_load_cell (by rfl) 3 (.tmp 5) rfl w.heap.size 2 rfl _ (fun _ s => (hA.out.next s).cell 2 (.int .i64 a.prio) rfl) (fun w s => load_intv w _ _ _ s)) (by assumption) ?_
  try simp only [Act.put, List.setIfInBounds_toArray, List.set_cons_zero, List.set_cons_succ]
  refine takeL 2 (v := ?_) rfl (by kernel_rfl) (by kernel_rfl) (by kernel_rfl) (fun _ _ _ h => h) (Or.inl ⟨by rfl, ?_⟩) (by assumption) ?_
  rotate_left
  · (intro wS hSw; go_simp; try with_reducible rfl)
  try simp only [Act.put, List.setIfInBounds_toArray, List.set_cons_zero, List.set_cons_succ]
  refine takeL 3 rfl (by kernel_rfl) (by kernel_rfl) (by kernel_rfl) (fun _ _ _ h => h) (yieldsIf_load_cell (by rfl) 3 (.tmp 7) rfl (w.heap.size + 1) 2 rfl _ (fun _ s => (hB.out.next s).cell 2 (.int .i64 b.prio) rfl) (fun w s => load_intv w _ _ _ s)) (by assumption) ?_
  try simp only [Act.put, List.setIfInBounds_toArray, List.set_cons_zero, List.set_cons_succ]
  refine takeL 5 (v := ?_) rfl (by kernel_rfl) (by kernel_rfl) (by kernel_rfl) (fun _ _ _ h => h) (Or.inl ⟨by rfl, ?_⟩) (by assumption) ?_
  rotate_left
  · (intro wS hSw; go_simp; try with_reducible rfl)
  try simp only [Act.put, List.setIfInBounds_toArray, List.set_cons_zero, List.set_cons_succ]
  refine takeL 6 rfl (by kernel_rfl) (by kernel_rfl) (by kernel_rfl) (fun _ _ _ h => h) (yieldsIf_load_cell (by rfl) 24 (.tmp 10) rfl w.heap.size 0 rfl _ (fun _ s => (hA.out.next s).cell 0 (.int .u32 a.id) rfl) (fun w s => load_u32v w _ _ _ s)) (by assumption) ?_
  try simp only [Act.put, List.setIfInBounds_toArray, List.set_cons_zero, List.set_cons_succ]
  refine takeL 7 (v := ?_) rfl (by kernel_rfl) (by kernel_rfl) (by kernel_rfl) (fun _ _ _ h => h) (Or.inl ⟨by rfl, ?_⟩) (by assumption) ?_
  rotate_left
  · (intro wS hSw; go_simp; try with_reducible rfl)
  try simp only [Act.put, List.setIfInBounds_toArray, List.set_cons_zero, List.set_cons_succ]
  refine takeL 8 rfl (by kernel_rfl) (by kernel_rfl) (by kernel_rfl) (fun _ _ _ h => h) (yieldsIf_load_cell (by rfl) 24 (.tmp 12) rfl (w.heap.size + 1) 0 rfl _ (fun _ s => (hB.out.next s).cell 0 (.int .u32 b.id) rfl) (fun w s => load_u32v w _ _ _ s)) (by assumption) ?_
  try simp only [Act.put, List.setIfInBounds_toArray, List.set_cons_zero, List.set_cons_succ]
  refine stepL 4 rfl (by kernel_rfl) (fun K hK => ?_)
  go_simp
  (refine (cmpInt_any _ _ _).mono ?_; rintro e w' ⟨rfl, rfl⟩)
  go_wp2_with fail
  refine hK.out _ _ (hHeld) (fun hHeld => ?_)
  clear hK K
  try simp only [Act.put, List.setIfInBounds_toArray, List.set_cons_zero, List.set_cons_succ]
  refine stepL 9 rfl (by kernel_rfl) (fun K hK => ?_)
  go_simp
  (refine (cmpU32_any _ _ _).mono ?_; rintro e w' ⟨rfl, rfl⟩)
  go_wp2_with fail
  refine hK.out _ _ (hHeld) (fun hHeld => ?_)
  clear hK K
  try simp only [Act.put, List.setIfInBounds_toArray, List.set_cons_zero, List.set_cons_succ]
  refine stepL 10 rfl (by kernel_rfl) (fun K hK => ?_)
  go_simp
  refine hK.out _ _ ((hHeld.alloc _)) (fun hHeld => ?_)
  clear hK K
  try simp only [Act.put, List.setIfInBounds_toArray, List.set_cons_zero, List.set_cons_succ]
  refine stepL 11 rfl (by kernel_rfl) (fun K hK => ?_)
  go_simp
  (refine (orInt_any _ _ _ _ x _ hx' (Lib.hid (Keeps.rangeAt ((Keeps.refl (fun _ => False) _).drew) (new_rangeb wB _ _) id))).mono ?_; rintro e w' ⟨rfl, rfl⟩)
  go_wp2_with fail
  refine hK.out _ _ (hHeld) (fun hHeld => ?_)
  clear hK K
  try simp only [Act.put, List.setIfInBounds_toArray, List.set_cons_zero, List.set_cons_succ]
  refine takeL 12 (v := ?_) rfl (by kernel_rfl) (by kernel_rfl) (by kernel_rfl) (fun _ _ _ h => h) (Or.inl ⟨by rfl, ?_⟩) (by assumption) ?_
  rotate_left
  · (intro wS hSw; go_simp; try with_reducible rfl)
  try simp only [Act.put, List.setIfInBounds_toArray, List.set_cons_zero, List.set_cons_succ]
  refine takeL 13 (v := ?_) rfl (by kernel_rfl) (by kernel_rfl) (by kernel_rfl) (fun _ _ _ h => h) (Or.inl ⟨by rfl, ?_⟩) (by assumption) ?_
  rotate_left
  · (intro wS hSw; go_simp; try with_reducible rfl)
  try simp only [Act.put, List.setIfInBounds_toArray, List.set_cons_zero, List.set_cons_succ]
  refine wpAnyH_done (by kernel_rfl) (NoPanic.normal ?_) _
  go_wp2_with fail
  go_ret
  exact ⟨by rw [← hz'.out]; rfl, (hwB'.out ▸ (((Keeps.refl (fun _ => False) w).alloc _).alloc _)).trans hHeld⟩

/-- the best of those that stand, so far -/
def bestFrom (p : VotD → Bool) (f : VotD) : List VotD → VotD
  | [] => f
  | v :: r => bestFrom p (if decide (0 < v.prio) && (p v && aheadB v f) then v else f) r
def bestD (p : VotD → Bool) (l : List VotD) : Nat := (bestFrom p ⟨0, 0, 0, 0, 0⟩ l).addr
/-- a function that tells p, and turns nothing -/
def Tells (F : Nat) (p : VotD → Bool) : Prop := ∀ (v : VotD) (r : Bool) (w : World), Hid (p v = r) →
    Calls Try.prog F #[.agg #[.int .u32 v.id, .int .u32 v.addr, .int .i64 v.prio, .int .u32 v.dr, .int .u32 v.bdr]] w (fun e w' => e = .returned (.bool r) ∧ Keeps (fun _ => False) w w')
theorem vote_one (a b : Int) (c d e : Int) : (#[.int .u32 a, .int .u32 b, .int .i64 c, .int .u32 d, .int .u32 e] : Array Value).all (·.oneCell') = true := by simp; exact ⟨rfl, rfl, rfl, rfl, rfl⟩
theorem vote_eta (v : VotD) : (⟨v.id, v.addr, v.prio, v.dr, v.bdr⟩ : VotD) = v := rfl
set_option maxRecDepth 100000 in
set_option maxHeartbeats 1000000 in
theorem elBestDr (p : VotD → Bool) (hF : Tells 11 p) (sl : Value) (ls : List VotD) (hl : ls.length ≤ 1000000) (z : Nat) (w : World) (h : Hid (VotersAt w sl ls)) (hz : Hid (bestD p ls = z)) :
    Calls Try.prog 15 #[sl, .func (.func 11) #[] #[]] w (fun e w' => e = .returned (.int .u32 z) ∧ Keeps (fun _ => False) w w') := by
  obtain ⟨q, c, rfl, -, -, hb⟩ := h.out
  have hb' := Lib.hid hb; clear hb h
  have hN : Hid (BlkAt (w.alloc (.cells #[.int .u32 0, .int .u32 0, .int .i64 0, .int .u32 0, .int .u32 0] 26)) w.heap.size 26 (voteVals ⟨0, 0, 0, 0, 0⟩)) := Lib.hid (BlkAt.new w 26 (voteVals ⟨0, 0, 0, 0, 0⟩))
  have hK0 : Hid (Keeps (fun _ => False) w (w.alloc (.cells #[.int .u32 0, .int .u32 0, .int .i64 0, .int .u32 0, .int .u32 0] 26))) := Lib.hid ((Keeps.refl _ _).alloc _)
  go_enter Try.func15, Try.ntmps15
  go_wp2_with fail
  go_loopw [10] (fun iv wr => ∃ (k : Nat) (f : VotD), k ≤ ls.length ∧ iv = .int .i64 k ∧ Hid ((bestFrom p f (ls.drop k)).addr = z) ∧ Hid (BlkAt wr w.heap.size 26 (voteVals f)) ∧ Hid (Keeps (fun _ => False) w wr)) (fun iv _ => ls.length - (intOf iv).toNat)
  case atStart => exact ⟨0, ⟨0, 0, 0, 0, 0⟩, by omega, rfl, Lib.hid hz.out, hN, hK0⟩
  case round =>
    obtain ⟨k, f, hk, rfl, hbf, hfB, hkr⟩ := hrel
    by_cases hlk : k < ls.length
    · obtain ⟨g, o, rfl, hrows⟩ := hb'.out (by omega)
      obtain ⟨v, hv⟩ : ∃ v, ls[k]? = some v := ⟨_, List.getElem?_eq_getElem hlk⟩
      have hrow : Hid (wr.rangeAt g (o + k * 5) [.int .u32 v.id, .int .u32 v.addr, .int .i64 v.prio, .int .u32 v.dr, .int .u32 v.bdr]) := Lib.hid (hkr.out.rangeAt (hrows k v hv) id)
      have hV1 : Hid (BlkAt (wr.alloc (.cells #[.int .u32 v.id, .int .u32 v.addr, .int .i64 v.prio, .int .u32 v.dr, .int .u32 v.bdr] 26)) wr.heap.size 26 (voteVals v)) := Lib.hid (BlkAt.new wr 26 (voteVals v))
      have hf1 : Hid (BlkAt (wr.alloc (.cells #[.int .u32 v.id, .int .u32 v.addr, .int .i64 v.prio, .int .u32 v.dr, .int .u32 v.bdr] 26)) w.heap.size 26 (voteVals f)) := Lib.hid (hfB.out.alloc _)
      have hk1 : Hid (Keeps (fun _ => False) w (wr.alloc (.cells #[.int .u32 v.id, .int .u32 v.addr, .int .i64 v.prio, .int .u32 v.dr, .int .u32 v.bdr] 26))) := Lib.hid (hkr.out.alloc _)
      have hne : Hid (w.heap.size ≠ wr.heap.size) := Lib.hid (by have := lt_of_block hfB.out; omega)
      obtain ⟨x, hx⟩ : ∃ x, p v = x := ⟨_, rfl⟩
      obtain ⟨y, hy⟩ : ∃ y, aheadB v f = y := ⟨_, rfl⟩
      have hst : Hid ((bestFrom p (if decide (0 < v.prio) && (x && y) then v else f) (ls.drop (k + 1))).addr = z) := Lib.hid (by
        rw [← hx, ← hy]
        have := hbf.out
        rw [List.drop_eq_getElem_cons hlk, show ls[k] = v from by rw [List.getElem?_eq_getElem hlk] at hv; injection hv] at this
        exact this)
      have hx' := Lib.hid hx
      have hy' := Lib.hid hy
      clear hx hy hbf hrows hv hfB
      by_cases hp : v.prio > 0
      · have hst1 : Hid ((bestFrom p (if x && y then v else f) (ls.drop (k + 1))).addr = z) := Lib.hid (by rw [← hst.out, decide_eq_true hp, Bool.true_and])
        clear hst
        go_wp2_with (first | ((with_reducible refine at_slot 13 ?_); refine wpList_load_mid rfl 26 (.tmp 12) rfl g (o + k * 5) rfl _ _ hrow.out Try.underlying26 rfl voteInfo ?_) | ((with_reducible refine at_store 7 ?_); refine wpList_store_new rfl 26 (.tmp 7) (.tmp 13) rfl _ _ rfl rfl voteInfo rfl rfl ?_))
        refine (hF v x _ hx').mono ?_
        rintro e W2 ⟨rfl, k2⟩
        have hV2 := Lib.hid (hV1.out.keep k2 id)
        have hf2 := Lib.hid (hf1.out.keep k2 id)
        have hk2 := Lib.hid (hk1.out.trans k2)
        have hc2 := hV2.out.cell 0 _ rfl
        clear k2 hV1 hf1 hk1 hc2
        cases x with
        | false =>
          have hst2 : Hid ((bestFrom p f (ls.drop (k + 1))).addr = z) := Lib.hid hst1.out
          clear hst1
          go_wp2_with fail
          exact ⟨⟨k + 1, f, by omega, by go_num, hst2, hf2, hk2⟩, by simp [intOf]; omega⟩
        | true =>
          have hst2 : Hid ((bestFrom p (if y then v else f) (ls.drop (k + 1))).addr = z) := Lib.hid hst1.out
          clear hst1
          go_wp2_with (first | ((with_reducible refine at_slot 23 ?_); refine wpList_load_mid_gd (by rfl) 26 (.tmp 7) rfl wr.heap.size 0 rfl _ _ hV2.out.range Try.underlying26 rfl voteInfo ?_) | ((with_reducible refine at_slot 24 ?_); refine wpList_load_mid_gd (by rfl) 26 (.tmp 5) rfl w.heap.size 0 rfl _ _ hf2.out.range Try.underlying26 rfl voteInfo ?_))
          refine (elIsAhead_any v f y _ hy').mono ?_
          rintro e W3 ⟨rfl, k3⟩
          have hV3 := Lib.hid (hV2.out.keep k3 id)
          have hf3 := Lib.hid (hf2.out.keep k3 id)
          have hk3 := Lib.hid (hk2.out.trans k3)
          clear k3 hV2 hf2 hk2
          cases y with
          | false =>
            have hst3 : Hid ((bestFrom p f (ls.drop (k + 1))).addr = z) := Lib.hid hst2.out
            clear hst2
            go_wp2_with fail
            exact ⟨⟨k + 1, f, by omega, by go_num, hst3, hf3, hk3⟩, by simp [intOf]; omega⟩
          | true =>
            have hst3 : Hid ((bestFrom p v (ls.drop (k + 1))).addr = z) := Lib.hid hst2.out
            clear hst2
            go_wp2_with (first | ((with_reducible refine at_slot 27 ?_); refine wpList_load_mid rfl 26 (.tmp 7) rfl wr.heap.size 0 rfl [.int .u32 v.id, .int .u32 v.addr, .int .i64 v.prio, .int .u32 v.dr, .int .u32 v.bdr] _ hV3.out.range Try.underlying26 rfl voteInfo ?_) | ((with_reducible refine at_store 5 ?_); refine wpList_store_mid rfl 26 (.tmp 5) (.tmp 27) rfl w.heap.size 0 #[.int .u32 v.id, .int .u32 v.addr, .int .i64 v.prio, .int .u32 v.dr, .int .u32 v.bdr] rfl rfl (BlkAt.there hf3.out 0 5 (Nat.le_refl 5)) voteInfo (vote_one _ _ _ _ _) ?_))
            have hf4 : Hid (BlkAt (W3.setCells w.heap.size 0 [.int .u32 v.id, .int .u32 v.addr, .int .i64 v.prio, .int .u32 v.dr, .int .u32 v.bdr]) w.heap.size 26 (voteVals v)) := Lib.hid (((((hf3.out.set 0 _).set 1 _).set 2 _).set 3 _).set 4 _)
            have hk4 : Hid (Keeps (fun _ => False) w (W3.setCells w.heap.size 0 [.int .u32 v.id, .int .u32 v.addr, .int .i64 v.prio, .int .u32 v.dr, .int .u32 v.bdr])) := Lib.hid (Keeps.setCells (.inr (Nat.le_refl _)) _ _ _ hk3.out)
            exact ⟨⟨k + 1, v, by omega, by go_num, hst3, hf4, hk4⟩, by simp [intOf]; omega⟩
      · have hst1 : Hid ((bestFrom p f (ls.drop (k + 1))).addr = z) := Lib.hid (by
          have := hst.out
          rw [decide_eq_false hp, Bool.false_and] at this; exact this)
        clear hst
        go_wp2_with (first | ((with_reducible refine at_slot 13 ?_); refine wpList_load_mid rfl 26 (.tmp 12) rfl g (o + k * 5) rfl _ _ hrow.out Try.underlying26 rfl voteInfo ?_) | ((with_reducible refine at_store 7 ?_); refine wpList_store_new rfl 26 (.tmp 7) (.tmp 13) rfl _ _ rfl rfl voteInfo rfl rfl ?_))
        exact ⟨⟨k + 1, f, by omega, by go_num, hst1, hf1, hk1⟩, by simp [intOf]; omega⟩
    · obtain rfl : k = ls.length := by omega
      have hz1 : f.addr = z := by
        have := hbf.out
        rw [List.drop_length] at this; exact this
      have hc1 := hfB.out.cell 1 (.int .u32 f.addr) rfl
      have hz1' := Lib.hid hz1
      clear hbf hz1
      go_wp2_with fail
      go_ret
      exact ⟨by rw [← hz1'.out]; rfl, hkr.out⟩
set_option maxRecDepth 100000 in
set_option maxHeartbeats 1000000 in
theorem elBestAlone (p : VotD → Bool) (hF : Tells 16 p) (sl : Value) (ls : List VotD) (hl : ls.length ≤ 1000000) (z : Nat) (w : World) (h : Hid (VotersAt w sl ls)) (hz : Hid (bestD p ls = z)) :
    Calls Try.prog 15 #[sl, .func (.func 16) #[] #[]] w (fun e w' => e = .returned (.int .u32 z) ∧ Keeps (fun _ => False) w w') := by
  obtain ⟨q, c, rfl, -, -, hb⟩ := h.out
  have hb' := Lib.hid hb; clear hb h
  have hN : Hid (BlkAt (w.alloc (.cells #[.int .u32 0, .int .u32 0, .int .i64 0, .int .u32 0, .int .u32 0] 26)) w.heap.size 26 (voteVals ⟨0, 0, 0, 0, 0⟩)) := Lib.hid (BlkAt.new w 26 (voteVals ⟨0, 0, 0, 0, 0⟩))
  have hK0 : Hid (Keeps (fun _ => False) w (w.alloc (.cells #[.int .u32 0, .int .u32 0, .int .i64 0, .int .u32 0, .int .u32 0] 26))) := Lib.hid ((Keeps.refl _ _).alloc _)
  go_enter Try.func15, Try.ntmps15
  go_wp2_with fail
  go_loopw [10] (fun iv wr => ∃ (k : Nat) (f : VotD), k ≤ ls.length ∧ iv = .int .i64 k ∧ Hid ((bestFrom p f (ls.drop k)).addr = z) ∧ Hid (BlkAt wr w.heap.size 26 (voteVals f)) ∧ Hid (Keeps (fun _ => False) w wr)) (fun iv _ => ls.length - (intOf iv).toNat)
  case atStart => exact ⟨0, ⟨0, 0, 0, 0, 0⟩, by omega, rfl, Lib.hid hz.out, hN, hK0⟩
  case round =>
    obtain ⟨k, f, hk, rfl, hbf, hfB, hkr⟩ := hrel
    by_cases hlk : k < ls.length
    · obtain ⟨g, o, rfl, hrows⟩ := hb'.out (by omega)
      obtain ⟨v, hv⟩ : ∃ v, ls[k]? = some v := ⟨_, List.getElem?_eq_getElem hlk⟩
      have hrow : Hid (wr.rangeAt g (o + k * 5) [.int .u32 v.id, .int .u32 v.addr, .int .i64 v.prio, .int .u32 v.dr, .int .u32 v.bdr]) := Lib.hid (hkr.out.rangeAt (hrows k v hv) id)
      have hV1 : Hid (BlkAt (wr.alloc (.cells #[.int .u32 v.id, .int .u32 v.addr, .int .i64 v.prio, .int .u32 v.dr, .int .u32 v.bdr] 26)) wr.heap.size 26 (voteVals v)) := Lib.hid (BlkAt.new wr 26 (voteVals v))
      have hf1 : Hid (BlkAt (wr.alloc (.cells #[.int .u32 v.id, .int .u32 v.addr, .int .i64 v.prio, .int .u32 v.dr, .int .u32 v.bdr] 26)) w.heap.size 26 (voteVals f)) := Lib.hid (hfB.out.alloc _)
      have hk1 : Hid (Keeps (fun _ => False) w (wr.alloc (.cells #[.int .u32 v.id, .int .u32 v.addr, .int .i64 v.prio, .int .u32 v.dr, .int .u32 v.bdr] 26))) := Lib.hid (hkr.out.alloc _)
      have hne : Hid (w.heap.size ≠ wr.heap.size) := Lib.hid (by have := lt_of_block hfB.out; omega)
      obtain ⟨x, hx⟩ : ∃ x, p v = x := ⟨_, rfl⟩
      obtain ⟨y, hy⟩ : ∃ y, aheadB v f = y := ⟨_, rfl⟩
      have hst : Hid ((bestFrom p (if decide (0 < v.prio) && (x && y) then v else f) (ls.drop (k + 1))).addr = z) := Lib.hid (by
        rw [← hx, ← hy]
        have := hbf.out
        rw [List.drop_eq_getElem_cons hlk, show ls[k] = v from by rw [List.getElem?_eq_getElem hlk] at hv; injection hv] at this
        exact this)
      have hx' := Lib.hid hx
      have hy' := Lib.hid hy
      clear hx hy hbf hrows hv hfB
      by_cases hp : v.prio > 0
      · have hst1 : Hid ((bestFrom p (if x && y then v else f) (ls.drop (k + 1))).addr = z) := Lib.hid (by rw [← hst.out, decide_eq_true hp, Bool.true_and])
        clear hst
        go_wp2_with (first | ((with_reducible refine at_slot 13 ?_); refine wpList_load_mid rfl 26 (.tmp 12) rfl g (o + k * 5) rfl _ _ hrow.out Try.underlying26 rfl voteInfo ?_) | ((with_reducible refine at_store 7 ?_); refine wpList_store_new rfl 26 (.tmp 7) (.tmp 13) rfl _ _ rfl rfl voteInfo rfl rfl ?_))
        refine (hF v x _ hx').mono ?_
        rintro e W2 ⟨rfl, k2⟩
        have hV2 := Lib.hid (hV1.out.keep k2 id)
        have hf2 := Lib.hid (hf1.out.keep k2 id)
        have hk2 := Lib.hid (hk1.out.trans k2)
        have hc2 := hV2.out.cell 0 _ rfl
        clear k2 hV1 hf1 hk1 hc2
        cases x with
        | false =>
          have hst2 : Hid ((bestFrom p f (ls.drop (k + 1))).addr = z) := Lib.hid hst1.out
          clear hst1
          go_wp2_with fail
          exact ⟨⟨k + 1, f, by omega, by go_num, hst2, hf2, hk2⟩, by simp [intOf]; omega⟩
        | true =>
          have hst2 : Hid ((bestFrom p (if y then v else f) (ls.drop (k + 1))).addr = z) := Lib.hid hst1.out
          clear hst1
          go_wp2_with (first | ((with_reducible refine at_slot 23 ?_); refine wpList_load_mid_gd (by rfl) 26 (.tmp 7) rfl wr.heap.size 0 rfl _ _ hV2.out.range Try.underlying26 rfl voteInfo ?_) | ((with_reducible refine at_slot 24 ?_); refine wpList_load_mid_gd (by rfl) 26 (.tmp 5) rfl w.heap.size 0 rfl _ _ hf2.out.range Try.underlying26 rfl voteInfo ?_))
          refine (elIsAhead_any v f y _ hy').mono ?_
          rintro e W3 ⟨rfl, k3⟩
          have hV3 := Lib.hid (hV2.out.keep k3 id)
          have hf3 := Lib.hid (hf2.out.keep k3 id)
          have hk3 := Lib.hid (hk2.out.trans k3)
          clear k3 hV2 hf2 hk2
          cases y with
          | false =>
            have hst3 : Hid ((bestFrom p f (ls.drop (k + 1))).addr = z) := Lib.hid hst2.out
            clear hst2
            go_wp2_with fail
            exact ⟨⟨k + 1, f, by omega, by go_num, hst3, hf3, hk3⟩, by simp [intOf]; omega⟩
          | true =>
            have hst3 : Hid ((bestFrom p v (ls.drop (k + 1))).addr = z) := Lib.hid hst2.out
            clear hst2
            go_wp2_with (first | ((with_reducible refine at_slot 27 ?_); refine wpList_load_mid rfl 26 (.tmp 7) rfl wr.heap.size 0 rfl [.int .u32 v.id, .int .u32 v.addr, .int .i64 v.prio, .int .u32 v.dr, .int .u32 v.bdr] _ hV3.out.range Try.underlying26 rfl voteInfo ?_) | ((with_reducible refine at_store 5 ?_); refine wpList_store_mid rfl 26 (.tmp 5) (.tmp 27) rfl w.heap.size 0 #[.int .u32 v.id, .int .u32 v.addr, .int .i64 v.prio, .int .u32 v.dr, .int .u32 v.bdr] rfl rfl (BlkAt.there hf3.out 0 5 (Nat.le_refl 5)) voteInfo (vote_one _ _ _ _ _) ?_))
            have hf4 : Hid (BlkAt (W3.setCells w.heap.size 0 [.int .u32 v.id, .int .u32 v.addr, .int .i64 v.prio, .int .u32 v.dr, .int .u32 v.bdr]) w.heap.size 26 (voteVals v)) := Lib.hid (((((hf3.out.set 0 _).set 1 _).set 2 _).set 3 _).set 4 _)
            have hk4 : Hid (Keeps (fun _ => False) w (W3.setCells w.heap.size 0 [.int .u32 v.id, .int .u32 v.addr, .int .i64 v.prio, .int .u32 v.dr, .int .u32 v.bdr])) := Lib.hid (Keeps.setCells (.inr (Nat.le_refl _)) _ _ _ hk3.out)
            exact ⟨⟨k + 1, v, by omega, by go_num, hst3, hf4, hk4⟩, by simp [intOf]; omega⟩
      · have hst1 : Hid ((bestFrom p f (ls.drop (k + 1))).addr = z) := Lib.hid (by
          have := hst.out
          rw [decide_eq_false hp, Bool.false_and] at this; exact this)
        clear hst
        go_wp2_with (first | ((with_reducible refine at_slot 13 ?_); refine wpList_load_mid rfl 26 (.tmp 12) rfl g (o + k * 5) rfl _ _ hrow.out Try.underlying26 rfl voteInfo ?_) | ((with_reducible refine at_store 7 ?_); refine wpList_store_new rfl 26 (.tmp 7) (.tmp 13) rfl _ _ rfl rfl voteInfo rfl rfl ?_))
        exact ⟨⟨k + 1, f, by omega, by go_num, hst1, hf1, hk1⟩, by simp [intOf]; omega⟩
    · obtain rfl : k = ls.length := by omega
      have hz1 : f.addr = z := by
        have := hbf.out
        rw [List.drop_length] at this; exact this
      have hc1 := hfB.out.cell 1 (.int .u32 f.addr) rfl
      have hz1' := Lib.hid hz1
      clear hbf hz1
      go_wp2_with fail
      go_ret
      exact ⟨by rw [← hz1'.out]; rfl, hkr.out⟩
set_option maxRecDepth 100000 in
set_option maxHeartbeats 1000000 in
theorem elBestNotDr (p : VotD → Bool) (hF : Tells 17 p) (sl : Value) (ls : List VotD) (hl : ls.length ≤ 1000000) (z : Nat) (w : World) (h : Hid (VotersAt w sl ls)) (hz : Hid (bestD p ls = z)) :
    Calls Try.prog 15 #[sl, .func (.func 17) #[] #[]] w (fun e w' => e = .returned (.int .u32 z) ∧ Keeps (fun _ => False) w w') := by
  obtain ⟨q, c, rfl, -, -, hb⟩ := h.out
  have hb' := Lib.hid hb; clear hb h
  have hN : Hid (BlkAt (w.alloc (.cells #[.int .u32 0, .int .u32 0, .int .i64 0, .int .u32 0, .int .u32 0] 26)) w.heap.size 26 (voteVals ⟨0, 0, 0, 0, 0⟩)) := Lib.hid (BlkAt.new w 26 (voteVals ⟨0, 0, 0, 0, 0⟩))
  have hK0 : Hid (Keeps (fun _ => False) w (w.alloc (.cells #[.int .u32 0, .int .u32 0, .int .i64 0, .int .u32 0, .int .u32 0] 26))) := Lib.hid ((Keeps.refl _ _).alloc _)
  go_enter Try.func15, Try.ntmps15
  go_wp2_with fail
  go_loopw [10] (fun iv wr => ∃ (k : Nat) (f : VotD), k ≤ ls.length ∧ iv = .int .i64 k ∧ Hid ((bestFrom p f (ls.drop k)).addr = z) ∧ Hid (BlkAt wr w.heap.size 26 (voteVals f)) ∧ Hid (Keeps (fun _ => False) w wr)) (fun iv _ => ls.length - (intOf iv).toNat)
  case atStart => exact ⟨0, ⟨0, 0, 0, 0, 0⟩, by omega, rfl, Lib.hid hz.out, hN, hK0⟩
  case round =>
    obtain ⟨k, f, hk, rfl, hbf, hfB, hkr⟩ := hrel
    by_cases hlk : k < ls.length
    · obtain ⟨g, o, rfl, hrows⟩ := hb'.out (by omega)
      obtain ⟨v, hv⟩ : ∃ v, ls[k]? = some v := ⟨_, List.getElem?_eq_getElem hlk⟩
      have hrow : Hid (wr.rangeAt g (o + k * 5) [.int .u32 v.id, .int .u32 v.addr, .int .i64 v.prio, .int .u32 v.dr, .int .u32 v.bdr]) := Lib.hid (hkr.out.rangeAt (hrows k v hv) id)
      have hV1 : Hid (BlkAt (wr.alloc (.cells #[.int .u32 v.id, .int .u32 v.addr, .int .i64 v.prio, .int .u32 v.dr, .int .u32 v.bdr] 26)) wr.heap.size 26 (voteVals v)) := Lib.hid (BlkAt.new wr 26 (voteVals v))
      have hf1 : Hid (BlkAt (wr.alloc (.cells #[.int .u32 v.id, .int .u32 v.addr, .int .i64 v.prio, .int .u32 v.dr, .int .u32 v.bdr] 26)) w.heap.size 26 (voteVals f)) := Lib.hid (hfB.out.alloc _)
      have hk1 : Hid (Keeps (fun _ => False) w (wr.alloc (.cells #[.int .u32 v.id, .int .u32 v.addr, .int .i64 v.prio, .int .u32 v.dr, .int .u32 v.bdr] 26))) := Lib.hid (hkr.out.alloc _)
      have hne : Hid (w.heap.size ≠ wr.heap.size) := Lib.hid (by have := lt_of_block hfB.out; omega)
      obtain ⟨x, hx⟩ : ∃ x, p v = x := ⟨_, rfl⟩
      obtain ⟨y, hy⟩ : ∃ y, aheadB v f = y := ⟨_, rfl⟩
      have hst : Hid ((bestFrom p (if decide (0 < v.prio) && (x && y) then v else f) (ls.drop (k + 1))).addr = z) := Lib.hid (by
        rw [← hx, ← hy]
        have := hbf.out
        rw [List.drop_eq_getElem_cons hlk, show ls[k] = v from by rw [List.getElem?_eq_getElem hlk] at hv; injection hv] at this
        exact this)
      have hx' := Lib.hid hx
      have hy' := Lib.hid hy
      clear hx hy hbf hrows hv hfB
      by_cases hp : v.prio > 0
      · have hst1 : Hid ((bestFrom p (if x && y then v else f) (ls.drop (k + 1))).addr = z) := Lib.hid (by rw [← hst.out, decide_eq_true hp, Bool.true_and])
        clear hst
        go_wp2_with (first | ((with_reducible refine at_slot 13 ?_); refine wpList_load_mid rfl 26 (.tmp 12) rfl g (o + k * 5) rfl _ _ hrow.out Try.underlying26 rfl voteInfo ?_) | ((with_reducible refine at_store 7 ?_); refine wpList_store_new rfl 26 (.tmp 7) (.tmp 13) rfl _ _ rfl rfl voteInfo rfl rfl ?_))
        refine (hF v x _ hx').mono ?_
        rintro e W2 ⟨rfl, k2⟩
        have hV2 := Lib.hid (hV1.out.keep k2 id)
        have hf2 := Lib.hid (hf1.out.keep k2 id)
        have hk2 := Lib.hid (hk1.out.trans k2)
        have hc2 := hV2.out.cell 0 _ rfl
        clear k2 hV1 hf1 hk1 hc2
        cases x with
        | false =>
          have hst2 : Hid ((bestFrom p f (ls.drop (k + 1))).addr = z) := Lib.hid hst1.out
          clear hst1
          go_wp2_with fail
          exact ⟨⟨k + 1, f, by omega, by go_num, hst2, hf2, hk2⟩, by simp [intOf]; omega⟩
        | true =>
          have hst2 : Hid ((bestFrom p (if y then v else f) (ls.drop (k + 1))).addr = z) := Lib.hid hst1.out
          clear hst1
          go_wp2_with (first | ((with_reducible refine at_slot 23 ?_); refine wpList_load_mid_gd (by rfl) 26 (.tmp 7) rfl wr.heap.size 0 rfl _ _ hV2.out.range Try.underlying26 rfl voteInfo ?_) | ((with_reducible refine at_slot 24 ?_); refine wpList_load_mid_gd (by rfl) 26 (.tmp 5) rfl w.heap.size 0 rfl _ _ hf2.out.range Try.underlying26 rfl voteInfo ?_))
          refine (elIsAhead_any v f y _ hy').mono ?_
          rintro e W3 ⟨rfl, k3⟩
          have hV3 := Lib.hid (hV2.out.keep k3 id)
          have hf3 := Lib.hid (hf2.out.keep k3 id)
          have hk3 := Lib.hid (hk2.out.trans k3)
          clear k3 hV2 hf2 hk2
          cases y with
          | false =>
            have hst3 : Hid ((bestFrom p f (ls.drop (k + 1))).addr = z) := Lib.hid hst2.out
            clear hst2
            go_wp2_with fail
            exact ⟨⟨k + 1, f, by omega, by go_num, hst3, hf3, hk3⟩, by simp [intOf]; omega⟩
          | true =>
            have hst3 : Hid ((bestFrom p v (ls.drop (k + 1))).addr = z) := Lib.hid hst2.out
            clear hst2
            go_wp2_with (first | ((with_reducible refine at_slot 27 ?_); refine wpList_load_mid rfl 26 (.tmp 7) rfl wr.heap.size 0 rfl [.int .u32 v.id, .int .u32 v.addr, .int .i64 v.prio, .int .u32 v.dr, .int .u32 v.bdr] _ hV3.out.range Try.underlying26 rfl voteInfo ?_) | ((with_reducible refine at_store 5 ?_); refine wpList_store_mid rfl 26 (.tmp 5) (.tmp 27) rfl w.heap.size 0 #[.int .u32 v.id, .int .u32 v.addr, .int .i64 v.prio, .int .u32 v.dr, .int .u32 v.bdr] rfl rfl (BlkAt.there hf3.out 0 5 (Nat.le_refl 5)) voteInfo (vote_one _ _ _ _ _) ?_))
            have hf4 : Hid (BlkAt (W3.setCells w.heap.size 0 [.int .u32 v.id, .int .u32 v.addr, .int .i64 v.prio, .int .u32 v.dr, .int .u32 v.bdr]) w.heap.size 26 (voteVals v)) := Lib.hid (((((hf3.out.set 0 _).set 1 _).set 2 _).set 3 _).set 4 _)
            have hk4 : Hid (Keeps (fun _ => False) w (W3.setCells w.heap.size 0 [.int .u32 v.id, .int .u32 v.addr, .int .i64 v.prio, .int .u32 v.dr, .int .u32 v.bdr])) := Lib.hid (Keeps.setCells (.inr (Nat.le_refl _)) _ _ _ hk3.out)
            exact ⟨⟨k + 1, v, by omega, by go_num, hst3, hf4, hk4⟩, by simp [intOf]; omega⟩
      · have hst1 : Hid ((bestFrom p f (ls.drop (k + 1))).addr = z) := Lib.hid (by
          have := hst.out
          rw [decide_eq_false hp, Bool.false_and] at this; exact this)
        clear hst
        go_wp2_with (first | ((with_reducible refine at_slot 13 ?_); refine wpList_load_mid rfl 26 (.tmp 12) rfl g (o + k * 5) rfl _ _ hrow.out Try.underlying26 rfl voteInfo ?_) | ((with_reducible refine at_store 7 ?_); refine wpList_store_new rfl 26 (.tmp 7) (.tmp 13) rfl _ _ rfl rfl voteInfo rfl rfl ?_))
        exact ⟨⟨k + 1, f, by omega, by go_num, hst1, hf1, hk1⟩, by simp [intOf]; omega⟩
    · obtain rfl : k = ls.length := by omega
      have hz1 : f.addr = z := by
        have := hbf.out
        rw [List.drop_length] at this; exact this
      have hc1 := hfB.out.cell 1 (.int .u32 f.addr) rfl
      have hz1' := Lib.hid hz1
      clear hbf hz1
      go_wp2_with fail
      go_ret
      exact ⟨by rw [← hz1'.out]; rfl, hkr.out⟩
end Go.Proofs.Ytdjbgjcniacgdaa
