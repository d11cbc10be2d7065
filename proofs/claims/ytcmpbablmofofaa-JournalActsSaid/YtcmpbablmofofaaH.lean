/- Flush, Crash, Read, New, full. -/
import Derived.Test.YtcmpbablmofofaaG
namespace Go.Proofs.Ytcmpbablmofofaa
open Go.RowKit

theorem flush1_any (k : Int) (w : World) : Calls Try.prog 48 #[.int .i64 k] w fun e w' => e = .returned (.bool true) ∧ w = w' := by
  go_enter Try.func48, Try.ntmps48
  go_wp2
  go_ret
  exact ⟨rfl, rfl⟩
theorem crash1_in (k m c kb b o : Nat) (x : Bool) (w : World) (hc : w.cell? ⟨kb, 0, none⟩ = some (.slice (some ⟨b, o, none⟩) m c)) (hk : k < m) (_hm : m ≤ 9223372036854775807) (hx : w.cell? ⟨b, o + k, none⟩ = some (.bool x)) :
    Calls Try.prog 45 #[.int .i64 k, .pointer (some ⟨kb, 0, none⟩)] w fun e w' => e = .returned (.bool x) ∧ w = w' := by
  go_enter Try.func45, Try.ntmps45
  go_wp2
  go_ret
  exact ⟨rfl, rfl⟩
theorem crash1_out (k m c kb : Nat) (p : Option Addr) (w : World) (hc : w.cell? ⟨kb, 0, none⟩ = some (.slice p m c)) (hk : m ≤ k) (_hm : k ≤ 9223372036854775807) :
    Calls Try.prog 45 #[.int .i64 k, .pointer (some ⟨kb, 0, none⟩)] w fun e w' => e = .returned (.bool false) ∧ w = w' := by
  have hd : decide (k < m) = false := decide_eq_false (by omega)
  go_enter Try.func45, Try.ntmps45
  go_wp2
  go_ret
  exact ⟨rfl, rfl⟩

theorem settle_nil (b : Nat) (fv : Value) (w : World) (hc1 : w.cell? ⟨b, 1, none⟩ = some (.slice none 0 0)) (hf1 : w.frozen? ⟨b, 1, none⟩ = false) :
    Calls Try.prog 44 #[.pointer (some ⟨b, 0, none⟩), fv] w fun e w' => e = .returned (.tuple #[]) ∧ w.setCell ⟨b, 1, none⟩ (.slice none 0 0) = w' := by
  go_enter Try.func44, Try.ntmps44
  go_wp2
  go_loopw [12] (fun iv wr => iv = .int .i64 0 ∧ w = wr) (fun _ _ => 0)
  case atStart => exact ⟨rfl, rfl⟩
  case round =>
    obtain ⟨rfl, rfl⟩ := hrel
    go_wp2
    go_end0
    exact ⟨rfl, rfl⟩

theorem settled_eq (D : Dk) (f : Nat → Bool) : D.settled f = stP D.st D.la D.order f D.order.length := by
  funext i; simp [Dk.settled, stP]

theorem settle_mem {D : Dk} {v : Value} {w w' : World} (h : DiskMem w D v) (f : Nat → Bool) {e : Ending} (hs : Settled D.b D.bs D.n D.st D.la D.order f w e w') :
    e = .returned (.tuple #[]) ∧ After D v w (D.settle f) w' := by
  obtain ⟨rfl, w1, rfl, hk, hS⟩ := hs
  refine ⟨rfl, .slice none 0 0, ?_, ?_, ?_⟩
  · have hd1 : w1.heap[D.b]? = w.heap[D.b]? := hk.block _ (lt_of_block h.hd) h.ne
    have hk' : Keeps (fun k => k = D.b) w1 (w1.setCell ⟨D.b, 1, none⟩ (.slice none 0 0)) := (Keeps.refl (fun k => k = D.b) w1).setCell (p := ⟨D.b, 1, none⟩) (.inl rfl) _
    refine ⟨h.n1, h.n2, h.ne, by have := heap_put (hd1.trans h.hd) 1 (.slice none 0 0); simpa [Dk.settle] using this, ?_, ⟨rfl, .inl ⟨rfl, rfl⟩⟩, by simp [Value.ownBlock], by simp [Value.ownBlock], by simp [Dk.settle], by simp [Dk.settle], h.l1, h.l2, fun _ _ _ => rfl⟩
    have := hS.keep hk' (fun e => h.ne e.symm)
    rw [← settled_eq] at this
    simpa [Dk.settle] using this
  · exact (hk.mono (fun k e => .inl (.inr (.inl e)))).setCell (p := ⟨D.b, 1, none⟩) (.inl (.inl rfl)) _
  · rintro k (e | e | e)
    · exact .inl (.inl e)
    · exact .inl (.inr (.inl e))
    · simp [Value.ownBlock] at e

theorem settle_empty {D : Dk} {v : Value} {w : World} (h : DiskMem w D v) (f : Nat → Bool) (ho : D.order = []) (hv : v = .slice none 0 0) :
    Settled D.b D.bs D.n D.st D.la D.order f w (.returned (.tuple #[])) (w.setCell ⟨D.b, 1, none⟩ (.slice none 0 0)) := by
  subst hv
  refine ⟨rfl, w, rfl, Keeps.refl _ _, ?_⟩
  rw [← settled_eq]
  have e : D.settled f = D.st := by funext i; simp [Dk.settled, ho]
  rw [e]
  have hS := h.secs
  exact ⟨hS.blk, hS.lst, hS.lst, hS.rst, fun i hi => by have := hS.rla i hi; rwa [h.sync i hi (by simp [ho])] at this, fun i hi => by have := hS.rwa i hi; simpa [ho] using this⟩

theorem order_cells {D : Dk} {g cap : Nat} {w : World} (h : DiskMem w D (.slice (some ⟨g, 0, none⟩) D.order.length cap)) : ∀ j, j < D.order.length → w.cell? ⟨g, j, none⟩ = some (.int .i64 (D.order.getD j 0)) := by
  intro j hj
  rw [World.ownsRow.cellAt h.ow j (by omega)]
  simp [hj, iv]

theorem settle_flush_any (D : Dk) (v : Value) (w : World) (h : DiskMem w D v) :
    Calls Try.prog 44 #[.pointer (some ⟨D.b, 0, none⟩), .func (.func 48) #[] #[]] w fun e w' => e = .returned (.tuple #[]) ∧ After D v w (D.settle fun _ => true) w' := by
  rcases h.ow.2 with ⟨hv, h0⟩ | ⟨g, cap, cur, hv, _, hg, _⟩
  · have ho : D.order = [] := List.eq_nil_of_length_eq_zero h0
    refine (settle_nil D.b _ w (by rw [h.c1, hv]) (h.fr 1)).mono ?_
    rintro e w' ⟨rfl, rfl⟩
    exact settle_mem h _ (settle_empty h _ ho hv)
  · subst hv
    refine (settle_flush D.b D.bs D.n g cap D.st D.la D.order (fun _ => true) w (Lib.hid h.secs) h.n2 h.olen (Lib.hid h.olt) (Lib.hid h.nodup) (Lib.hid h.sync) h.c0 h.c1 (h.fr 1) h.ne
      (fun e => h.vs (by simp [Value.ownBlock, e])) (Lib.hid (order_cells h)) (lt_of_block hg) (lt_of_block h.hd) (Lib.hid fun k w' _ _ => flush1_any k w')).mono ?_
    intro e w' hs; exact settle_mem h _ hs

/-- a slice of bools reads as these -/
def BoolsAt (w : World) (v : Value) (x : List Bool) : Prop :=
  ∃ p c, v = .slice p x.length c ∧ x.length ≤ 9223372036854775807 ∧ (0 < x.length → ∃ b o, p = some ⟨b, o, none⟩ ∧ w.rangeAt b o (x.map .bool))

theorem settle_crash_any (D : Dk) (v : Value) (w : World) (kb : Nat) (kv : Value) (kept : List Bool) (h : DiskMem w D v) (hk : BoolsAt w kv kept) (hsep : 0 < kept.length → ∀ k, kv.ownBlock = some k → k ≠ D.bs) (hkb : kb ≠ D.bs)
    (hc : w.cell? ⟨kb, 0, none⟩ = some kv) :
    Calls Try.prog 44 #[.pointer (some ⟨D.b, 0, none⟩), .func (.func 45) #[] #[.pointer (some ⟨kb, 0, none⟩)]] w fun e w' => e = .returned (.tuple #[]) ∧ After D v w (D.settle fun k => kept.getD k false) w' := by
  rcases h.ow.2 with ⟨hv, h0⟩ | ⟨g, cap, cur, hv, _, hg, _⟩
  · have ho : D.order = [] := List.eq_nil_of_length_eq_zero h0
    refine (settle_nil D.b _ w (by rw [h.c1, hv]) (h.fr 1)).mono ?_
    rintro e w' ⟨rfl, rfl⟩
    exact settle_mem h _ (settle_empty h _ ho hv)
  · subst hv
    refine (settle_crash D.b D.bs D.n g cap D.st D.la D.order (fun k => kept.getD k false) kb w (Lib.hid h.secs) h.n2 h.olen (Lib.hid h.olt) (Lib.hid h.nodup) (Lib.hid h.sync) h.c0 h.c1 (h.fr 1) h.ne
      (fun e => h.vs (by simp [Value.ownBlock, e])) (Lib.hid (order_cells h)) (lt_of_block hg) (lt_of_block h.hd) (Lib.hid fun k w' hk1 hkp => ?_)).mono ?_
    · obtain ⟨p, c, rfl, hm, hp⟩ := hk
      have hc' : w'.cell? ⟨kb, 0, none⟩ = some (.slice p kept.length c) := by rw [hkp.cell (p := ⟨kb, 0, none⟩) (World.block_lt_of_cell? w _ hc) hkb]; exact hc
      by_cases hkl : k < kept.length
      · obtain ⟨b, o, rfl, hr⟩ := hp (by omega)
        have hx : w'.cell? ⟨b, o + k, none⟩ = some (.bool (kept.getD k false)) := (hkp.rangeAt hr (hsep (by omega) b rfl)) k _ (by simp [hkl])
        exact crash1_in k kept.length c kb b o _ w' hc' hkl hm hx
      · have e : kept.getD k false = false := by simp; rw [List.getElem?_eq_none (by omega)]; rfl
        simp only [e]
        exact crash1_out k kept.length c kb p w' hc' (by omega) (by omega)
    · intro e w' hs; exact settle_mem h _ hs

theorem flush_nil (w : World) : Calls Try.prog 15 #[.pointer none] w fun e w' => e = .returned (.int .i64 1) ∧ w = w' := by
  go_enter Try.func15, Try.ntmps15
  go_wp2
  go_ret
  exact ⟨rfl, rfl⟩
theorem flush_off (b : Nat) (w : World) (h2 : w.cell? ⟨b, 2, none⟩ = some (.bool false)) : Calls Try.prog 15 #[.pointer (some ⟨b, 0, none⟩)] w fun e w' => e = .returned (.int .i64 2) ∧ w = w' := by
  go_enter Try.func15, Try.ntmps15
  go_wp2
  go_ret
  exact ⟨rfl, rfl⟩
theorem flush_fails (b : Nat) (w w1 : World) (h2 : w.cell? ⟨b, 2, none⟩ = some (.bool true)) (hf : Hid (Calls Try.prog 47 #[.pointer (some ⟨b, 0, none⟩)] w fun e w' => e = .returned (.bool true) ∧ w1 = w')) :
    Calls Try.prog 15 #[.pointer (some ⟨b, 0, none⟩)] w fun e w' => e = .returned (.int .i64 2) ∧ w1 = w' := by
  go_enter Try.func15, Try.ntmps15
  go_wp2_with (go_at_call 47; refine hf.out.mono ?_; rintro e w' ⟨rfl, rfl⟩)
  go_ret
  exact ⟨rfl, rfl⟩
theorem flush_goes (b : Nat) (R : World → Prop) (w w1 : World) (h2 : w.cell? ⟨b, 2, none⟩ = some (.bool true)) (hf : Hid (Calls Try.prog 47 #[.pointer (some ⟨b, 0, none⟩)] w fun e w' => e = .returned (.bool false) ∧ w1 = w'))
    (hs : Hid (Calls Try.prog 44 #[.pointer (some ⟨b, 0, none⟩), .func (.func 48) #[] #[]] w1 fun e w' => e = .returned (.tuple #[]) ∧ R w')) :
    Calls Try.prog 15 #[.pointer (some ⟨b, 0, none⟩)] w fun e w' => e = .returned (.int .i64 0) ∧ R w' := by
  go_enter Try.func15, Try.ntmps15
  go_wp2_with (first | (go_at_call 47; refine hf.out.mono ?_; rintro e w' ⟨rfl, rfl⟩) | (go_at_call 44; refine hs.out.mono ?_; rintro e w' ⟨rfl, hR⟩))
  go_ret
  exact ⟨rfl, hR⟩

theorem flush_any (D : Dk) (v : Value) (w : World) (h : DiskMem w D v) :
    Calls Try.prog 15 #[.pointer (some ⟨D.b, 0, none⟩)] w fun e w' => e = .returned (.int .i64 D.flush.1) ∧ After D v w D.flush.2 w' := by
  by_cases hon : D.on = false
  · have e1 : D.flush = (2, D) := by simp [Dk.flush, hon]
    rw [e1]
    refine (flush_off D.b w (by rw [h.c2, hon])).mono ?_
    rintro e w' ⟨rfl, rfl⟩
    exact ⟨rfl, After.refl h⟩
  have hon : D.on = true := by simpa using hon
  have h2 : w.cell? ⟨D.b, 2, none⟩ = some (.bool true) := by rw [h.c2, hon]
  have hw : D.flush = if D.fail.1 then (2, D.fail.2) else (0, D.fail.2.settle fun _ => true) := by unfold Dk.flush; rw [if_neg (by simp [hon])]
  by_cases h0 : D.left = 0
  · have e1 : D.fail = (true, { D with on := false }) := by simp [Dk.fail, h0]
    rw [hw, e1]
    refine (flush_fails D.b w _ h2 (Lib.hid (fails_now D.b (.bool D.on) w (by rw [h.c3, h0]) h.c2 (h.fr 2)))).mono ?_
    rintro e w' ⟨rfl, rfl⟩
    exact ⟨rfl, fail_mem h false D.left h.l1 h.l2 _ (by simpa using heap_put h.hd 2 (.bool false)) ((Keeps.refl (fun k => k = D.b) w).setCell (p := ⟨D.b, 2, none⟩) (.inl rfl) _)⟩
  · have key : ∀ (l : Int) (w1 : World), Calls Try.prog 47 #[.pointer (some ⟨D.b, 0, none⟩)] w (fun e w' => e = .returned (.bool false) ∧ w1 = w') → D.fail = (false, { D with left := l }) →
        After D v w { D with left := l } w1 →
        Calls Try.prog 15 #[.pointer (some ⟨D.b, 0, none⟩)] w fun e w' => e = .returned (.int .i64 D.flush.1) ∧ After D v w D.flush.2 w' := by
      intro l w1 hf e1 ha
      rw [hw, e1]
      obtain ⟨v1, hm, hk1, hf1⟩ := ha
      refine (flush_goes D.b _ w w1 h2 (Lib.hid hf) (Lib.hid (settle_flush_any { D with left := l } v1 w1 hm))).mono ?_
      rintro e w' ⟨rfl, v2, hm2, hk2, hf2⟩
      refine ⟨rfl, v2, hm2, hk1.trans' hk2 hf1, fun k e => ?_⟩
      rcases hf2 k e with e | e
      · exact hf1 k e
      · exact .inr (Nat.le_trans hk1.size e)
    by_cases h1 : 0 < D.left
    · exact key (D.left - 1) _ (fails_later D.b D.left w h1 h.l2 h.c3 (h.fr 3)) (by simp [Dk.fail, h0, h1]) (fail_mem h D.on (D.left - 1) (by omega) (by have := h.l2; omega) _ (by simpa using heap_put h.hd 3 (.int .i64 (D.left - 1)))
        ((Keeps.refl (fun k => k = D.b) w).setCell (p := ⟨D.b, 3, none⟩) (.inl rfl) _))
    · exact key D.left w (fails_never D.b D.left w (by omega) h.c3) (by simp [Dk.fail, h0, h1]) (After.refl h)
end Go.Proofs.Ytcmpbablmofofaa
