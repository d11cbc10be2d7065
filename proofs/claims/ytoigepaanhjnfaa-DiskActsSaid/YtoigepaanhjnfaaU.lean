/- The document's disk: Flush and Crash, whole. -/
import Derived.Test.YtoigepaanhjnfaaT
namespace Go.Proofs.Ytoigepaanhjnfaa
open Go.RowKit
open Go.Maps

theorem rflush_off (b : Nat) (w : World) (h2 : w.cell? ⟨b, 3, none⟩ = some (.bool true)) : Calls Try.prog 24 #[.pointer (some ⟨b, 0, none⟩)] w fun e w' => e = .returned (.int .i64 2) ∧ w = w' := by
  go_enter Try.func24, Try.ntmps24
  go_wp2
  go_ret
  exact ⟨rfl, rfl⟩
theorem rflush_fails (b : Nat) (w w1 : World) (h2 : w.cell? ⟨b, 3, none⟩ = some (.bool false)) (hf : Hid (Calls Try.prog 49 #[.pointer (some ⟨b, 0, none⟩)] w fun e w' => e = .returned (.bool true) ∧ w1 = w')) :
    Calls Try.prog 24 #[.pointer (some ⟨b, 0, none⟩)] w fun e w' => e = .returned (.int .i64 2) ∧ w1 = w' := by
  go_enter Try.func24, Try.ntmps24
  go_wp2_with (go_at_call 49; refine hf.out.mono ?_; rintro e w' ⟨rfl, rfl⟩)
  go_ret
  exact ⟨rfl, rfl⟩

theorem rflush_any (D : Dk) (N rb : Nat) (sv ov : Value) (mb : Nat) (ar : Int) (w : World) (h : RefMem w D N rb sv ov mb ar) (hlft : D.left ≤ 9223372036854775807) :
    Calls Try.prog 24 #[.pointer (some ⟨rb, 0, none⟩)] w fun e w' => e = .returned (.int .i64 D.flush.1) ∧ RAfter N D rb sv ov mb w D.flush.2 w' := by
  by_cases hon : D.on = false
  · have e1 : D.flush = (2, D) := by simp [Dk.flush, hon]
    rw [e1]
    refine (rflush_off rb w (by rw [h.c3, hon]; rfl)).mono ?_
    rintro e w' ⟨rfl, rfl⟩
    exact ⟨rfl, h.after (Nat.le_refl _)⟩
  have hon : D.on = true := by simpa using hon
  have h3 : w.cell? ⟨rb, 3, none⟩ = some (.bool false) := by rw [h.c3, hon]; rfl
  have hw : D.flush = if D.fail.1 then (2, D.fail.2) else (0, D.fail.2.settle fun _ => true) := by unfold Dk.flush; rw [if_neg (by simp [hon])]
  obtain ⟨w1, ar1, hf, hm1, hk1⟩ := rgoes_mem h hon hlft
  rw [hw]
  cases hfl : D.fail.1
  · rw [hfl] at hf
    obtain ⟨sg, cap, rfl⟩ := h.sslice
    obtain ⟨q, c, hov⟩ := ownsRow_slice hm1.ord
    have hn1 : D.fail.2.n = D.n := by unfold Dk.fail; split; rfl; split <;> rfl
    rw [← hn1, hov] at hm1
    refine (rflush_loop w w1 D.fail.2 N rb sg cap c mb q ar1 (Lib.hid hm1) h3 (Lib.hid hf) hm1.n2 hm1.olen).mono ?_
    rintro e w' ⟨rfl, ha⟩
    rw [← hov, hn1] at ha
    exact ⟨rfl, RAfter.from hk1 ha⟩
  · rw [hfl] at hf
    refine (rflush_fails rb w w1 h3 (Lib.hid hf)).mono ?_
    rintro e w' ⟨rfl, rfl⟩
    exact ⟨rfl, RAfter.from hk1 (hm1.after (Nat.le_refl _))⟩

section
variable {w wr w' : World} {D : Dk} {f : Nat → Bool} {N rb k sg cap : Nat} {ov : Value} {mb : Nat} {ar : Int}
theorem RF.crashed (h : RF D f N rb (.slice (some ⟨sg, 0, none⟩) D.n cap) ov mb ar w k wr) (hst : stP D.st D.la D.order f k = D.settled f) :
    RAfter N D rb (.slice (some ⟨sg, 0, none⟩) D.n cap) ov mb w { D.settle f with on := true, left := -1 }
      (((((wr.setCell ⟨rb, 1, none⟩ (.slice none 0 0)).setCell ⟨rb, 2, none⟩ (.map (some wr.heap.size))).setCell ⟨rb, 3, none⟩ (.bool false)).setCell ⟨rb, 4, none⟩ (.int .i64 (-1))).alloc (.map #[] 0)) := by
  have hm := h.mem
  have hk2 : Keeps (fun j => j = rb) wr ((((wr.setCell ⟨rb, 1, none⟩ (.slice none 0 0)).setCell ⟨rb, 2, none⟩ (.map (some wr.heap.size))).setCell ⟨rb, 3, none⟩ (.bool false)).setCell ⟨rb, 4, none⟩ (.int .i64 (-1))) :=
    ((((Keeps.refl (fun j => j = rb) _).setCell (p := ⟨rb, 1, none⟩) (.inl rfl) _).setCell (p := ⟨rb, 2, none⟩) (.inl rfl) _).setCell (p := ⟨rb, 3, none⟩) (.inl rfl) _).setCell (p := ⟨rb, 4, none⟩) (.inl rfl) _
  have lrb := lt_of_block hm.hd
  refine settle_hd h hst (hk2.alloc _) (by have := heap_alloc_last ((((wr.setCell ⟨rb, 1, none⟩ (.slice none 0 0)).setCell ⟨rb, 2, none⟩ (.map (some wr.heap.size))).setCell ⟨rb, 3, none⟩ (.bool false)).setCell ⟨rb, 4, none⟩ (.int .i64 (-1))) (.map #[] 0); simpa using this) true (-1) (-1) ?_ (fun _ => .inr ⟨rfl, by omega⟩) (by simp) (by omega) (by omega)
  rw [Below.heap_alloc _ _ _ (by simpa using lrb)]
  simpa using heap_put (heap_put (heap_put (heap_put hm.hd 1 (.slice none 0 0)) 2 (.map (some wr.heap.size))) 3 (.bool false)) 4 (.int .i64 (-1))
end

set_option maxRecDepth 100000 in
set_option maxHeartbeats 1000000 in
theorem rcrash_loop (w : World) (D : Dk) (N rb sg cap ocap mb : Nat) (q : Option Addr) (ar : Int) (pk : Option Addr) (kept : List Bool) (ck : Nat) (h : Hid (RefMem w D N rb (.slice (some ⟨sg, 0, none⟩) D.n cap) (.slice q D.order.length ocap) mb ar))
    (hn : D.n ≤ 1024) (hol : D.order.length ≤ 1024) (hkl : kept.length ≤ 9223372036854775807) (hkp : Hid (0 < kept.length → ∃ b o, pk = some ⟨b, o, none⟩ ∧ b ≠ sg ∧ w.rangeAt b o (kept.map .bool))) :
    Calls Try.prog 25 #[.pointer (some ⟨rb, 0, none⟩), .slice pk kept.length ck] w fun e w' => e = .returned (.tuple #[]) ∧ RAfter N D rb (.slice (some ⟨sg, 0, none⟩) D.n cap) (.slice q D.order.length ocap) mb w (D.crash kept) w' := by
  have hmm := @run_makeMap Try.prog
  go_enter Try.func25, Try.ntmps25
  go_wp2_with fail
  go_loopw [4] (fun iv wr => ∃ k : Nat, k ≤ D.order.length ∧ iv = .int .i64 k ∧ Hid (RF D (fun k => kept.getD k false) N rb (.slice (some ⟨sg, 0, none⟩) D.n cap) (.slice q D.order.length ocap) mb ar w k wr)) (fun iv _ => D.order.length - (intOf iv).toNat)
  case atStart => exact ⟨0, by omega, rfl, RF.start h.out⟩
  case round =>
    obtain ⟨k, hk, rfl, hP⟩ := hrel
    obtain ⟨h0, h1, h2⟩ := hP.out.facts
    by_cases hlk : k < D.order.length
    · by_cases hkk : k < kept.length
      · obtain ⟨i, hi⟩ : ∃ i : Nat, i = D.order.getD k 0 := ⟨_, rfl⟩
        obtain ⟨hin, ⟨og, rfl, hoc⟩, ⟨o, hsc⟩, hsf, hl⟩ := hP.out.round hlk hi
        have hi' := Lib.hid hi; clear hi
        obtain ⟨sx, hsx⟩ : ∃ sx : ByteArray, sx = ⟨(D.la i).toArray⟩ := ⟨_, rfl⟩
        rw [show strv (D.la i) = .string sx by rw [hsx]; rfl] at hl
        have hsx' := Lib.hid hsx; clear hsx
        obtain ⟨kb, ko, rfl, hkne, hkr⟩ := hkp.out (by omega)
        have hkc : wr.cell? ⟨kb, ko + k, none⟩ = some (.bool (kept.getD k false)) := (hP.out.keeps.rangeAt hkr (fun e => hkne (by simpa [Value.ownBlock] using e.symm))) k _ (by simp [hkk])
        clear hkr
        cases hv : kept.getD k false
        · rw [hv] at hkc
          have hP2 := Lib.hid (hP.out.next_skip hlk hv)
          have hv' := Lib.hid hv; clear hv
          go_wp2_with fail
          exact ⟨⟨k + 1, by omega, by go_num, hP2⟩, by simp [intOf]; omega⟩
        · rw [hv] at hkc
          have hv' := Lib.hid hv; clear hv
          go_wp2_with fail
          go_still_tail 24, (by kernel_rfl)
          change wpList _ _ _ _ _ wr.drew
          go_wp2_with fail
          exact ⟨⟨k + 1, by omega, by go_num, by rw [hsx'.out]; exact hP.out.next hlk hi'.out hv'.out⟩, by simp [intOf]; omega⟩
      · obtain ⟨f0, f1, f2, f3, f4, f5, f6⟩ := hP.out.facts2
        have hst := Lib.hid (stP_done' (D := D) (k := k) (f := fun k => kept.getD k false) (fun j hj => by simp [List.getElem?_eq_none (show kept.length ≤ j by omega)]))
        go_wp2_with fail
        go_end0
        exact ⟨rfl, hP.out.crashed hst.out⟩
    · obtain ⟨f0, f1, f2, f3, f4, f5, f6⟩ := hP.out.facts2
      go_wp2_with fail
      go_end0
      exact ⟨rfl, hP.out.crashed (stP_done (by omega))⟩

theorem rcrash_any (D : Dk) (N rb : Nat) (sv ov : Value) (mb : Nat) (ar : Int) (w : World) (kv : Value) (kept : List Bool) (h : RefMem w D N rb sv ov mb ar) (hk : BoolsAt w kv kept) (hsep : 0 < kept.length → ∀ k, kv.ownBlock = some k → ¬ rfoot rb sv ov mb k) :
    Calls Try.prog 25 #[.pointer (some ⟨rb, 0, none⟩), kv] w fun e w' => e = .returned (.tuple #[]) ∧ RAfter N D rb sv ov mb w (D.crash kept) w' := by
  obtain ⟨pk, ck, rfl, hkl, hkp⟩ := hk
  obtain ⟨sg, cap, rfl⟩ := h.sslice
  obtain ⟨q, c, rfl⟩ := ownsRow_slice h.ord
  exact rcrash_loop w D N rb sg cap c mb q ar pk kept ck (Lib.hid h) h.n2 h.olen hkl (Lib.hid fun h0 => by
    obtain ⟨b, o, rfl, hr⟩ := hkp h0
    exact ⟨b, o, rfl, fun e => hsep h0 b rfl (.inr (.inl (by rw [e]; rfl))), hr⟩)
end Go.Proofs.Ytoigepaanhjnfaa
