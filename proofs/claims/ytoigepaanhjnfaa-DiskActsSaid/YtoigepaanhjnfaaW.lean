/- A disk and the document's disk side by side. -/
import Derived.Test.YtoigepaanhjnfaaV
namespace Go.Proofs.Ytoigepaanhjnfaa
open Go.RowKit
open Go.Maps

structure L2 (F : Nat → Prop) (b rb : Nat) (D Dr : Dk) (N : Nat) (v sv ov : Value) (mb : Nat) (ar : Int) (w : World) : Prop where
  db : D.b = b
  dm : DiskMem w D v
  rm : RefMem w Dr N rb sv ov mb ar
  df : ∀ k, foot D v k → F k
  rf : ∀ k, rfoot rb sv ov mb k → F k
  dj : ∀ k, foot D v k → ¬ rfoot rb sv ov mb k

def L2x (F : Nat → Prop) (b rb : Nat) (D Dr : Dk) (N : Nat) (w : World) : Prop := ∃ v sv ov mb ar, L2 F b rb D Dr N v sv ov mb ar w

section
variable {F G : Nat → Prop} {b rb : Nat} {D Dr D' : Dk} {N N' : Nat} {v sv ov : Value} {mb : Nat} {ar : Int} {w w' : World}
theorem L2.keep (h : L2 F b rb D Dr N v sv ov mb ar w) (k : Keeps G w w') (hG : ∀ i, i < w.heap.size → F i → ¬ G i) : L2 F b rb D Dr N v sv ov mb ar w' :=
  ⟨h.db, h.dm.keep k (fun i e => hG i (h.dm.lt i e) (h.df i e)), h.rm.keep k (fun i e => hG i (h.rm.lt i e) (h.rf i e)), h.df, h.rf, h.dj⟩
theorem L2.keepF (h : L2 F b rb D Dr N v sv ov mb ar w) (k : Keeps (fun _ => False) w w') : L2 F b rb D Dr N v sv ov mb ar w' := h.keep k (fun _ _ _ => id)
theorem L2.turn (h : L2 F b rb D Dr N v sv ov mb ar w) (hG : ∀ k, k < w.heap.size → F k → G k) : L2 G b rb D Dr N v sv ov mb ar w :=
  ⟨h.db, h.dm, h.rm, fun k e => hG k (h.dm.lt k e) (h.df k e), fun k e => hG k (h.rm.lt k e) (h.rf k e), h.dj⟩
theorem L2x.turn (h : L2x F b rb D Dr N w) (hG : ∀ k, k < w.heap.size → F k → G k) : L2x G b rb D Dr N w := by
  obtain ⟨v, sv, ov, mb, ar, h⟩ := h; exact ⟨v, sv, ov, mb, ar, h.turn hG⟩
theorem L2x.keepF (h : L2x F b rb D Dr N w) (k : Keeps (fun _ => False) w w') : L2x F b rb D Dr N w' := by
  obtain ⟨v, sv, ov, mb, ar, h⟩ := h; exact ⟨v, sv, ov, mb, ar, h.keepF k⟩
theorem L2.disk (h : L2 F b rb D Dr N v sv ov mb ar w) (hF : ∀ k, w.heap.size ≤ k → F k) (hb : D'.b = b) (ha : After D v w D' w') : L2x F b rb D' Dr N w' ∧ Keeps F w w' := by
  obtain ⟨v', hm, hk, hf⟩ := ha
  refine ⟨⟨v', sv, ov, mb, ar, hb, hm, h.rm.keep hk (fun i e1 e2 => h.dj i e2 e1), fun k e => ?_, h.rf, fun k e e2 => ?_⟩, hk.mono (fun k e => .inl (h.df k e))⟩
  · rcases hf k e with e | e
    · exact h.df k e
    · exact hF k e
  · rcases hf k e with e | e
    · exact h.dj k e e2
    · have := h.rm.lt k e2; omega
theorem L2.ref (h : L2 F b rb D Dr N v sv ov mb ar w) (hF : ∀ k, w.heap.size ≤ k → F k) (ha : RAfter N' Dr rb sv ov mb w D' w') : L2x F b rb D D' N' w' ∧ Keeps F w w' := by
  obtain ⟨sv', ov', mb', ar', hm, hk, hf⟩ := ha
  refine ⟨⟨v, sv', ov', mb', ar', h.db, h.dm.keep hk (fun i e1 e2 => h.dj i e1 e2), hm, h.df, fun k e => ?_, fun k e e2 => ?_⟩, hk.mono (fun k e => .inl (h.rf k e))⟩
  · rcases hf k e with e | e
    · exact h.rf k e
    · exact hF k e
  · rcases hf k e2 with e2 | e2
    · exact h.dj k e e2
    · have := h.dm.lt k e; omega
theorem L2x.mono (h : L2x F b rb D Dr N w) (hN : N ≤ N') : L2x F b rb D Dr N' w := by
  obtain ⟨v, sv, ov, mb, ar, h⟩ := h; exact ⟨v, sv, ov, mb, ar, h.db, h.dm, h.rm.mono hN, h.df, h.rf, h.dj⟩
end

theorem Dk.write_b (D : Dk) (i : Int) (x : List UInt8) : (D.write i x).2.b = D.b := by
  unfold Dk.write Dk.fail Dk.put
  repeat' split
  all_goals rfl
theorem Dk.write_n (D : Dk) (i : Int) (x : List UInt8) : (D.write i x).2.n = D.n := by
  unfold Dk.write Dk.fail Dk.put
  repeat' split
  all_goals rfl
theorem Dk.flush_n (D : Dk) : D.flush.2.n = D.n := by
  unfold Dk.flush Dk.fail Dk.settle
  repeat' split
  all_goals rfl
theorem Dk.flush_b (D : Dk) : D.flush.2.b = D.b := by
  unfold Dk.flush Dk.fail Dk.settle
  repeat' split
  all_goals rfl

section
variable {F : Nat → Prop} {b rb : Nat} {D Dr : Dk} {N : Nat} {w : World}
theorem l2_write (i : Int) (sl : Value) (x : List UInt8) (h : L2x F b rb D Dr N w) (hF : ∀ k, w.heap.size ≤ k → F k) (hx : BytesAt w sl x) (hsep : ∀ k, sl.ownBlock = some k → ¬ F k) :
    Calls Try.prog 14 #[.pointer (some ⟨b, 0, none⟩), .int .i64 i, sl] w fun e w' => e = .returned (.int .i64 (D.write i x).1) ∧ L2x F b rb (D.write i x).2 Dr N w' ∧ Keeps F w w' := by
  obtain ⟨v, sv, ov, mb, ar, h⟩ := h
  obtain rfl := h.db
  refine (write_any D v w i sl x h.dm hx (fun k hk e => hsep k hk (h.df k (.inl e)))).mono ?_
  rintro e w' ⟨rfl, ha⟩
  exact ⟨rfl, h.disk hF (Dk.write_b D i x) ha⟩
theorem l2_rwrite (i : Int) (s : ByteArray) (h : L2x F b rb D Dr N w) (hF : ∀ k, w.heap.size ≤ k → F k) (hN : N < 1000) (hl : Dr.left ≤ 9223372036854775807) :
    Calls Try.prog 23 #[.pointer (some ⟨rb, 0, none⟩), .int .i64 i, .string s] w fun e w' => e = .returned (.int .i64 (Dr.write i s.data.toList).1) ∧ L2x F b rb D (Dr.write i s.data.toList).2 (N + 1) w' ∧ Keeps F w w' := by
  obtain ⟨v, sv, ov, mb, ar, h⟩ := h
  refine (rwrite_any Dr N rb sv ov mb ar w i s h.rm hN hl).mono ?_
  rintro e w' ⟨rfl, ha⟩
  exact ⟨rfl, h.ref hF ha⟩
theorem l2_rwrite0 (i : Int) (s : ByteArray) (x : List UInt8) (hs : s.data.toList = x) (h : L2x F b rb D Dr N w) (hF : ∀ k, w.heap.size ≤ k → F k) (hN : N < 1000) (hl : Dr.left ≤ 9223372036854775807) :
    Calls Try.prog 23 #[.pointer (some ⟨rb, 0, none⟩), .int .i64 i, .string s] w fun e w' => e = .returned (.int .i64 (Dr.write i x).1) ∧ L2x F b rb D (Dr.write i x).2 (N + 1) w' ∧ Keeps F w w' := by
  subst hs; exact l2_rwrite i s h hF hN hl
theorem l2_flush (h : L2x F b rb D Dr N w) (hF : ∀ k, w.heap.size ≤ k → F k) :
    Calls Try.prog 15 #[.pointer (some ⟨b, 0, none⟩)] w fun e w' => e = .returned (.int .i64 D.flush.1) ∧ L2x F b rb D.flush.2 Dr N w' ∧ Keeps F w w' := by
  obtain ⟨v, sv, ov, mb, ar, h⟩ := h
  obtain rfl := h.db
  refine (flush_any D v w h.dm).mono ?_
  rintro e w' ⟨rfl, ha⟩
  exact ⟨rfl, h.disk hF (Dk.flush_b D) ha⟩
theorem l2_rflush (h : L2x F b rb D Dr N w) (hF : ∀ k, w.heap.size ≤ k → F k) (hl : Dr.left ≤ 9223372036854775807) :
    Calls Try.prog 24 #[.pointer (some ⟨rb, 0, none⟩)] w fun e w' => e = .returned (.int .i64 Dr.flush.1) ∧ L2x F b rb D Dr.flush.2 N w' ∧ Keeps F w w' := by
  obtain ⟨v, sv, ov, mb, ar, h⟩ := h
  refine (rflush_any Dr N rb sv ov mb ar w h.rm hl).mono ?_
  rintro e w' ⟨rfl, ha⟩
  exact ⟨rfl, h.ref hF ha⟩
theorem l2_crash (kv : Value) (kept : List Bool) (h : L2x F b rb D Dr N w) (hF : ∀ k, w.heap.size ≤ k → F k) (hk : BoolsAt w kv kept) (hsep : 0 < kept.length → ∀ k, kv.ownBlock = some k → ¬ F k) :
    Calls Try.prog 11 #[.pointer (some ⟨b, 0, none⟩), kv] w fun e w' => e = .returned (.tuple #[]) ∧ L2x F b rb (D.crash kept) Dr N w' ∧ Keeps F w w' := by
  obtain ⟨v, sv, ov, mb, ar, h⟩ := h
  obtain rfl := h.db
  refine (crash_any D v w kv kept h.dm hk (fun h0 k hk e => hsep h0 k hk (h.df k (.inr (.inl e))))).mono ?_
  rintro e w' ⟨rfl, ha⟩
  exact ⟨rfl, h.disk hF rfl ha⟩
theorem l2_rcrash (kv : Value) (kept : List Bool) (h : L2x F b rb D Dr N w) (hF : ∀ k, w.heap.size ≤ k → F k) (hk : BoolsAt w kv kept) (hsep : 0 < kept.length → ∀ k, kv.ownBlock = some k → ¬ F k) :
    Calls Try.prog 25 #[.pointer (some ⟨rb, 0, none⟩), kv] w fun e w' => e = .returned (.tuple #[]) ∧ L2x F b rb D (Dr.crash kept) N w' ∧ Keeps F w w' := by
  obtain ⟨v, sv, ov, mb, ar, h⟩ := h
  refine (rcrash_any Dr N rb sv ov mb ar w kv kept h.rm hk (fun h0 k hk e => hsep h0 k hk (h.rf k e))).mono ?_
  rintro e w' ⟨rfl, ha⟩
  exact ⟨rfl, h.ref hF ha⟩
theorem l2_arm (s : Int) (hs1 : -9223372036854775808 ≤ s) (hs2 : s ≤ 9223372036854775807) (h : L2x F b rb D Dr N w) (hF : ∀ k, w.heap.size ≤ k → F k) :
    Calls Try.prog 10 #[.pointer (some ⟨b, 0, none⟩), .int .i64 s] w fun e w' => e = .returned (.tuple #[]) ∧ L2x F b rb { D with left := s } Dr N w' ∧ Keeps F w w' := by
  obtain ⟨v, sv, ov, mb, ar, h⟩ := h
  obtain rfl := h.db
  have hm := h.dm
  refine (arm_any D.b _ s w hm.c3 (hm.fr 3)).mono ?_
  rintro e w' ⟨rfl, rfl⟩
  exact ⟨rfl, h.disk hF rfl (fail_mem hm D.on s hs1 hs2 _ (by simpa using heap_put hm.hd 3 (.int .i64 s)) ((Keeps.refl (fun k => k = D.b) w).setCell (p := ⟨D.b, 3, none⟩) (.inl rfl) _))⟩
theorem l2_rread (i : Int) (h : L2x F b rb D Dr N w) :
    Calls Try.prog 21 #[.pointer (some ⟨rb, 0, none⟩), .int .i64 i] w fun e w' => e = .returned (.tuple #[strv (Dr.readv i), .int .i64 (Dr.read i)]) ∧ w = w' := by
  obtain ⟨v, sv, ov, mb, ar, h⟩ := h
  exact rread_any Dr N rb sv ov mb ar w i h.rm
/-- Read: what comes back reads as what was written last, or is nothing -/
def ReadGives (D : Dk) (w : World) (i : Int) (e : Ending) (w' : World) : Prop :=
  ∃ sl : Value, e = .returned (.tuple #[sl, .int .i64 (D.read i)]) ∧ (∀ W, Keeps (fun _ => False) w' W → (convert 27 9 sl).run Try.prog W = .ok (strv (D.readv i)) W) ∧ Keeps (fun _ => False) w w'
theorem l2_read (i : Int) (h : L2x F b rb D Dr N w) :
    Calls Try.prog 12 #[.pointer (some ⟨b, 0, none⟩), .int .i64 i] w (ReadGives D w i) := by
  obtain ⟨v, sv, ov, mb, ar, h⟩ := h
  obtain rfl := h.db
  by_cases hr : D.read i = 0
  · have hon : D.on = true := by
      by_cases hon : D.on = true
      · exact hon
      · simp [Dk.read, hon] at hr
    have hi : 0 ≤ i ∧ i < D.n := by
      by_cases hi : 0 ≤ i ∧ i < D.n
      · exact hi
      · unfold Dk.read at hr; rw [if_neg (by simp [hon]), if_pos hi] at hr; cases hr
    obtain ⟨k, rfl⟩ := Int.eq_ofNat_of_zero_le hi.1
    have hk : k < D.n := by omega
    refine (read_yes D v w k h.dm hon hk).mono ?_
    rintro e w' ⟨rfl, rfl⟩
    refine ⟨_, by rw [hr], fun W hW => ?_, (Keeps.refl _ _).alloc _⟩
    have hl := h.dm.secs.lla k hk
    have e1 : D.readv k = D.la k := by unfold Dk.readv; rw [if_pos hr]; rfl
    rw [e1]
    exact conv64 w.heap.size 64 (D.la k) hl _ (hW.rangeAt (fun j u hu => by rw [← Addr.add_mid]; exact cells_new rfl _ _ j u hu) id)
  · refine (read_bad D v w i h.dm hr).mono ?_
    rintro e w' ⟨rfl, rfl⟩
    refine ⟨_, rfl, fun W hW => ?_, Keeps.refl _ _⟩
    have e1 : D.readv i = [] := by unfold Dk.readv; rw [if_neg hr]
    rw [e1]; exact conv_nil W
theorem l2_on (h : L2x F b rb D Dr N w) : Calls Try.prog 16 #[.pointer (some ⟨b, 0, none⟩)] w fun e w' => e = .returned (.bool D.on) ∧ w = w' := by
  obtain ⟨v, sv, ov, mb, ar, h⟩ := h
  obtain rfl := h.db
  exact on_any D.b D.on w h.dm.c2
theorem l2_waits (h : L2x F b rb D Dr N w) : Calls Try.prog 18 #[.pointer (some ⟨b, 0, none⟩)] w fun e w' => e = .returned (.int .i64 D.order.length) ∧ w = w' := by
  obtain ⟨v, sv, ov, mb, ar, h⟩ := h
  obtain rfl := h.db
  obtain ⟨p, c, hp⟩ := ownsRow_slice h.dm.ow
  exact waits_any D.b D.order.length c p w (by rw [h.dm.c1, hp])
theorem l2_size (h : L2x F b rb D Dr N w) : Calls Try.prog 17 #[.pointer (some ⟨b, 0, none⟩)] w fun e w' => e = .returned (.int .i64 D.n) ∧ w = w' := by
  obtain ⟨v, sv, ov, mb, ar, h⟩ := h
  obtain rfl := h.db
  exact size_any D.b D.n _ w h.dm.c0
theorem L2x.left (h : L2x F b rb D Dr N w) : -9223372036854775808 ≤ D.left ∧ D.left ≤ 9223372036854775807 := by
  obtain ⟨v, sv, ov, mb, ar, h⟩ := h; exact ⟨h.dm.l1, h.dm.l2⟩
theorem L2x.cells (h : L2x F b rb D Dr N w) : ∃ q c ar, w.cell? ⟨rb, 1, none⟩ = some (.slice q Dr.order.length c) ∧ w.cell? ⟨rb, 3, none⟩ = some (.bool (!Dr.on)) ∧ w.cell? ⟨rb, 4, none⟩ = some (.int .i64 ar) ∧ w.frozen? ⟨rb, 4, none⟩ = false := by
  obtain ⟨v, sv, ov, mb, ar, h⟩ := h
  obtain ⟨q, c, hq⟩ := ownsRow_slice h.rm.ord
  exact ⟨q, c, ar, by rw [h.rm.c1, hq], h.rm.c3, h.rm.c4, h.rm.fr 4⟩
theorem L2x.stay (h : L2x F b rb D Dr N w) : ∃ sg cap, w.cell? ⟨rb, 0, none⟩ = some (.slice (some ⟨sg, 0, none⟩) Dr.n cap) ∧ ∀ i, i < Dr.n → w.cell? ⟨sg, i, none⟩ = some (strv (Dr.st i)) := by
  obtain ⟨v, sv, ov, mb, ar, h⟩ := h
  have hr := h.rm
  obtain ⟨sg, cap, rfl⟩ := hr.sslice
  exact ⟨sg, cap, hr.c0, fun i hi => hr.scell rfl i hi⟩
/-- armed, both -/
theorem L2x.armed {s : Int} (h : L2x F b rb { D with left := s } D N w) (hF : ∀ k, w.heap.size ≤ k → F k) (hon : D.on = true) (hs1 : -9223372036854775808 ≤ s) (hs2 : s ≤ 9223372036854775807) :
    L2x F b rb { D with left := s } { D with left := s } N (w.setCell ⟨rb, 4, none⟩ (.int .i64 (max s (-1)))) ∧ Keeps F w (w.setCell ⟨rb, 4, none⟩ (.int .i64 (max s (-1)))) := by
  obtain ⟨v, sv, ov, mb, ar, h⟩ := h
  have hr := h.rm
  have hk : Keeps (fun k => k = rb) w (w.setCell ⟨rb, 4, none⟩ (.int .i64 (max s (-1)))) := (Keeps.refl (fun k => k = rb) w).setCell (p := ⟨rb, 4, none⟩) (.inl rfl) _
  refine h.ref hF (poke_after hr (hr.poke D.on s (max s (-1)) ?_ hk ?_ ?_ ?_ ?_) hk)
  · simpa using heap_put hr.hd 4 (.int .i64 (max s (-1)))
  · intro _; omega
  · rw [hon]; intro h; cases h
  · omega
  · omega
theorem L2x.armed_off {s : Int} (h : L2x F b rb { D with left := s } D N w) (hon : D.on = false) : L2x F b rb { D with left := s } { D with left := s } N w := by
  obtain ⟨v, sv, ov, mb, ar, h⟩ := h
  have hr := h.rm
  exact ⟨v, sv, ov, mb, ar, h.db, h.dm, hr.poke D.on s ar hr.hd (Keeps.refl _ _) (by rw [hon]; intro h; cases h) (fun _ => hr.aoff hon) hr.a1 hr.a2, h.df, h.rf, h.dj⟩
end
end Go.Proofs.Ytoigepaanhjnfaa
