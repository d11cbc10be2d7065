/- waits, and what a disk of a law's own is. -/
import Derived.Test.YtcmpbablmofofaaJ
import Derived.Deep.RegionHeld3
import Derived.Laws.IdiomStrings
namespace Go.Proofs.Ytcmpbablmofofaa
open Go.RowKit

theorem Dk.write_on (D : Dk) (i : Nat) (x : List UInt8) (hon : D.on = true) (hl : D.left < 0) (hi : i < D.n) (hx : x.length = 64) : D.write i x = (0, D.put i x) := by
  have e1 : D.fail = (false, D) := by unfold Dk.fail; rw [if_neg (by omega), if_neg (by omega)]
  unfold Dk.write
  rw [if_neg (by simp [hon]), if_neg (by simp [hx]; omega), e1]
  simp

theorem New64.bytes {x : UInt8} {w w' : World} {e : Ending} (h : New64 x w e w') : BytesAt w' (.slice (some ⟨w.heap.size, 0, none⟩) 64 64) (rep64 x) :=
  ⟨some ⟨w.heap.size, 0, none⟩, 64, by rw [rep64_len], (fun e => by cases e), by rw [rep64_len]; exact Nat.le_refl _, fun _ => ⟨w.heap.size, 0, rfl, h.2.2.1⟩⟩

theorem DiskMem.keepF {w w' : World} {D : Dk} {v : Value} (h : DiskMem w D v) (k : Keeps (fun _ => False) w w') : DiskMem w' D v := h.keep k (fun _ _ => id)

/-! steps through a region that draws its order, the operation read off the list -/
section
variable {P : Program} {l : List Oper} {Q : Exit → Act → World → Prop} {md : Region.Mode} {S : World → Prop}
end

/-- a disk that lies wholly in blocks of F -/
def OwnDisk (F : Nat → Prop) (D : Dk) (w : World) : Prop := ∃ v, DiskMem w D v ∧ ∀ k, foot D v k → F k
theorem OwnDisk.keepF {F : Nat → Prop} {D : Dk} {w w' : World} (h : OwnDisk F D w) (k : Keeps (fun _ => False) w w') : OwnDisk F D w' := by
  obtain ⟨v, hm, hf⟩ := h; exact ⟨v, hm.keepF k, hf⟩
theorem OwnDisk.after {F : Nat → Prop} {D D' : Dk} {v : Value} {w w' : World} (h : DiskMem w D v) (hf : ∀ k, foot D v k → F k) (hB : ∀ k, w.heap.size ≤ k → F k) (ha : After D v w D' w') : OwnDisk F D' w' ∧ Keeps F w w' := by
  obtain ⟨v', hm, hk, hft⟩ := ha
  exact ⟨⟨v', hm, fun k e => by rcases hft k e with e | e; exact hf k e; exact hB k e⟩, hk.mono (fun k e => .inl (hf k e))⟩

theorem OwnDisk.turn {F G : Nat → Prop} {D : Dk} {w : World} (h : OwnDisk F D w) (hG : ∀ k, k < w.heap.size → F k → G k) : OwnDisk G D w := by
  obtain ⟨v, hm, hf⟩ := h; exact ⟨v, hm, fun k e => hG k (hm.lt k e) (hf k e)⟩
theorem OwnDisk.keep {F G : Nat → Prop} {D : Dk} {w w' : World} (h : OwnDisk F D w) (k : Keeps G w w') (hG : ∀ i, i < w.heap.size → F i → ¬ G i) : OwnDisk F D w' := by
  obtain ⟨v, hm, hf⟩ := h; exact ⟨v, hm.keep k (fun i e => hG i (hm.lt i e) (hf i e)), hf⟩
theorem OwnDisk.lt {F : Nat → Prop} {D : Dk} {w : World} (h : OwnDisk F D w) : D.b < w.heap.size ∧ D.bs < w.heap.size := by
  obtain ⟨v, hm, hf⟩ := h; exact ⟨hm.lt _ (.inl rfl), hm.lt _ (.inr (.inl rfl))⟩
theorem OwnDisk.drewN {F : Nat → Prop} {D : Dk} {w : World} (h : OwnDisk F D w) (n : Nat) : OwnDisk F D (w.drewN n) := h.keepF ((Keeps.refl _ _).drewN n)
theorem OwnDisk.drew {F : Nat → Prop} {D : Dk} {w : World} (h : OwnDisk F D w) : OwnDisk F D w.drew := h.keepF ((Keeps.refl _ _).drew)

theorem conv64 (g c : Nat) (l : List UInt8) (hl : l.length = 64) : ∀ W : World, W.rangeAt g 0 (l.map bv) → (convert 27 9 (.slice (some ⟨g, 0, none⟩) 64 c)).run Try.prog W = .ok (.string ⟨l.toArray⟩) W := fun W h => by
  have := conv_str g 0 c l W h; rwa [hl] at this

/-- a disk, and a slice of bytes, that the steps of a region keep -/
def WS (F : Nat → Prop) (D : Dk) (W0 : World) (g : Nat) (l : List UInt8) (W : World) : Prop := OwnDisk F D W ∧ W.rangeAt g 0 (l.map bv) ∧ Keeps (fun _ => False) W0 W
theorem WS.next {F : Nat → Prop} {D : Dk} {W0 : World} {g : Nat} {l : List UInt8} {W W' : World} (h : WS F D W0 g l W) (k : Keeps (fun _ => False) W W') : WS F D W0 g l W' := ⟨h.1.keepF k, k.rangeAt h.2.1 id, h.2.2.trans k⟩
theorem conv64S {F : Nat → Prop} {D : Dk} {W0 : World} (g c : Nat) (l : List UInt8) (hl : l.length = 64) : ∀ W : World, WS F D W0 g l W → (convert 27 9 (.slice (some ⟨g, 0, none⟩) 64 c)).run Try.prog W = .ok (.string ⟨l.toArray⟩) W := fun W h => conv64 g c l hl W h.2.1

/-! the calls on such a disk -/
theorem own_new (n : Nat) (w : World) (h1 : 1 ≤ n) (h2 : n ≤ 1024) : Calls Try.prog 19 #[.int .i64 n] w fun e w' => ∃ b bs, e = .returned (.tuple #[.pointer (some ⟨b, 0, none⟩), .int .i64 0]) ∧ OwnDisk (fun k => w.heap.size ≤ k) (fresh b bs n) w' ∧ Keeps (fun _ => False) w w' :=
  (new_ok n w h1 h2).mono fun e w' ⟨b, bs, he, hm, hb, hbs, hk⟩ => ⟨b, bs, he, ⟨_, hm, by rintro k (rfl | rfl | e); exact hb; exact hbs; cases e⟩, hk⟩
theorem own_write (F : Nat → Prop) (D : Dk) (w : World) (i : Int) (sv : Value) (x : List UInt8) (hB : ∀ k, w.heap.size ≤ k → F k) (h : OwnDisk F D w) (hx : BytesAt w sv x) (hsep : ∀ k, sv.ownBlock = some k → k ≠ D.b) :
    Calls Try.prog 14 #[.pointer (some ⟨D.b, 0, none⟩), .int .i64 i, sv] w fun e w' => e = .returned (.int .i64 (D.write i x).1) ∧ OwnDisk F (D.write i x).2 w' ∧ Keeps F w w' := by
  obtain ⟨v, hm, hf⟩ := h
  exact (write_any D v w i sv x hm hx hsep).mono fun e w' ⟨he, ha⟩ => ⟨he, OwnDisk.after hm hf hB ha⟩
theorem own_flush (F : Nat → Prop) (D : Dk) (w : World) (hB : ∀ k, w.heap.size ≤ k → F k) (h : OwnDisk F D w) :
    Calls Try.prog 15 #[.pointer (some ⟨D.b, 0, none⟩)] w fun e w' => e = .returned (.int .i64 D.flush.1) ∧ OwnDisk F D.flush.2 w' ∧ Keeps F w w' := by
  obtain ⟨v, hm, hf⟩ := h
  exact (flush_any D v w hm).mono fun e w' ⟨he, ha⟩ => ⟨he, OwnDisk.after hm hf hB ha⟩
theorem own_crash (F : Nat → Prop) (D : Dk) (w : World) (kv : Value) (kept : List Bool) (hB : ∀ k, w.heap.size ≤ k → F k) (h : OwnDisk F D w) (hk : BoolsAt w kv kept) (hsep : 0 < kept.length → ∀ k, kv.ownBlock = some k → k ≠ D.bs) :
    Calls Try.prog 11 #[.pointer (some ⟨D.b, 0, none⟩), kv] w fun e w' => e = .returned (.tuple #[]) ∧ OwnDisk F (D.crash kept) w' ∧ Keeps F w w' := by
  obtain ⟨v, hm, hf⟩ := h
  exact (crash_any D v w kv kept hm hk hsep).mono fun e w' ⟨he, ha⟩ => ⟨he, OwnDisk.after hm hf hB ha⟩
theorem own_arm (F : Nat → Prop) (D : Dk) (w : World) (s : Int) (hs1 : -9223372036854775808 ≤ s) (hs2 : s ≤ 9223372036854775807) (hB : ∀ k, w.heap.size ≤ k → F k) (h : OwnDisk F D w) :
    Calls Try.prog 10 #[.pointer (some ⟨D.b, 0, none⟩), .int .i64 s] w fun e w' => e = .returned (.tuple #[]) ∧ OwnDisk F { D with left := s } w' ∧ Keeps F w w' := by
  obtain ⟨v, hm, hf⟩ := h
  refine (arm_any D.b _ s w hm.c3 (hm.fr 3)).mono ?_
  rintro e w' ⟨rfl, rfl⟩
  exact ⟨rfl, OwnDisk.after hm hf hB (fail_mem hm D.on s hs1 hs2 _ (by simpa using heap_put hm.hd 3 (.int .i64 s)) ((Keeps.refl (fun k => k = D.b) w).setCell (p := ⟨D.b, 3, none⟩) (.inl rfl) _))⟩
theorem own_waits (F : Nat → Prop) (D : Dk) (w : World) (h : OwnDisk F D w) : Calls Try.prog 18 #[.pointer (some ⟨D.b, 0, none⟩)] w fun e w' => e = .returned (.int .i64 D.order.length) ∧ w = w' := by
  obtain ⟨v, hm, hf⟩ := h
  obtain ⟨p, c, rfl⟩ := ownsRow_slice hm.ow
  exact waits_any D.b D.order.length c p w hm.c1
theorem own_size (F : Nat → Prop) (D : Dk) (w : World) (h : OwnDisk F D w) : Calls Try.prog 17 #[.pointer (some ⟨D.b, 0, none⟩)] w fun e w' => e = .returned (.int .i64 D.n) ∧ w = w' := by
  obtain ⟨v, hm, hf⟩ := h
  exact size_any D.b D.n _ w hm.c0
theorem own_on (F : Nat → Prop) (D : Dk) (w : World) (h : OwnDisk F D w) : Calls Try.prog 16 #[.pointer (some ⟨D.b, 0, none⟩)] w fun e w' => e = .returned (.bool D.on) ∧ w = w' := by
  obtain ⟨v, hm, hf⟩ := h
  exact on_any D.b D.on w hm.c2
theorem own_read_yes (F : Nat → Prop) (D : Dk) (w : World) (i : Nat) (h : OwnDisk F D w) (hon : D.on = true) (hi : i < D.n) :
    Calls Try.prog 12 #[.pointer (some ⟨D.b, 0, none⟩), .int .i64 i] w (ReadOk D w i) := by
  obtain ⟨v, hm, hf⟩ := h
  exact read_yes D v w i hm hon hi
theorem own_read_bad (F : Nat → Prop) (D : Dk) (w : World) (i : Int) (h : OwnDisk F D w) (hr : D.read i ≠ 0) :
    Calls Try.prog 12 #[.pointer (some ⟨D.b, 0, none⟩), .int .i64 i] w fun e w' => e = .returned (.tuple #[.slice none 0 0, .int .i64 (D.read i)]) ∧ w = w' := by
  obtain ⟨v, hm, hf⟩ := h
  exact read_bad D v w i hm hr
end Go.Proofs.Ytcmpbablmofofaa
