/- Small calls of the journal. -/
import Derived.Test.YtcmpbablmofofaaJI
namespace Go.Proofs.Ytcmpbablmofofaa
open Go.RowKit

theorem allowed_any (p : Option Addr) (n c : Nat) (w : World) : Calls Try.prog 59 #[.slice p n c] w fun e w' => e = .returned (.bool (decide (1 ≤ n ∧ n ≤ 8192))) ∧ w = w' := by
  by_cases h0 : 0 < n
  · by_cases h1 : n ≤ 8192
    · go_enter Try.func59, Try.ntmps59
      go_wp2
      go_ret
      refine ⟨?_, rfl⟩
      show Ending.returned (.bool (decide ((n : Int) ≤ 8192))) = _
      rw [show decide (1 ≤ n ∧ n ≤ 8192) = true by simp; omega, show decide ((n : Int) ≤ 8192) = true by simp; omega]
    · go_enter Try.func59, Try.ntmps59
      go_wp2
      go_ret
      refine ⟨?_, rfl⟩
      show Ending.returned (.bool (decide ((n : Int) ≤ 8192))) = _
      rw [show decide (1 ≤ n ∧ n ≤ 8192) = false by simp; omega, show decide ((n : Int) ≤ 8192) = false by simp; omega]
  · obtain rfl : n = 0 := by omega
    go_enter Try.func59, Try.ntmps59
    go_wp2
    go_ret
    exact ⟨rfl, rfl⟩

theorem jstate_nil (w : World) : Calls Try.prog 58 #[.pointer none] w fun e w' => e = .returned (.int .i64 1) ∧ w = w' := by
  go_enter Try.func58, Try.ntmps58
  go_wp2
  go_ret
  exact ⟨rfl, rfl⟩
theorem all_nil (w : World) : Calls Try.prog 32 #[.pointer none] w fun e w' => e = .returned (.slice none 0 0) ∧ w = w' := by
  go_enter Try.func32, Try.ntmps32
  go_wp2
  go_ret
  exact ⟨rfl, rfl⟩
theorem free_nil (w : World) : Calls Try.prog 33 #[.pointer none] w fun e w' => e = .returned (.int .i64 0) ∧ w = w' := by
  go_enter Try.func33, Try.ntmps33
  go_wp2_with (go_at_call 58; refine (jstate_nil _).mono ?_; rintro e w' ⟨rfl, rfl⟩)
  go_ret
  exact ⟨rfl, rfl⟩

/-- a journal in memory: its own block, and the entries' slice -/
structure JHead (w : World) (jb : Nat) (db : Nat) (gen half : Nat) (ev : Value) (used : Nat) (ended : Bool) : Prop where
  hd : w.heap[jb]? = some (.cells #[.pointer (some ⟨db, 0, none⟩), .int .u64 gen, .int .i64 half, ev, .int .i64 used, .bool ended] 97 (0, 0))
theorem JHead.c0 {w : World} {jb db gen half : Nat} {ev : Value} {used : Nat} {ended : Bool} (h : JHead w jb db gen half ev used ended) : w.cell? ⟨jb, 0, none⟩ = some (.pointer (some ⟨db, 0, none⟩)) := by unfold World.cell?; simp only [h.hd]; rfl
theorem JHead.c1 {w : World} {jb db gen half : Nat} {ev : Value} {used : Nat} {ended : Bool} (h : JHead w jb db gen half ev used ended) : w.cell? ⟨jb, 1, none⟩ = some (.int .u64 gen) := by unfold World.cell?; simp only [h.hd]; rfl
theorem JHead.c2 {w : World} {jb db gen half : Nat} {ev : Value} {used : Nat} {ended : Bool} (h : JHead w jb db gen half ev used ended) : w.cell? ⟨jb, 2, none⟩ = some (.int .i64 half) := by unfold World.cell?; simp only [h.hd]; rfl
theorem JHead.c3 {w : World} {jb db gen half : Nat} {ev : Value} {used : Nat} {ended : Bool} (h : JHead w jb db gen half ev used ended) : w.cell? ⟨jb, 3, none⟩ = some ev := by unfold World.cell?; simp only [h.hd]; rfl
theorem JHead.c4 {w : World} {jb db gen half : Nat} {ev : Value} {used : Nat} {ended : Bool} (h : JHead w jb db gen half ev used ended) : w.cell? ⟨jb, 4, none⟩ = some (.int .i64 used) := by unfold World.cell?; simp only [h.hd]; rfl
theorem JHead.c5 {w : World} {jb db gen half : Nat} {ev : Value} {used : Nat} {ended : Bool} (h : JHead w jb db gen half ev used ended) : w.cell? ⟨jb, 5, none⟩ = some (.bool ended) := by unfold World.cell?; simp only [h.hd]; rfl
theorem jstate_any (jb db gen half : Nat) (ev : Value) (used : Nat) (ended : Bool) (w : World) (h : JHead w jb db gen half ev used ended) : Calls Try.prog 58 #[.pointer (some ⟨jb, 0, none⟩)] w fun e w' => e = .returned (.int .i64 (if ended then 2 else 0)) ∧ w = w' := by
  have h0 := h.c0
  have h5 := h.c5
  clear h
  cases ended
  all_goals
    go_enter Try.func58, Try.ntmps58
    go_wp2
    go_ret
    exact ⟨rfl, rfl⟩
theorem free_any (jb gen half : Nat) (ev : Value) (used : Nat) (F : Nat → Prop) (D : Dk) (w : World) (h : JHead w jb D.b gen half ev used false) (hD : OwnDisk F D w) (hn : D.n ≤ 1024) (h4 : 4 ≤ D.n) (hu : used ≤ (D.n - 2) / 2) :
    Calls Try.prog 33 #[.pointer (some ⟨jb, 0, none⟩)] w fun e w' => e = .returned (.int .i64 ((D.n - 2) / 2 - used : Nat)) ∧ w.drew = w' := by
  have hs := Lib.hid (jstate_any jb D.b gen half ev used false w h)
  have hz := halfSize_any F D w.drew hD.drew hn h4
  have h0 := h.c0
  have h4' := h.c4
  clear h hD
  obtain ⟨H, hH⟩ : ∃ H, H = (D.n - 2) / 2 := ⟨_, rfl⟩
  have hH2 : H ≤ 511 := by omega
  rw [← hH] at hz hu ⊢
  clear hH
  have hz' := Lib.hid hz; clear hz
  go_enter Try.func33, Try.ntmps33
  go_wp2_with (first | (go_at_call 58; refine hs.out.mono ?_; rintro e w' ⟨rfl, rfl⟩))
  have hwr : IntKind.i64.wrap ((H : Int) - used) = (H : Int) - used := by
    simp [IntKind.wrap, IntKind.signed, IntKind.bits]; omega
  refine wp_region_noPanic ?_
  refine wp_region_held_drew (S := (fun W => W = w.drew)) (by kernel_rfl) (rfl) (fun hHeld => ?_)
  refine tk 0 rfl ?_
  refine tk 1 rfl ?_
  refine tk 2 rfl ?_
  refine tk 3 rfl ?_
  refine tk 5 rfl ?_
  refine tk 6 rfl ?_
  refine tk 7 rfl ?_
  refine tk 8 rfl ?_
  refine stepL 4 rfl (by kernel_rfl) (fun K hK => ?_)
  go_simp
  (refine hz'.out.mono ?_; rintro e w' ⟨rfl, rfl⟩)
  go_wp2_with fail
  refine hK.out _ _ (rfl) (fun hHeld => ?_)
  clear hK K
  try simp only [Act.put, sA, sZ, sS]
  refine tk 9 rfl ?_
  refine tk 10 rfl ?_
  refine wpAnyH_done (by kernel_rfl) (NoPanic.normal ?_) _
  go_wp2_with fail
  go_ret
  refine ⟨?_, rfl⟩
  show Ending.returned (.int .i64 ((H : Int) - used)) = _
  rw [show (H : Int) - used = ((H - used : Nat) : Int) by omega]
theorem JHead.fr {w : World} {jb db gen half : Nat} {ev : Value} {used : Nat} {ended : Bool} (h : JHead w jb db gen half ev used ended) (o : Nat) : w.frozen? ⟨jb, o, none⟩ = false := by
  have h := h.hd
  simp [World.frozen?, h]
theorem jend_any (jb db gen half : Nat) (ev : Value) (used : Nat) (ended : Bool) (x : Int) (w : World) (h : JHead w jb db gen half ev used ended) :
    Calls Try.prog 61 #[.pointer (some ⟨jb, 0, none⟩), .int .i64 x] w fun e w' => e = .returned (.int .i64 x) ∧ JHead w' jb db gen half (.slice none 0 0) 0 true ∧ Keeps (fun k => k = jb) w w' := by
  have h3 := h.c3
  have h4 := h.c4
  have h5 := h.c5
  have f3 := h.fr 3
  have f4 := h.fr 4
  have f5 := h.fr 5
  have h' := Lib.hid h; clear h
  go_enter Try.func61, Try.ntmps61
  go_wp2
  go_ret
  refine ⟨rfl, ⟨?_⟩, (((Keeps.refl (fun k => k = jb) w).setCell (p := ⟨jb, 5, none⟩) (.inl rfl) _).setCell (p := ⟨jb, 3, none⟩) (.inl rfl) _).setCell (p := ⟨jb, 4, none⟩) (.inl rfl) _⟩
  have e1 := heap_put h'.out.hd 5 (.bool true)
  have e2 := heap_put e1 3 (.slice none 0 0)
  have e3 := heap_put e2 4 (.int .i64 0)
  simpa using e3
end Go.Proofs.Ytcmpbablmofofaa
