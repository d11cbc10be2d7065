/- The document's disk: goes, Write, Read. -/
import Derived.Test.YtoigepaanhjnfaaP
namespace Go.Proofs.Ytoigepaanhjnfaa
open Go.RowKit
open Go.Maps

theorem rgoes_now (b : Nat) (o : Value) (w : World) (hc : w.cell? ⟨b, 4, none⟩ = some (.int .i64 0)) (hc3 : w.cell? ⟨b, 3, none⟩ = some o) (hf : w.frozen? ⟨b, 3, none⟩ = false) (hf4 : w.frozen? ⟨b, 4, none⟩ = false) :
    Calls Try.prog 49 #[.pointer (some ⟨b, 0, none⟩)] w fun e w' => e = .returned (.bool true) ∧ (w.setCell ⟨b, 3, none⟩ (.bool true)).setCell ⟨b, 4, none⟩ (.int .i64 (-1)) = w' := by
  go_enter Try.func49, Try.ntmps49
  go_wp2
  go_ret
  exact ⟨rfl, rfl⟩
theorem rgoes_later (b : Nat) (l : Int) (w : World) (hl : 0 < l) (hl2 : l ≤ 9223372036854775807) (hc : w.cell? ⟨b, 4, none⟩ = some (.int .i64 l)) (hf : w.frozen? ⟨b, 4, none⟩ = false) :
    Calls Try.prog 49 #[.pointer (some ⟨b, 0, none⟩)] w fun e w' => e = .returned (.bool false) ∧ w.setCell ⟨b, 4, none⟩ (.int .i64 (l - 1)) = w' := by
  have h0 : (l == 0) = false := by simp; omega
  go_enter Try.func49, Try.ntmps49
  go_wp2
  go_ret
  exact ⟨rfl, rfl⟩
theorem rgoes_never (b : Nat) (w : World) (hc : w.cell? ⟨b, 4, none⟩ = some (.int .i64 (-1))) :
    Calls Try.prog 49 #[.pointer (some ⟨b, 0, none⟩)] w fun e w' => e = .returned (.bool false) ∧ w = w' := by
  go_enter Try.func49, Try.ntmps49
  go_wp2
  go_ret
  exact ⟨rfl, rfl⟩

/-- behind a call on the document's disk -/
def RAfter (N' : Nat) (D : Dk) (rb : Nat) (sv ov : Value) (mb : Nat) (w : World) (D' : Dk) (w' : World) : Prop :=
  ∃ sv' ov' mb' ar', RefMem w' D' N' rb sv' ov' mb' ar' ∧ Keeps (rfoot rb sv ov mb) w w' ∧ ∀ k, rfoot rb sv' ov' mb' k → rfoot rb sv ov mb k ∨ w.heap.size ≤ k

section
variable {w : World} {D : Dk} {N rb : Nat} {sv ov : Value} {mb : Nat} {ar : Int}
theorem RefMem.poke (h : RefMem w D N rb sv ov mb ar) {w' : World} (on : Bool) (l ar' : Int) (hw : w'.heap[rb]? = some (.cells #[sv, ov, .map (some mb), .bool (!on), .int .i64 ar'] 51 (0, 0))) (hk : Keeps (fun k => k = rb) w w')
    (h1 : on = true → (ar' = l ∧ 0 ≤ l ∨ ar' = -1 ∧ l < 0)) (h2 : on = false → ar' = -1) (h3 : -1 ≤ ar') (h4 : ar' ≤ 9223372036854775807) : RefMem w' { D with on := on, left := l } N rb sv ov mb ar' :=
  { h with
    hd := hw
    st := hk.ownsRow h.st (fun k e1 e2 => h.svr (by rw [e1, e2]))
    ord := hk.ownsRow h.ord (fun k e1 e2 => h.ovr (by rw [e1, e2]))
    map := by obtain ⟨Dm, hm⟩ := h.map; exact ⟨Dm, hm.keep hk h.mr⟩
    aon := h1
    aoff := h2
    a1 := h3
    a2 := h4 }
theorem poke_after (h : RefMem w D N rb sv ov mb ar) {w' : World} {D' : Dk} {ar' : Int} (h' : RefMem w' D' N rb sv ov mb ar') (hk : Keeps (fun k => k = rb) w w') : RAfter N D rb sv ov mb w D' w' :=
  ⟨sv, ov, mb, ar', h', hk.mono (fun k e => .inl (.inl e)), fun k e => .inl e⟩

/-- what goes does: exactly -/
theorem rgoes_mem (h : RefMem w D N rb sv ov mb ar) (hon : D.on = true) (hlft : D.left ≤ 9223372036854775807) :
    ∃ w1 ar1, Calls Try.prog 49 #[.pointer (some ⟨rb, 0, none⟩)] w (fun e w' => e = .returned (.bool D.fail.1) ∧ w1 = w') ∧ RefMem w1 D.fail.2 N rb sv ov mb ar1 ∧ Keeps (fun k => k = rb) w w1 := by
  rcases h.aon hon with ⟨ha, h0⟩ | ⟨ha, h0⟩
  · by_cases h00 : D.left = 0
    · have e1 : D.fail = (true, { D with on := false }) := by simp [Dk.fail, h00]
      have hk : Keeps (fun k => k = rb) w ((w.setCell ⟨rb, 3, none⟩ (.bool true)).setCell ⟨rb, 4, none⟩ (.int .i64 (-1))) :=
        ((Keeps.refl (fun k => k = rb) w).setCell (p := ⟨rb, 3, none⟩) (.inl rfl) _).setCell (p := ⟨rb, 4, none⟩) (.inl rfl) _
      refine ⟨_, -1, by rw [e1]; exact rgoes_now rb _ w (by rw [h.c4, ha, h00]) h.c3 (h.fr 3) (h.fr 4), ?_, hk⟩
      rw [e1]
      exact h.poke false D.left (-1) (by simpa using heap_put (heap_put h.hd 3 (.bool true)) 4 (.int .i64 (-1))) hk (by simp) (by simp) (by omega) (by omega)
    · have e1 : D.fail = (false, { D with left := D.left - 1 }) := by unfold Dk.fail; rw [if_neg h00, if_pos (by omega)]
      have hk : Keeps (fun k => k = rb) w (w.setCell ⟨rb, 4, none⟩ (.int .i64 (D.left - 1))) := (Keeps.refl (fun k => k = rb) w).setCell (p := ⟨rb, 4, none⟩) (.inl rfl) _
      refine ⟨_, D.left - 1, by rw [e1]; exact rgoes_later rb D.left w (by omega) hlft (by rw [h.c4, ha]) (h.fr 4), ?_, hk⟩
      rw [e1]
      exact h.poke D.on (D.left - 1) (D.left - 1) (by simpa using heap_put h.hd 4 (.int .i64 (D.left - 1))) hk (fun _ => .inl ⟨rfl, by omega⟩) (by simp [hon]) (by omega) (by omega)
  · have e1 : D.fail = (false, D) := by unfold Dk.fail; rw [if_neg (by omega), if_neg (by omega)]
    refine ⟨w, ar, by rw [e1]; exact rgoes_never rb w (by rw [h.c4, ha]), by rw [e1]; exact h, Keeps.refl _ _⟩
end

theorem rwrite_off (b : Nat) (i : Int) (s : ByteArray) (w : World) (h2 : w.cell? ⟨b, 3, none⟩ = some (.bool true)) :
    Calls Try.prog 23 #[.pointer (some ⟨b, 0, none⟩), .int .i64 i, .string s] w fun e w' => e = .returned (.int .i64 2) ∧ w = w' := by
  go_enter Try.func23, Try.ntmps23
  go_wp2
  go_ret
  exact ⟨rfl, rfl⟩
theorem rwrite_low (b : Nat) (i : Int) (s : ByteArray) (w : World) (h2 : w.cell? ⟨b, 3, none⟩ = some (.bool false)) (hi : i < 0) :
    Calls Try.prog 23 #[.pointer (some ⟨b, 0, none⟩), .int .i64 i, .string s] w fun e w' => e = .returned (.int .i64 1) ∧ w = w' := by
  go_enter Try.func23, Try.ntmps23
  go_wp2
  go_ret
  exact ⟨rfl, rfl⟩
theorem rwrite_high (b n c : Nat) (q : Option Addr) (i : Int) (s : ByteArray) (w : World) (h0 : w.cell? ⟨b, 0, none⟩ = some (.slice q n c)) (h2 : w.cell? ⟨b, 3, none⟩ = some (.bool false)) (hi0 : 0 ≤ i) (hi : n ≤ i) :
    Calls Try.prog 23 #[.pointer (some ⟨b, 0, none⟩), .int .i64 i, .string s] w fun e w' => e = .returned (.int .i64 1) ∧ w = w' := by
  go_enter Try.func23, Try.ntmps23
  go_wp2
  go_ret
  exact ⟨rfl, rfl⟩
theorem rwrite_odd (b n c : Nat) (q : Option Addr) (i : Int) (s : ByteArray) (w : World) (h0 : w.cell? ⟨b, 0, none⟩ = some (.slice q n c)) (h2 : w.cell? ⟨b, 3, none⟩ = some (.bool false)) (hi0 : 0 ≤ i) (hi : i < n) (hs : ((s.size : Int) != 64) = true) :
    Calls Try.prog 23 #[.pointer (some ⟨b, 0, none⟩), .int .i64 i, .string s] w fun e w' => e = .returned (.int .i64 1) ∧ w = w' := by
  go_enter Try.func23, Try.ntmps23
  go_wp2
  go_ret
  exact ⟨rfl, rfl⟩
theorem rwrite_fails (b n c : Nat) (q : Option Addr) (i : Int) (s : ByteArray) (w w1 : World) (h0 : w.cell? ⟨b, 0, none⟩ = some (.slice q n c)) (h2 : w.cell? ⟨b, 3, none⟩ = some (.bool false)) (hi0 : 0 ≤ i) (hi : i < n) (hs : ((s.size : Int) != 64) = false)
    (hf : Hid (Calls Try.prog 49 #[.pointer (some ⟨b, 0, none⟩)] w fun e w' => e = .returned (.bool true) ∧ w1 = w')) :
    Calls Try.prog 23 #[.pointer (some ⟨b, 0, none⟩), .int .i64 i, .string s] w fun e w' => e = .returned (.int .i64 2) ∧ w1 = w' := by
  go_enter Try.func23, Try.ntmps23
  go_wp2_with (go_at_call 49; refine hf.out.mono ?_; rintro e w' ⟨rfl, rfl⟩)
  go_ret
  exact ⟨rfl, rfl⟩
end Go.Proofs.Ytoigepaanhjnfaa
