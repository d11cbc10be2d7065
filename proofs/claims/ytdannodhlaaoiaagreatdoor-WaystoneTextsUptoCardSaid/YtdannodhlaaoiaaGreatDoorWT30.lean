/- settle: what waits stays, or goes. -/
import Derived.Test.YtdannodhlaaoiaaGreatDoorWT29
set_option linter.unusedVariables false
set_option linter.unusedSimpArgs false
namespace Go.Proofs.YtdannodhlaaoiaaGreatDoor
open Go.RowKit

def stP (st la : Nat → List UInt8) (order : List Nat) (f : Nat → Bool) (k i : Nat) : List UInt8 := if i ∈ order.take k ∧ f (order.idxOf i) = true then la i else st i
def laP (st la : Nat → List UInt8) (order : List Nat) (f : Nat → Bool) (k i : Nat) : List UInt8 := if i ∈ order.take k then stP st la order f k i else la i

structure Part (bs n : Nat) (st la : Nat → List UInt8) (order : List Nat) (f : Nat → Bool) (w : World) (k : Nat) (wr : World) : Prop where
  secs : Secs wr bs n (stP st la order f k) (laP st la order f k) (fun i => decide (i ∈ order.drop k))
  keeps : Keeps (fun g => g = bs) w wr

def Settled (b bs n : Nat) (st la : Nat → List UInt8) (order : List Nat) (f : Nat → Bool) (w : World) (e : Ending) (w' : World) : Prop :=
  e = .returned (.tuple #[]) ∧ ∃ w1, w' = w1.setCell ⟨b, 1, none⟩ (.slice none 0 0) ∧ Keeps (fun g => g = bs) w w1 ∧
    Secs w1 bs n (stP st la order f order.length) (stP st la order f order.length) (fun _ => false)

section
variable {b bs n g cap k i : Nat} {st la : Nat → List UInt8} {order : List Nat} {f : Nat → Bool} {w wr w1 : World}

theorem part_start (hS : Secs w bs n st la (fun i => decide (i ∈ order))) (_h : ∀ i, i < n → i ∉ order → la i = st i) : Part bs n st la order f w 0 w := by
  refine ⟨?_, Keeps.refl _ _⟩
  have e1 : stP st la order f 0 = st := by funext i; simp [stP]
  have e2 : laP st la order f 0 = la := by funext i; simp [laP]
  rw [e1, e2]; simpa using hS

theorem part_cells (h : Part bs n st la order f w k wr) {v0 v1 : Value} (hc0 : w.cell? ⟨b, 0, none⟩ = some v0) (hc1 : w.cell? ⟨b, 1, none⟩ = some v1) (hf1 : w.frozen? ⟨b, 1, none⟩ = false) (hbl : b < w.heap.size) (hne : ¬ b = bs) :
    wr.cell? ⟨b, 0, none⟩ = some v0 ∧ wr.cell? ⟨b, 1, none⟩ = some v1 ∧ wr.frozen? ⟨b, 1, none⟩ = false :=
  ⟨by rw [h.keeps.cell (p := ⟨b, 0, none⟩) hbl hne]; exact hc0, by rw [h.keeps.cell (p := ⟨b, 1, none⟩) hbl hne]; exact hc1, by rw [h.keeps.frozen (p := ⟨b, 1, none⟩) hbl hne]; exact hf1⟩

theorem part_g (h : Part bs n st la order f w k wr) (hg : ∀ j, j < order.length → w.cell? ⟨g, j, none⟩ = some (.int .i64 (order.getD j 0))) (hgl : g < w.heap.size) (hne : ¬ g = bs) :
    ∀ j, j < order.length → wr.cell? ⟨g, j, none⟩ = some (.int .i64 (order.getD j 0)) := fun j hj => by
  rw [h.keeps.cell (p := ⟨g, j, none⟩) hgl hne]; exact hg j hj

theorem part_in (hlt : ∀ i ∈ order, i < n) (hk : k < order.length) (hi : i = order.getD k 0) : i < n := by
  have : order.getD k 0 = order[k] := by simp [hk]
  rw [hi, this]; exact hlt _ (List.getElem_mem hk)

theorem idx_k (hnd : order.Nodup) (hk : k < order.length) (hi : i = order.getD k 0) : order.idxOf i = k ∧ i ∉ order.take k ∧ i ∈ order.drop k ∧ order.take (k + 1) = order.take k ++ [i] ∧ order.drop k = i :: order.drop (k + 1) := by
  have e : order.getD k 0 = order[k] := by simp [hk]
  rw [e] at hi
  subst hi
  have hd : order.drop k = order[k] :: order.drop (k + 1) := List.drop_eq_getElem_cons hk
  refine ⟨hnd.idxOf_getElem k hk, ?_, by rw [hd]; exact List.mem_cons_self, List.take_succ_eq_append_getElem hk, hd⟩
  have h2 : (order.take k ++ order.drop k).Nodup := by rw [List.take_append_drop]; exact hnd
  intro hm
  exact (List.nodup_append.1 h2).2.2 _ hm _ (by rw [hd]; exact List.mem_cons_self) rfl

theorem part_rst (h : Part bs n st la order f w k wr) (hnd : order.Nodup) (hk : k < order.length) (hin : i < n) (hi : i = order.getD k 0) : wr.rangeAt bs (i * 129) ((st i).map bv) := by
  have := h.secs.rst i hin
  simpa [stP, (idx_k hnd hk hi).2.1] using this
theorem part_rla (h : Part bs n st la order f w k wr) (hnd : order.Nodup) (hk : k < order.length) (hin : i < n) (hi : i = order.getD k 0) : wr.rangeAt bs (i * 129 + 64) ((la i).map bv) := by
  have := h.secs.rla i hin
  simpa [laP, (idx_k hnd hk hi).2.1] using this

theorem part_next (hnd : order.Nodup) (hk : k < order.length) (hi : i = order.getD k 0) :
    (upd (fun i => decide (i ∈ order.drop k)) i false) = (fun i => decide (i ∈ order.drop (k + 1))) := by
  obtain ⟨_, _, _, _, hd⟩ := idx_k hnd hk hi
  funext j
  by_cases e : j = i
  · subst e
    have : j ∉ order.drop (k + 1) := by
      have h2 : (order.drop k).Nodup := hnd.sublist (List.drop_sublist _ _)
      rw [hd] at h2; exact (List.nodup_cons.1 h2).1
    simp [upd, this]
  · simp [upd, e, hd]

theorem part_no (h : Part bs n st la order f w k wr) (hnd : order.Nodup) (hk : k < order.length) (hin : i < n) (hi : i = order.getD k 0) (hl : (st i).length = 64) (hw : Hid (w1 = wr.setCells bs (i * 129 + 64) ((st i).map bv).toArray.toList)) :
    w1.cell? ⟨bs, i * 129 + 128, none⟩ = some (.bool true) ∧ w1.frozen? ⟨bs, i * 129 + 128, none⟩ = false := by
  have hS := h.secs.putLa i hin (st i) hl
  rw [hw.out]
  refine ⟨?_, hS.blk.frozen _⟩
  have := hS.rwa i hin
  simpa [(idx_k hnd hk hi).2.2.1] using this
theorem part_yes (h : Part bs n st la order f w k wr) (hnd : order.Nodup) (hk : k < order.length) (hin : i < n) (hi : i = order.getD k 0) (hl : (la i).length = 64) (hw : Hid (w1 = wr.setCells bs (i * 129) ((la i).map bv).toArray.toList)) :
    w1.cell? ⟨bs, i * 129 + 128, none⟩ = some (.bool true) ∧ w1.frozen? ⟨bs, i * 129 + 128, none⟩ = false := by
  have hS := h.secs.putSt i hin (la i) hl
  rw [hw.out]
  refine ⟨?_, hS.blk.frozen _⟩
  have := hS.rwa i hin
  simpa [(idx_k hnd hk hi).2.2.1] using this

theorem part_no_next (h : Part bs n st la order f w k wr) (hnd : order.Nodup) (hk : k < order.length) (hin : i < n) (hi : i = order.getD k 0) (hl : (st i).length = 64) (hf : f k = false) (hw : Hid (w1 = wr.setCells bs (i * 129 + 64) ((st i).map bv).toArray.toList)) :
    Hid (Part bs n st la order f w (k + 1) (w1.setCell ⟨bs, i * 129 + 128, none⟩ (.bool false))) := by
  obtain ⟨h1, h2, h3, h4, h5⟩ := idx_k hnd hk hi
  have hS := (h.secs.putLa i hin (st i) hl).putWa i hin false
  have e1 : stP st la order f k = stP st la order f (k + 1) := by
    funext j; by_cases e : j = i
    · subst e; simp [stP, h4, h1, hf]
    · simp [stP, h4, e]
  have e2 : upd (laP st la order f k) i (st i) = laP st la order f (k + 1) := by
    funext j; by_cases e : j = i
    · subst e; simp [upd, laP, stP, h4, h1, hf]
    · simp [upd, laP, ← e1, h4, e]
  rw [part_next hnd hk hi, e2, e1] at hS
  have hw' : w1 = wr.setCells bs (i * 129 + 64) ((st i).map bv) := by simpa using hw.out
  refine ⟨by rw [hw']; exact hS, ?_⟩
  rw [hw']
  exact (Keeps.setCells (F := fun g => g = bs) (.inl rfl) _ _ _ h.keeps).setCell (p := ⟨bs, _, none⟩) (.inl rfl) _
theorem part_yes_next (h : Part bs n st la order f w k wr) (hnd : order.Nodup) (hk : k < order.length) (hin : i < n) (hi : i = order.getD k 0) (hl : (la i).length = 64) (hf : f k = true) (hw : Hid (w1 = wr.setCells bs (i * 129) ((la i).map bv).toArray.toList)) :
    Hid (Part bs n st la order f w (k + 1) (w1.setCell ⟨bs, i * 129 + 128, none⟩ (.bool false))) := by
  obtain ⟨h1, h2, h3, h4, h5⟩ := idx_k hnd hk hi
  have hS := (h.secs.putSt i hin (la i) hl).putWa i hin false
  have e1 : upd (stP st la order f k) i (la i) = stP st la order f (k + 1) := by
    funext j; by_cases e : j = i
    · subst e; simp [upd, stP, h4, h1, hf]
    · simp [upd, stP, h4, e]
  have e2 : laP st la order f k = laP st la order f (k + 1) := by
    funext j; by_cases e : j = i
    · subst e; simp [laP, stP, h4, h1, h2, hf]
    · simp [laP, ← e1, upd, h4, e]
  rw [part_next hnd hk hi, e1, e2] at hS
  have hw' : w1 = wr.setCells bs (i * 129) ((la i).map bv) := by simpa using hw.out
  refine ⟨by rw [hw']; exact hS, ?_⟩
  rw [hw']
  exact (Keeps.setCells (F := fun g => g = bs) (.inl rfl) _ _ _ h.keeps).setCell (p := ⟨bs, _, none⟩) (.inl rfl) _

theorem part_end (h : Part bs n st la order f w k wr) (hk : k ≤ order.length) (hk2 : order.length ≤ k) (hsy : ∀ i, i < n → i ∉ order → la i = st i) (_hlt : ∀ i ∈ order, i < n) :
    Settled b bs n st la order f w (.returned (.tuple #[])) (wr.setCell ⟨b, 1, none⟩ (.slice none 0 0)) := by
  have e : k = order.length := by omega
  subst e
  refine ⟨rfl, wr, rfl, h.keeps, ?_⟩
  have hS := h.secs
  have e3 : ∀ i, i < n → laP st la order f order.length i = stP st la order f order.length i := by
    intro i hi
    by_cases hm : i ∈ order
    · simp [laP, hm]
    · simp [laP, stP, hm, hsy i hi hm]
  exact ⟨hS.blk, hS.lst, fun i hi => by rw [← e3 i hi]; exact hS.lla i hi, hS.rst, fun i hi => by rw [← e3 i hi]; exact hS.rla i hi, fun i hi => by simpa using hS.rwa i hi⟩
end

set_option maxRecDepth 100000 in
set_option maxHeartbeats 1000000 in
theorem settle_flush (b bs n g cap : Nat) (st la : Nat → List UInt8) (order : List Nat) (f : Nat → Bool) (w : World)
    (hS : Hid (Secs w bs n st la (fun i => decide (i ∈ order)))) (hn : n ≤ 1024) (hol : order.length ≤ 1024) (hlt : Hid (∀ i ∈ order, i < n)) (hnd : Hid order.Nodup) (hsy : Hid (∀ i, i < n → i ∉ order → la i = st i))
    (hc0 : w.cell? ⟨b, 0, none⟩ = some (.slice (some ⟨bs, 0, none⟩) n n)) (hc1 : w.cell? ⟨b, 1, none⟩ = some (.slice (some ⟨g, 0, none⟩) order.length cap)) (hf1 : w.frozen? ⟨b, 1, none⟩ = false)
    (hne : ¬ b = bs) (hne2 : ¬ g = bs) (hg : Hid (∀ j, j < order.length → w.cell? ⟨g, j, none⟩ = some (.int .i64 (order.getD j 0)))) (hgl : g < w.heap.size) (hbl : b < w.heap.size)
    (hcl : Hid (∀ (k : Nat) (w' : World), k < 1024 → Keeps (fun g => g = bs) w w' → Calls Tryz.prog 108 #[.int .i64 k] w' fun e w'' => e = .returned (.bool (f k)) ∧ w' = w'')) :
    Calls Tryz.prog 46 #[.pointer (some ⟨b, 0, none⟩), .func (.func 108) #[] #[]] w (Settled b bs n st la order f w) := by
  go_enter Tryz.func46, Tryz.ntmps46
  go_wp2
  go_loopw [12] (fun iv wr => ∃ k : Nat, k ≤ order.length ∧ iv = .int .i64 k ∧ Hid (Part bs n st la order f w k wr)) (fun iv _ => order.length - (intOf iv).toNat)
  case atStart => exact ⟨0, by omega, rfl, part_start hS.out hsy.out⟩
  case round =>
    obtain ⟨k, hk, rfl, hP⟩ := hrel
    obtain ⟨hr0, hr1, hrf⟩ := part_cells hP.out hc0 hc1 hf1 hbl hne
    by_cases hlk : k < order.length
    · have hgk := part_g hP.out hg.out hgl hne2 k hlk
      obtain ⟨i, hi⟩ : ∃ i : Nat, i = order.getD k 0 := ⟨_, rfl⟩
      rw [← hi] at hgk
      have hin : i < n := part_in hlt.out hlk hi
      have hi' := Lib.hid hi; clear hi
      have hcl' := Lib.hid (hcl.out k _ (by omega) hP.out.keeps)
      cases hfk : f k
      · go_wp2_with (first | (go_at_call 108; refine hcl'.out.mono ?_; rintro e w' ⟨rfl, rfl⟩) | ((with_reducible refine at_slot 37 ?_); refine wpList_load_mid rfl 137 (.tmp 36) rfl bs (i * 129) rfl ((st i).map bv) _ (part_rst hP.out hnd.out hlk hin hi'.out) Tryz.underlying137 rfl (by rw [List.length_map, hS.out.lst i hin]; exact arrInfo) ?_) | ((with_reducible refine at_store 39 ?_); refine wpList_store_named rfl 137 (.tmp 39) (.tmp 37) rfl bs (i * 129 + 64) ((st i).map bv).toArray rfl rfl ?c1 ?c2 ?c3 ?_; rotate_right; intro w1 hw1; obtain ⟨h1a, h1b⟩ := part_no hP.out hnd.out hlk hin hi'.out (hS.out.lst i hin) hw1))
        case c1 => exact hP.out.secs.blk.there _ _ (by simp [hS.out.lst i hin]; omega)
        case c2 => rw [List.size_toArray, List.length_map, hS.out.lst i hin]; exact arrInfo
        case c3 => exact all_oneCell_toArray (bv_one _)
        go_roundw
        case rel => exact ⟨k + 1, by omega, by go_num, part_no_next hP.out hnd.out hlk hin hi'.out (hS.out.lst i hin) hfk hw1⟩
        case measure => simp [intOf]; omega
      · go_wp2_with (first | (go_at_call 108; refine hcl'.out.mono ?_; rintro e w' ⟨rfl, rfl⟩) | ((with_reducible refine at_slot 30 ?_); refine wpList_load_mid rfl 137 (.tmp 29) rfl bs (i * 129 + 64) rfl ((la i).map bv) _ (part_rla hP.out hnd.out hlk hin hi'.out) Tryz.underlying137 rfl (by rw [List.length_map, hS.out.lla i hin]; exact arrInfo) ?_) | ((with_reducible refine at_store 32 ?_); refine wpList_store_named rfl 137 (.tmp 32) (.tmp 30) rfl bs (i * 129) ((la i).map bv).toArray rfl rfl ?e1 ?e2 ?e3 ?_; rotate_right; intro w1 hw1; obtain ⟨h1a, h1b⟩ := part_yes hP.out hnd.out hlk hin hi'.out (hS.out.lla i hin) hw1))
        case e1 => exact hP.out.secs.blk.there _ _ (by simp [hS.out.lla i hin]; omega)
        case e2 => rw [List.size_toArray, List.length_map, hS.out.lla i hin]; exact arrInfo
        case e3 => exact all_oneCell_toArray (bv_one _)
        go_roundw
        case rel => exact ⟨k + 1, by omega, by go_num, part_yes_next hP.out hnd.out hlk hin hi'.out (hS.out.lla i hin) hfk hw1⟩
        case measure => simp [intOf]; omega
    · go_wp2
      go_end0
      exact part_end hP.out hk (by omega) hsy.out hlt.out

set_option maxRecDepth 100000 in
set_option maxHeartbeats 1000000 in
theorem settle_crash (b bs n g cap : Nat) (st la : Nat → List UInt8) (order : List Nat) (f : Nat → Bool) (kb : Nat) (w : World)
    (hS : Hid (Secs w bs n st la (fun i => decide (i ∈ order)))) (hn : n ≤ 1024) (hol : order.length ≤ 1024) (hlt : Hid (∀ i ∈ order, i < n)) (hnd : Hid order.Nodup) (hsy : Hid (∀ i, i < n → i ∉ order → la i = st i))
    (hc0 : w.cell? ⟨b, 0, none⟩ = some (.slice (some ⟨bs, 0, none⟩) n n)) (hc1 : w.cell? ⟨b, 1, none⟩ = some (.slice (some ⟨g, 0, none⟩) order.length cap)) (hf1 : w.frozen? ⟨b, 1, none⟩ = false)
    (hne : ¬ b = bs) (hne2 : ¬ g = bs) (hg : Hid (∀ j, j < order.length → w.cell? ⟨g, j, none⟩ = some (.int .i64 (order.getD j 0)))) (hgl : g < w.heap.size) (hbl : b < w.heap.size)
    (hcl : Hid (∀ (k : Nat) (w' : World), k < 1024 → Keeps (fun g => g = bs) w w' → Calls Tryz.prog 47 #[.int .i64 k, .pointer (some ⟨kb, 0, none⟩)] w' fun e w'' => e = .returned (.bool (f k)) ∧ w' = w'')) :
    Calls Tryz.prog 46 #[.pointer (some ⟨b, 0, none⟩), .func (.func 47) #[] #[.pointer (some ⟨kb, 0, none⟩)]] w (Settled b bs n st la order f w) := by
  go_enter Tryz.func46, Tryz.ntmps46
  go_wp2
  go_loopw [12] (fun iv wr => ∃ k : Nat, k ≤ order.length ∧ iv = .int .i64 k ∧ Hid (Part bs n st la order f w k wr)) (fun iv _ => order.length - (intOf iv).toNat)
  case atStart => exact ⟨0, by omega, rfl, part_start hS.out hsy.out⟩
  case round =>
    obtain ⟨k, hk, rfl, hP⟩ := hrel
    obtain ⟨hr0, hr1, hrf⟩ := part_cells hP.out hc0 hc1 hf1 hbl hne
    by_cases hlk : k < order.length
    · have hgk := part_g hP.out hg.out hgl hne2 k hlk
      obtain ⟨i, hi⟩ : ∃ i : Nat, i = order.getD k 0 := ⟨_, rfl⟩
      rw [← hi] at hgk
      have hin : i < n := part_in hlt.out hlk hi
      have hi' := Lib.hid hi; clear hi
      have hcl' := Lib.hid (hcl.out k _ (by omega) hP.out.keeps)
      cases hfk : f k
      · go_wp2_with (first | (go_at_call 47; refine hcl'.out.mono ?_; rintro e w' ⟨rfl, rfl⟩) | ((with_reducible refine at_slot 37 ?_); refine wpList_load_mid rfl 137 (.tmp 36) rfl bs (i * 129) rfl ((st i).map bv) _ (part_rst hP.out hnd.out hlk hin hi'.out) Tryz.underlying137 rfl (by rw [List.length_map, hS.out.lst i hin]; exact arrInfo) ?_) | ((with_reducible refine at_store 39 ?_); refine wpList_store_named rfl 137 (.tmp 39) (.tmp 37) rfl bs (i * 129 + 64) ((st i).map bv).toArray rfl rfl ?c1 ?c2 ?c3 ?_; rotate_right; intro w1 hw1; obtain ⟨h1a, h1b⟩ := part_no hP.out hnd.out hlk hin hi'.out (hS.out.lst i hin) hw1))
        case c1 => exact hP.out.secs.blk.there _ _ (by simp [hS.out.lst i hin]; omega)
        case c2 => rw [List.size_toArray, List.length_map, hS.out.lst i hin]; exact arrInfo
        case c3 => exact all_oneCell_toArray (bv_one _)
        go_roundw
        case rel => exact ⟨k + 1, by omega, by go_num, part_no_next hP.out hnd.out hlk hin hi'.out (hS.out.lst i hin) hfk hw1⟩
        case measure => simp [intOf]; omega
      · go_wp2_with (first | (go_at_call 47; refine hcl'.out.mono ?_; rintro e w' ⟨rfl, rfl⟩) | ((with_reducible refine at_slot 30 ?_); refine wpList_load_mid rfl 137 (.tmp 29) rfl bs (i * 129 + 64) rfl ((la i).map bv) _ (part_rla hP.out hnd.out hlk hin hi'.out) Tryz.underlying137 rfl (by rw [List.length_map, hS.out.lla i hin]; exact arrInfo) ?_) | ((with_reducible refine at_store 32 ?_); refine wpList_store_named rfl 137 (.tmp 32) (.tmp 30) rfl bs (i * 129) ((la i).map bv).toArray rfl rfl ?e1 ?e2 ?e3 ?_; rotate_right; intro w1 hw1; obtain ⟨h1a, h1b⟩ := part_yes hP.out hnd.out hlk hin hi'.out (hS.out.lla i hin) hw1))
        case e1 => exact hP.out.secs.blk.there _ _ (by simp [hS.out.lla i hin]; omega)
        case e2 => rw [List.size_toArray, List.length_map, hS.out.lla i hin]; exact arrInfo
        case e3 => exact all_oneCell_toArray (bv_one _)
        go_roundw
        case rel => exact ⟨k + 1, by omega, by go_num, part_yes_next hP.out hnd.out hlk hin hi'.out (hS.out.lla i hin) hfk hw1⟩
        case measure => simp [intOf]; omega
    · go_wp2
      go_end0
      exact part_end hP.out hk (by omega) hsy.out hlt.out

end Go.Proofs.YtdannodhlaaoiaaGreatDoor
/- Flush, Crash, Read, New, full. -/
namespace Go.Proofs.YtdannodhlaaoiaaGreatDoor
open Go.RowKit

theorem flush1_any (k : Int) (w : World) : Calls Tryz.prog 108 #[.int .i64 k] w fun e w' => e = .returned (.bool true) ∧ w = w' := by
  go_enter Tryz.func108, Tryz.ntmps108
  go_wp2
  go_ret
  exact ⟨rfl, rfl⟩
theorem crash1_in (k m c kb b o : Nat) (x : Bool) (w : World) (hc : w.cell? ⟨kb, 0, none⟩ = some (.slice (some ⟨b, o, none⟩) m c)) (hk : k < m) (_hm : m ≤ 9223372036854775807) (hx : w.cell? ⟨b, o + k, none⟩ = some (.bool x)) :
    Calls Tryz.prog 47 #[.int .i64 k, .pointer (some ⟨kb, 0, none⟩)] w fun e w' => e = .returned (.bool x) ∧ w = w' := by
  go_enter Tryz.func47, Tryz.ntmps47
  go_wp2
  go_ret
  exact ⟨rfl, rfl⟩
theorem crash1_out (k m c kb : Nat) (p : Option Addr) (w : World) (hc : w.cell? ⟨kb, 0, none⟩ = some (.slice p m c)) (hk : m ≤ k) (_hm : k ≤ 9223372036854775807) :
    Calls Tryz.prog 47 #[.int .i64 k, .pointer (some ⟨kb, 0, none⟩)] w fun e w' => e = .returned (.bool false) ∧ w = w' := by
  have hd : decide (k < m) = false := decide_eq_false (by omega)
  go_enter Tryz.func47, Tryz.ntmps47
  go_wp2
  go_ret
  exact ⟨rfl, rfl⟩

theorem settle_nil (b : Nat) (fv : Value) (w : World) (hc1 : w.cell? ⟨b, 1, none⟩ = some (.slice none 0 0)) (hf1 : w.frozen? ⟨b, 1, none⟩ = false) :
    Calls Tryz.prog 46 #[.pointer (some ⟨b, 0, none⟩), fv] w fun e w' => e = .returned (.tuple #[]) ∧ w.setCell ⟨b, 1, none⟩ (.slice none 0 0) = w' := by
  go_enter Tryz.func46, Tryz.ntmps46
  go_wp2
  go_loopw [12] (fun iv wr => iv = .int .i64 0 ∧ w = wr) (fun _ _ => 0)
  case atStart => exact ⟨rfl, rfl⟩
  case round =>
    obtain ⟨rfl, rfl⟩ := hrel
    go_wp2
    go_end0
    exact ⟨rfl, rfl⟩

theorem settled_eq (D : Dk) (f : Nat → Bool) : D.settled f = stP D.st D.la D.order f D.order.length := by
  funext i; simp [Dk.settled, stP]

theorem settle_mem {D : Dk} {v : Value} {w w' : World} (h : DiskMem w D v) (f : Nat → Bool) {e : Ending} (hs : Settled D.b D.bs D.n D.st D.la D.order f w e w') :
    e = .returned (.tuple #[]) ∧ After D v w (D.settle f) w' := by
  obtain ⟨rfl, w1, rfl, hk, hS⟩ := hs
  refine ⟨rfl, .slice none 0 0, ?_, ?_, ?_⟩
  · have hd1 : w1.heap[D.b]? = w.heap[D.b]? := hk.block _ (lt_of_block h.hd) h.ne
    have hk' : Keeps (fun k => k = D.b) w1 (w1.setCell ⟨D.b, 1, none⟩ (.slice none 0 0)) := (Keeps.refl (fun k => k = D.b) w1).setCell (p := ⟨D.b, 1, none⟩) (.inl rfl) _
    refine ⟨h.n1, h.n2, h.ne, by have := heap_put (hd1.trans h.hd) 1 (.slice none 0 0); simpa [Dk.settle] using this, ?_, ⟨rfl, .inl ⟨rfl, rfl⟩⟩, by simp [Value.ownBlock], by simp [Value.ownBlock], by simp [Dk.settle], by simp [Dk.settle], h.l1, h.l2, fun _ _ _ => rfl⟩
    have := hS.keep hk' (fun e => h.ne e.symm)
    rw [← settled_eq] at this
    simpa [Dk.settle] using this
  · exact (hk.mono (fun k e => .inl (.inr (.inl e)))).setCell (p := ⟨D.b, 1, none⟩) (.inl (.inl rfl)) _
  · rintro k (e | e | e)
    · exact .inl (.inl e)
    · exact .inl (.inr (.inl e))
    · simp [Value.ownBlock] at e

theorem settle_empty {D : Dk} {v : Value} {w : World} (h : DiskMem w D v) (f : Nat → Bool) (ho : D.order = []) (hv : v = .slice none 0 0) :
    Settled D.b D.bs D.n D.st D.la D.order f w (.returned (.tuple #[])) (w.setCell ⟨D.b, 1, none⟩ (.slice none 0 0)) := by
  subst hv
  refine ⟨rfl, w, rfl, Keeps.refl _ _, ?_⟩
  rw [← settled_eq]
  have e : D.settled f = D.st := by funext i; simp [Dk.settled, ho]
  rw [e]
  have hS := h.secs
  exact ⟨hS.blk, hS.lst, hS.lst, hS.rst, fun i hi => by have := hS.rla i hi; rwa [h.sync i hi (by simp [ho])] at this, fun i hi => by have := hS.rwa i hi; simpa [ho] using this⟩

theorem order_cells {D : Dk} {g cap : Nat} {w : World} (h : DiskMem w D (.slice (some ⟨g, 0, none⟩) D.order.length cap)) : ∀ j, j < D.order.length → w.cell? ⟨g, j, none⟩ = some (.int .i64 (D.order.getD j 0)) := by
  intro j hj
  rw [World.ownsRow.cellAt h.ow j (by omega)]
  simp [hj, iv]

theorem settle_flush_any (D : Dk) (v : Value) (w : World) (h : DiskMem w D v) :
    Calls Tryz.prog 46 #[.pointer (some ⟨D.b, 0, none⟩), .func (.func 108) #[] #[]] w fun e w' => e = .returned (.tuple #[]) ∧ After D v w (D.settle fun _ => true) w' := by
  rcases h.ow.2 with ⟨hv, h0⟩ | ⟨g, cap, cur, hv, _, hg, _⟩
  · have ho : D.order = [] := List.eq_nil_of_length_eq_zero h0
    refine (settle_nil D.b _ w (by rw [h.c1, hv]) (h.fr 1)).mono ?_
    rintro e w' ⟨rfl, rfl⟩
    exact settle_mem h _ (settle_empty h _ ho hv)
  · subst hv
    refine (settle_flush D.b D.bs D.n g cap D.st D.la D.order (fun _ => true) w (Lib.hid h.secs) h.n2 h.olen (Lib.hid h.olt) (Lib.hid h.nodup) (Lib.hid h.sync) h.c0 h.c1 (h.fr 1) h.ne
      (fun e => h.vs (by simp [Value.ownBlock, e])) (Lib.hid (order_cells h)) (lt_of_block hg) (lt_of_block h.hd) (Lib.hid fun k w' _ _ => flush1_any k w')).mono ?_
    intro e w' hs; exact settle_mem h _ hs

/-- a slice of bools reads as these -/
def BoolsAt (w : World) (v : Value) (x : List Bool) : Prop :=
  ∃ p c, v = .slice p x.length c ∧ x.length ≤ 9223372036854775807 ∧ (0 < x.length → ∃ b o, p = some ⟨b, o, none⟩ ∧ w.rangeAt b o (x.map .bool))

theorem settle_crash_any (D : Dk) (v : Value) (w : World) (kb : Nat) (kv : Value) (kept : List Bool) (h : DiskMem w D v) (hk : BoolsAt w kv kept) (hsep : 0 < kept.length → ∀ k, kv.ownBlock = some k → k ≠ D.bs) (hkb : kb ≠ D.bs)
    (hc : w.cell? ⟨kb, 0, none⟩ = some kv) :
    Calls Tryz.prog 46 #[.pointer (some ⟨D.b, 0, none⟩), .func (.func 47) #[] #[.pointer (some ⟨kb, 0, none⟩)]] w fun e w' => e = .returned (.tuple #[]) ∧ After D v w (D.settle fun k => kept.getD k false) w' := by
  rcases h.ow.2 with ⟨hv, h0⟩ | ⟨g, cap, cur, hv, _, hg, _⟩
  · have ho : D.order = [] := List.eq_nil_of_length_eq_zero h0
    refine (settle_nil D.b _ w (by rw [h.c1, hv]) (h.fr 1)).mono ?_
    rintro e w' ⟨rfl, rfl⟩
    exact settle_mem h _ (settle_empty h _ ho hv)
  · subst hv
    refine (settle_crash D.b D.bs D.n g cap D.st D.la D.order (fun k => kept.getD k false) kb w (Lib.hid h.secs) h.n2 h.olen (Lib.hid h.olt) (Lib.hid h.nodup) (Lib.hid h.sync) h.c0 h.c1 (h.fr 1) h.ne
      (fun e => h.vs (by simp [Value.ownBlock, e])) (Lib.hid (order_cells h)) (lt_of_block hg) (lt_of_block h.hd) (Lib.hid fun k w' hk1 hkp => ?_)).mono ?_
    · obtain ⟨p, c, rfl, hm, hp⟩ := hk
      have hc' : w'.cell? ⟨kb, 0, none⟩ = some (.slice p kept.length c) := by rw [hkp.cell (p := ⟨kb, 0, none⟩) (World.block_lt_of_cell? w _ hc) hkb]; exact hc
      by_cases hkl : k < kept.length
      · obtain ⟨b, o, rfl, hr⟩ := hp (by omega)
        have hx : w'.cell? ⟨b, o + k, none⟩ = some (.bool (kept.getD k false)) := (hkp.rangeAt hr (hsep (by omega) b rfl)) k _ (by simp [hkl])
        exact crash1_in k kept.length c kb b o _ w' hc' hkl hm hx
      · have e : kept.getD k false = false := by simp; rw [List.getElem?_eq_none (by omega)]; rfl
        simp only [e]
        exact crash1_out k kept.length c kb p w' hc' (by omega) (by omega)
    · intro e w' hs; exact settle_mem h _ hs

theorem flush_nil (w : World) : Calls Tryz.prog 80 #[.pointer none] w fun e w' => e = .returned (.int .i64 1) ∧ w = w' := by
  go_enter Tryz.func80, Tryz.ntmps80
  go_wp2
  go_ret
  exact ⟨rfl, rfl⟩
theorem flush_off (b : Nat) (w : World) (h2 : w.cell? ⟨b, 2, none⟩ = some (.bool false)) : Calls Tryz.prog 80 #[.pointer (some ⟨b, 0, none⟩)] w fun e w' => e = .returned (.int .i64 2) ∧ w = w' := by
  go_enter Tryz.func80, Tryz.ntmps80
  go_wp2
  go_ret
  exact ⟨rfl, rfl⟩
theorem flush_fails (b : Nat) (w w1 : World) (h2 : w.cell? ⟨b, 2, none⟩ = some (.bool true)) (hf : Hid (Calls Tryz.prog 79 #[.pointer (some ⟨b, 0, none⟩)] w fun e w' => e = .returned (.bool true) ∧ w1 = w')) :
    Calls Tryz.prog 80 #[.pointer (some ⟨b, 0, none⟩)] w fun e w' => e = .returned (.int .i64 2) ∧ w1 = w' := by
  go_enter Tryz.func80, Tryz.ntmps80
  go_wp2_with (go_at_call 79; refine hf.out.mono ?_; rintro e w' ⟨rfl, rfl⟩)
  go_ret
  exact ⟨rfl, rfl⟩
theorem flush_goes (b : Nat) (R : World → Prop) (w w1 : World) (h2 : w.cell? ⟨b, 2, none⟩ = some (.bool true)) (hf : Hid (Calls Tryz.prog 79 #[.pointer (some ⟨b, 0, none⟩)] w fun e w' => e = .returned (.bool false) ∧ w1 = w'))
    (hs : Hid (Calls Tryz.prog 46 #[.pointer (some ⟨b, 0, none⟩), .func (.func 108) #[] #[]] w1 fun e w' => e = .returned (.tuple #[]) ∧ R w')) :
    Calls Tryz.prog 80 #[.pointer (some ⟨b, 0, none⟩)] w fun e w' => e = .returned (.int .i64 0) ∧ R w' := by
  go_enter Tryz.func80, Tryz.ntmps80
  go_wp2_with (first | (go_at_call 79; refine hf.out.mono ?_; rintro e w' ⟨rfl, rfl⟩) | (go_at_call 46; refine hs.out.mono ?_; rintro e w' ⟨rfl, hR⟩))
  go_ret
  exact ⟨rfl, hR⟩

theorem flush_any (D : Dk) (v : Value) (w : World) (h : DiskMem w D v) :
    Calls Tryz.prog 80 #[.pointer (some ⟨D.b, 0, none⟩)] w fun e w' => e = .returned (.int .i64 D.flush.1) ∧ After D v w D.flush.2 w' := by
  by_cases hon : D.on = false
  · have e1 : D.flush = (2, D) := by simp [Dk.flush, hon]
    rw [e1]
    refine (flush_off D.b w (by rw [h.c2, hon])).mono ?_
    rintro e w' ⟨rfl, rfl⟩
    exact ⟨rfl, After.refl h⟩
  have hon : D.on = true := by simpa using hon
  have h2 : w.cell? ⟨D.b, 2, none⟩ = some (.bool true) := by rw [h.c2, hon]
  have hw : D.flush = if D.fail.1 then (2, D.fail.2) else (0, D.fail.2.settle fun _ => true) := by unfold Dk.flush; rw [if_neg (by simp [hon])]
  by_cases h0 : D.left = 0
  · have e1 : D.fail = (true, { D with on := false }) := by simp [Dk.fail, h0]
    rw [hw, e1]
    refine (flush_fails D.b w _ h2 (Lib.hid (fails_now D.b (.bool D.on) w (by rw [h.c3, h0]) h.c2 (h.fr 2)))).mono ?_
    rintro e w' ⟨rfl, rfl⟩
    exact ⟨rfl, fail_mem h false D.left h.l1 h.l2 _ (by simpa using heap_put h.hd 2 (.bool false)) ((Keeps.refl (fun k => k = D.b) w).setCell (p := ⟨D.b, 2, none⟩) (.inl rfl) _)⟩
  · have key : ∀ (l : Int) (w1 : World), Calls Tryz.prog 79 #[.pointer (some ⟨D.b, 0, none⟩)] w (fun e w' => e = .returned (.bool false) ∧ w1 = w') → D.fail = (false, { D with left := l }) →
        After D v w { D with left := l } w1 →
        Calls Tryz.prog 80 #[.pointer (some ⟨D.b, 0, none⟩)] w fun e w' => e = .returned (.int .i64 D.flush.1) ∧ After D v w D.flush.2 w' := by
      intro l w1 hf e1 ha
      rw [hw, e1]
      obtain ⟨v1, hm, hk1, hf1⟩ := ha
      refine (flush_goes D.b _ w w1 h2 (Lib.hid hf) (Lib.hid (settle_flush_any { D with left := l } v1 w1 hm))).mono ?_
      rintro e w' ⟨rfl, v2, hm2, hk2, hf2⟩
      refine ⟨rfl, v2, hm2, hk1.trans' hk2 hf1, fun k e => ?_⟩
      rcases hf2 k e with e | e
      · exact hf1 k e
      · exact .inr (Nat.le_trans hk1.size e)
    by_cases h1 : 0 < D.left
    · exact key (D.left - 1) _ (fails_later D.b D.left w h1 h.l2 h.c3 (h.fr 3)) (by simp [Dk.fail, h0, h1]) (fail_mem h D.on (D.left - 1) (by omega) (by have := h.l2; omega) _ (by simpa using heap_put h.hd 3 (.int .i64 (D.left - 1)))
        ((Keeps.refl (fun k => k = D.b) w).setCell (p := ⟨D.b, 3, none⟩) (.inl rfl) _))
    · exact key D.left w (fails_never D.b D.left w (by omega) h.c3) (by simp [Dk.fail, h0, h1]) (After.refl h)
end Go.Proofs.YtdannodhlaaoiaaGreatDoor
