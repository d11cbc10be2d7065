/- settle: what waits stays, or goes. -/
import Derived.Test.YtcmpbablmofofaaF
namespace Go.Proofs.Ytcmpbablmofofaa
open Go.RowKit

def stP (st la : Nat → List UInt8) (order : List Nat) (f : Nat → Bool) (k i : Nat) : List UInt8 := if i ∈ order.take k ∧ f (order.idxOf i) = true then la i else st i
def laP (st la : Nat → List UInt8) (order : List Nat) (f : Nat → Bool) (k i : Nat) : List UInt8 := if i ∈ order.take k then stP st la order f k i else la i

structure Part (bs n : Nat) (st la : Nat → List UInt8) (order : List Nat) (f : Nat → Bool) (w : World) (k : Nat) (wr : World) : Prop where
  secs : Secs wr bs n (stP st la order f k) (laP st la order f k) (fun i => decide (i ∈ order.drop k))
  keeps : Keeps (fun g => g = bs) w wr

def Settled (b bs n : Nat) (st la : Nat → List UInt8) (order : List Nat) (f : Nat → Bool) (w : World) (e : Ending) (w' : World) : Prop :=
  e = .returned (.tuple #[]) ∧ ∃ w1, w' = w1.setCell ⟨b, 1, none⟩ (.slice none 0 0) ∧ Keeps (fun g => g = bs) w w1 ∧
    Secs w1 bs n (stP st la order f order.length) (stP st la order f order.length) (fun _ => false)

section
variable {b bs n g cap k i : Nat} {st la : Nat → List UInt8} {order : List Nat} {f : Nat → Bool} {w wr w1 : World}

theorem part_start (hS : Secs w bs n st la (fun i => decide (i ∈ order))) (_h : ∀ i, i < n → i ∉ order → la i = st i) : Part bs n st la order f w 0 w := by
  refine ⟨?_, Keeps.refl _ _⟩
  have e1 : stP st la order f 0 = st := by funext i; simp [stP]
  have e2 : laP st la order f 0 = la := by funext i; simp [laP]
  rw [e1, e2]; simpa using hS

theorem part_cells (h : Part bs n st la order f w k wr) {v0 v1 : Value} (hc0 : w.cell? ⟨b, 0, none⟩ = some v0) (hc1 : w.cell? ⟨b, 1, none⟩ = some v1) (hf1 : w.frozen? ⟨b, 1, none⟩ = false) (hbl : b < w.heap.size) (hne : ¬ b = bs) :
    wr.cell? ⟨b, 0, none⟩ = some v0 ∧ wr.cell? ⟨b, 1, none⟩ = some v1 ∧ wr.frozen? ⟨b, 1, none⟩ = false :=
  ⟨by rw [h.keeps.cell (p := ⟨b, 0, none⟩) hbl hne]; exact hc0, by rw [h.keeps.cell (p := ⟨b, 1, none⟩) hbl hne]; exact hc1, by rw [h.keeps.frozen (p := ⟨b, 1, none⟩) hbl hne]; exact hf1⟩

theorem part_g (h : Part bs n st la order f w k wr) (hg : ∀ j, j < order.length → w.cell? ⟨g, j, none⟩ = some (.int .i64 (order.getD j 0))) (hgl : g < w.heap.size) (hne : ¬ g = bs) :
    ∀ j, j < order.length → wr.cell? ⟨g, j, none⟩ = some (.int .i64 (order.getD j 0)) := fun j hj => by
  rw [h.keeps.cell (p := ⟨g, j, none⟩) hgl hne]; exact hg j hj

theorem part_in (hlt : ∀ i ∈ order, i < n) (hk : k < order.length) (hi : i = order.getD k 0) : i < n := by
  have : order.getD k 0 = order[k] := by simp [hk]
  rw [hi, this]; exact hlt _ (List.getElem_mem hk)

theorem idx_k (hnd : order.Nodup) (hk : k < order.length) (hi : i = order.getD k 0) : order.idxOf i = k ∧ i ∉ order.take k ∧ i ∈ order.drop k ∧ order.take (k + 1) = order.take k ++ [i] ∧ order.drop k = i :: order.drop (k + 1) := by
  have e : order.getD k 0 = order[k] := by simp [hk]
  rw [e] at hi
  subst hi
  have hd : order.drop k = order[k] :: order.drop (k + 1) := List.drop_eq_getElem_cons hk
  refine ⟨hnd.idxOf_getElem k hk, ?_, by rw [hd]; exact List.mem_cons_self, List.take_succ_eq_append_getElem hk, hd⟩
  have h2 : (order.take k ++ order.drop k).Nodup := by rw [List.take_append_drop]; exact hnd
  intro hm
  exact (List.nodup_append.1 h2).2.2 _ hm _ (by rw [hd]; exact List.mem_cons_self) rfl

theorem part_rst (h : Part bs n st la order f w k wr) (hnd : order.Nodup) (hk : k < order.length) (hin : i < n) (hi : i = order.getD k 0) : wr.rangeAt bs (i * 129) ((st i).map bv) := by
  have := h.secs.rst i hin
  simpa [stP, (idx_k hnd hk hi).2.1] using this
theorem part_rla (h : Part bs n st la order f w k wr) (hnd : order.Nodup) (hk : k < order.length) (hin : i < n) (hi : i = order.getD k 0) : wr.rangeAt bs (i * 129 + 64) ((la i).map bv) := by
  have := h.secs.rla i hin
  simpa [laP, (idx_k hnd hk hi).2.1] using this

theorem part_next (hnd : order.Nodup) (hk : k < order.length) (hi : i = order.getD k 0) :
    (upd (fun i => decide (i ∈ order.drop k)) i false) = (fun i => decide (i ∈ order.drop (k + 1))) := by
  obtain ⟨_, _, _, _, hd⟩ := idx_k hnd hk hi
  funext j
  by_cases e : j = i
  · subst e
    have : j ∉ order.drop (k + 1) := by
      have h2 : (order.drop k).Nodup := hnd.sublist (List.drop_sublist _ _)
      rw [hd] at h2; exact (List.nodup_cons.1 h2).1
    simp [upd, this]
  · simp [upd, e, hd]

theorem part_no (h : Part bs n st la order f w k wr) (hnd : order.Nodup) (hk : k < order.length) (hin : i < n) (hi : i = order.getD k 0) (hl : (st i).length = 64) (hw : Hid (w1 = wr.setCells bs (i * 129 + 64) ((st i).map bv).toArray.toList)) :
    w1.cell? ⟨bs, i * 129 + 128, none⟩ = some (.bool true) ∧ w1.frozen? ⟨bs, i * 129 + 128, none⟩ = false := by
  have hS := h.secs.putLa i hin (st i) hl
  rw [hw.out]
  refine ⟨?_, hS.blk.frozen _⟩
  have := hS.rwa i hin
  simpa [(idx_k hnd hk hi).2.2.1] using this
theorem part_yes (h : Part bs n st la order f w k wr) (hnd : order.Nodup) (hk : k < order.length) (hin : i < n) (hi : i = order.getD k 0) (hl : (la i).length = 64) (hw : Hid (w1 = wr.setCells bs (i * 129) ((la i).map bv).toArray.toList)) :
    w1.cell? ⟨bs, i * 129 + 128, none⟩ = some (.bool true) ∧ w1.frozen? ⟨bs, i * 129 + 128, none⟩ = false := by
  have hS := h.secs.putSt i hin (la i) hl
  rw [hw.out]
  refine ⟨?_, hS.blk.frozen _⟩
  have := hS.rwa i hin
  simpa [(idx_k hnd hk hi).2.2.1] using this

theorem part_no_next (h : Part bs n st la order f w k wr) (hnd : order.Nodup) (hk : k < order.length) (hin : i < n) (hi : i = order.getD k 0) (hl : (st i).length = 64) (hf : f k = false) (hw : Hid (w1 = wr.setCells bs (i * 129 + 64) ((st i).map bv).toArray.toList)) :
    Hid (Part bs n st la order f w (k + 1) (w1.setCell ⟨bs, i * 129 + 128, none⟩ (.bool false))) := by
  obtain ⟨h1, h2, h3, h4, h5⟩ := idx_k hnd hk hi
  have hS := (h.secs.putLa i hin (st i) hl).putWa i hin false
  have e1 : stP st la order f k = stP st la order f (k + 1) := by
    funext j; by_cases e : j = i
    · subst e; simp [stP, h4, h1, hf]
    · simp [stP, h4, e]
  have e2 : upd (laP st la order f k) i (st i) = laP st la order f (k + 1) := by
    funext j; by_cases e : j = i
    · subst e; simp [upd, laP, stP, h4, h1, hf]
    · simp [upd, laP, ← e1, h4, e]
  rw [part_next hnd hk hi, e2, e1] at hS
  have hw' : w1 = wr.setCells bs (i * 129 + 64) ((st i).map bv) := by simpa using hw.out
  refine ⟨by rw [hw']; exact hS, ?_⟩
  rw [hw']
  exact (Keeps.setCells (F := fun g => g = bs) (.inl rfl) _ _ _ h.keeps).setCell (p := ⟨bs, _, none⟩) (.inl rfl) _
theorem part_yes_next (h : Part bs n st la order f w k wr) (hnd : order.Nodup) (hk : k < order.length) (hin : i < n) (hi : i = order.getD k 0) (hl : (la i).length = 64) (hf : f k = true) (hw : Hid (w1 = wr.setCells bs (i * 129) ((la i).map bv).toArray.toList)) :
    Hid (Part bs n st la order f w (k + 1) (w1.setCell ⟨bs, i * 129 + 128, none⟩ (.bool false))) := by
  obtain ⟨h1, h2, h3, h4, h5⟩ := idx_k hnd hk hi
  have hS := (h.secs.putSt i hin (la i) hl).putWa i hin false
  have e1 : upd (stP st la order f k) i (la i) = stP st la order f (k + 1) := by
    funext j; by_cases e : j = i
    · subst e; simp [upd, stP, h4, h1, hf]
    · simp [upd, stP, h4, e]
  have e2 : laP st la order f k = laP st la order f (k + 1) := by
    funext j; by_cases e : j = i
    · subst e; simp [laP, stP, h4, h1, h2, hf]
    · simp [laP, ← e1, upd, h4, e]
  rw [part_next hnd hk hi, e1, e2] at hS
  have hw' : w1 = wr.setCells bs (i * 129) ((la i).map bv) := by simpa using hw.out
  refine ⟨by rw [hw']; exact hS, ?_⟩
  rw [hw']
  exact (Keeps.setCells (F := fun g => g = bs) (.inl rfl) _ _ _ h.keeps).setCell (p := ⟨bs, _, none⟩) (.inl rfl) _

theorem part_end (h : Part bs n st la order f w k wr) (hk : k ≤ order.length) (hk2 : order.length ≤ k) (hsy : ∀ i, i < n → i ∉ order → la i = st i) (_hlt : ∀ i ∈ order, i < n) :
    Settled b bs n st la order f w (.returned (.tuple #[])) (wr.setCell ⟨b, 1, none⟩ (.slice none 0 0)) := by
  have e : k = order.length := by omega
  subst e
  refine ⟨rfl, wr, rfl, h.keeps, ?_⟩
  have hS := h.secs
  have e3 : ∀ i, i < n → laP st la order f order.length i = stP st la order f order.length i := by
    intro i hi
    by_cases hm : i ∈ order
    · simp [laP, hm]
    · simp [laP, stP, hm, hsy i hi hm]
  exact ⟨hS.blk, hS.lst, fun i hi => by rw [← e3 i hi]; exact hS.lla i hi, hS.rst, fun i hi => by rw [← e3 i hi]; exact hS.rla i hi, fun i hi => by simpa using hS.rwa i hi⟩
end

set_option maxRecDepth 100000 in
set_option maxHeartbeats 1000000 in
theorem settle_flush (b bs n g cap : Nat) (st la : Nat → List UInt8) (order : List Nat) (f : Nat → Bool) (w : World)
    (hS : Hid (Secs w bs n st la (fun i => decide (i ∈ order)))) (hn : n ≤ 1024) (hol : order.length ≤ 1024) (hlt : Hid (∀ i ∈ order, i < n)) (hnd : Hid order.Nodup) (hsy : Hid (∀ i, i < n → i ∉ order → la i = st i))
    (hc0 : w.cell? ⟨b, 0, none⟩ = some (.slice (some ⟨bs, 0, none⟩) n n)) (hc1 : w.cell? ⟨b, 1, none⟩ = some (.slice (some ⟨g, 0, none⟩) order.length cap)) (hf1 : w.frozen? ⟨b, 1, none⟩ = false)
    (hne : ¬ b = bs) (hne2 : ¬ g = bs) (hg : Hid (∀ j, j < order.length → w.cell? ⟨g, j, none⟩ = some (.int .i64 (order.getD j 0)))) (hgl : g < w.heap.size) (hbl : b < w.heap.size)
    (hcl : Hid (∀ (k : Nat) (w' : World), k < 1024 → Keeps (fun g => g = bs) w w' → Calls Try.prog 48 #[.int .i64 k] w' fun e w'' => e = .returned (.bool (f k)) ∧ w' = w'')) :
    Calls Try.prog 44 #[.pointer (some ⟨b, 0, none⟩), .func (.func 48) #[] #[]] w (Settled b bs n st la order f w) := by
  go_enter Try.func44, Try.ntmps44
  go_wp2
  go_loopw [12] (fun iv wr => ∃ k : Nat, k ≤ order.length ∧ iv = .int .i64 k ∧ Hid (Part bs n st la order f w k wr)) (fun iv _ => order.length - (intOf iv).toNat)
  case atStart => exact ⟨0, by omega, rfl, part_start hS.out hsy.out⟩
  case round =>
    obtain ⟨k, hk, rfl, hP⟩ := hrel
    obtain ⟨hr0, hr1, hrf⟩ := part_cells hP.out hc0 hc1 hf1 hbl hne
    by_cases hlk : k < order.length
    · have hgk := part_g hP.out hg.out hgl hne2 k hlk
      obtain ⟨i, hi⟩ : ∃ i : Nat, i = order.getD k 0 := ⟨_, rfl⟩
      rw [← hi] at hgk
      have hin : i < n := part_in hlt.out hlk hi
      have hi' := Lib.hid hi; clear hi
      have hcl' := Lib.hid (hcl.out k _ (by omega) hP.out.keeps)
      cases hfk : f k
      · go_wp2_with (first | (go_at_call 48; refine hcl'.out.mono ?_; rintro e w' ⟨rfl, rfl⟩) | ((with_reducible refine at_slot 37 ?_); refine wpList_load_mid rfl 87 (.tmp 36) rfl bs (i * 129) rfl ((st i).map bv) _ (part_rst hP.out hnd.out hlk hin hi'.out) Try.underlying87 rfl (by rw [List.length_map, hS.out.lst i hin]; exact arrInfo) ?_) | ((with_reducible refine at_store 39 ?_); refine wpList_store_named rfl 87 (.tmp 39) (.tmp 37) rfl bs (i * 129 + 64) ((st i).map bv).toArray rfl rfl ?c1 ?c2 ?c3 ?_; rotate_right; intro w1 hw1; obtain ⟨h1a, h1b⟩ := part_no hP.out hnd.out hlk hin hi'.out (hS.out.lst i hin) hw1))
        case c1 => exact hP.out.secs.blk.there _ _ (by simp [hS.out.lst i hin]; omega)
        case c2 => rw [List.size_toArray, List.length_map, hS.out.lst i hin]; exact arrInfo
        case c3 => exact all_oneCell_toArray (bv_one _)
        go_roundw
        case rel => exact ⟨k + 1, by omega, by go_num, part_no_next hP.out hnd.out hlk hin hi'.out (hS.out.lst i hin) hfk hw1⟩
        case measure => simp [intOf]; omega
      · go_wp2_with (first | (go_at_call 48; refine hcl'.out.mono ?_; rintro e w' ⟨rfl, rfl⟩) | ((with_reducible refine at_slot 30 ?_); refine wpList_load_mid rfl 87 (.tmp 29) rfl bs (i * 129 + 64) rfl ((la i).map bv) _ (part_rla hP.out hnd.out hlk hin hi'.out) Try.underlying87 rfl (by rw [List.length_map, hS.out.lla i hin]; exact arrInfo) ?_) | ((with_reducible refine at_store 32 ?_); refine wpList_store_named rfl 87 (.tmp 32) (.tmp 30) rfl bs (i * 129) ((la i).map bv).toArray rfl rfl ?e1 ?e2 ?e3 ?_; rotate_right; intro w1 hw1; obtain ⟨h1a, h1b⟩ := part_yes hP.out hnd.out hlk hin hi'.out (hS.out.lla i hin) hw1))
        case e1 => exact hP.out.secs.blk.there _ _ (by simp [hS.out.lla i hin]; omega)
        case e2 => rw [List.size_toArray, List.length_map, hS.out.lla i hin]; exact arrInfo
        case e3 => exact all_oneCell_toArray (bv_one _)
        go_roundw
        case rel => exact ⟨k + 1, by omega, by go_num, part_yes_next hP.out hnd.out hlk hin hi'.out (hS.out.lla i hin) hfk hw1⟩
        case measure => simp [intOf]; omega
    · go_wp2
      go_end0
      exact part_end hP.out hk (by omega) hsy.out hlt.out

set_option maxRecDepth 100000 in
set_option maxHeartbeats 1000000 in
theorem settle_crash (b bs n g cap : Nat) (st la : Nat → List UInt8) (order : List Nat) (f : Nat → Bool) (kb : Nat) (w : World)
    (hS : Hid (Secs w bs n st la (fun i => decide (i ∈ order)))) (hn : n ≤ 1024) (hol : order.length ≤ 1024) (hlt : Hid (∀ i ∈ order, i < n)) (hnd : Hid order.Nodup) (hsy : Hid (∀ i, i < n → i ∉ order → la i = st i))
    (hc0 : w.cell? ⟨b, 0, none⟩ = some (.slice (some ⟨bs, 0, none⟩) n n)) (hc1 : w.cell? ⟨b, 1, none⟩ = some (.slice (some ⟨g, 0, none⟩) order.length cap)) (hf1 : w.frozen? ⟨b, 1, none⟩ = false)
    (hne : ¬ b = bs) (hne2 : ¬ g = bs) (hg : Hid (∀ j, j < order.length → w.cell? ⟨g, j, none⟩ = some (.int .i64 (order.getD j 0)))) (hgl : g < w.heap.size) (hbl : b < w.heap.size)
    (hcl : Hid (∀ (k : Nat) (w' : World), k < 1024 → Keeps (fun g => g = bs) w w' → Calls Try.prog 45 #[.int .i64 k, .pointer (some ⟨kb, 0, none⟩)] w' fun e w'' => e = .returned (.bool (f k)) ∧ w' = w'')) :
    Calls Try.prog 44 #[.pointer (some ⟨b, 0, none⟩), .func (.func 45) #[] #[.pointer (some ⟨kb, 0, none⟩)]] w (Settled b bs n st la order f w) := by
  go_enter Try.func44, Try.ntmps44
  go_wp2
  go_loopw [12] (fun iv wr => ∃ k : Nat, k ≤ order.length ∧ iv = .int .i64 k ∧ Hid (Part bs n st la order f w k wr)) (fun iv _ => order.length - (intOf iv).toNat)
  case atStart => exact ⟨0, by omega, rfl, part_start hS.out hsy.out⟩
  case round =>
    obtain ⟨k, hk, rfl, hP⟩ := hrel
    obtain ⟨hr0, hr1, hrf⟩ := part_cells hP.out hc0 hc1 hf1 hbl hne
    by_cases hlk : k < order.length
    · have hgk := part_g hP.out hg.out hgl hne2 k hlk
      obtain ⟨i, hi⟩ : ∃ i : Nat, i = order.getD k 0 := ⟨_, rfl⟩
      rw [← hi] at hgk
      have hin : i < n := part_in hlt.out hlk hi
      have hi' := Lib.hid hi; clear hi
      have hcl' := Lib.hid (hcl.out k _ (by omega) hP.out.keeps)
      cases hfk : f k
      · go_wp2_with (first | (go_at_call 45; refine hcl'.out.mono ?_; rintro e w' ⟨rfl, rfl⟩) | ((with_reducible refine at_slot 37 ?_); refine wpList_load_mid rfl 87 (.tmp 36) rfl bs (i * 129) rfl ((st i).map bv) _ (part_rst hP.out hnd.out hlk hin hi'.out) Try.underlying87 rfl (by rw [List.length_map, hS.out.lst i hin]; exact arrInfo) ?_) | ((with_reducible refine at_store 39 ?_); refine wpList_store_named rfl 87 (.tmp 39) (.tmp 37) rfl bs (i * 129 + 64) ((st i).map bv).toArray rfl rfl ?c1 ?c2 ?c3 ?_; rotate_right; intro w1 hw1; obtain ⟨h1a, h1b⟩ := part_no hP.out hnd.out hlk hin hi'.out (hS.out.lst i hin) hw1))
        case c1 => exact hP.out.secs.blk.there _ _ (by simp [hS.out.lst i hin]; omega)
        case c2 => rw [List.size_toArray, List.length_map, hS.out.lst i hin]; exact arrInfo
        case c3 => exact all_oneCell_toArray (bv_one _)
        go_roundw
        case rel => exact ⟨k + 1, by omega, by go_num, part_no_next hP.out hnd.out hlk hin hi'.out (hS.out.lst i hin) hfk hw1⟩
        case measure => simp [intOf]; omega
      · go_wp2_with (first | (go_at_call 45; refine hcl'.out.mono ?_; rintro e w' ⟨rfl, rfl⟩) | ((with_reducible refine at_slot 30 ?_); refine wpList_load_mid rfl 87 (.tmp 29) rfl bs (i * 129 + 64) rfl ((la i).map bv) _ (part_rla hP.out hnd.out hlk hin hi'.out) Try.underlying87 rfl (by rw [List.length_map, hS.out.lla i hin]; exact arrInfo) ?_) | ((with_reducible refine at_store 32 ?_); refine wpList_store_named rfl 87 (.tmp 32) (.tmp 30) rfl bs (i * 129) ((la i).map bv).toArray rfl rfl ?e1 ?e2 ?e3 ?_; rotate_right; intro w1 hw1; obtain ⟨h1a, h1b⟩ := part_yes hP.out hnd.out hlk hin hi'.out (hS.out.lla i hin) hw1))
        case e1 => exact hP.out.secs.blk.there _ _ (by simp [hS.out.lla i hin]; omega)
        case e2 => rw [List.size_toArray, List.length_map, hS.out.lla i hin]; exact arrInfo
        case e3 => exact all_oneCell_toArray (bv_one _)
        go_roundw
        case rel => exact ⟨k + 1, by omega, by go_num, part_yes_next hP.out hnd.out hlk hin hi'.out (hS.out.lla i hin) hfk hw1⟩
        case measure => simp [intOf]; omega
    · go_wp2
      go_end0
      exact part_end hP.out hk (by omega) hsy.out hlt.out

end Go.Proofs.Ytcmpbablmofofaa
