/- New, full. -/
import Derived.Test.YtcmpbablmofofaaI
namespace Go.Proofs.Ytcmpbablmofofaa
open Go.RowKit

def zsec : Value := .agg (List.replicate 128 (Value.int .u8 0) ++ [Value.bool false]).toArray
theorem secInfo : (Try.prog.info? 89).map (fun i => (i.zero, i.size, i.bytes)) = some (some zsec, 129, 129) := by kernel_rfl

theorem new_bad (n : Int) (w : World) (h : n < 1 ∨ 1024 < n) : Calls Try.prog 19 #[.int .i64 n] w fun e w' => e = .returned (.tuple #[.pointer none, .int .i64 1]) ∧ w = w' := by
  rcases h with h | h
  all_goals
    by_cases h1 : n < 1
    all_goals
      go_enter Try.func19, Try.ntmps19
      go_wp2
      go_ret2
      exact ⟨rfl, rfl⟩

def rep64 (x : UInt8) : List UInt8 := List.replicate 64 x
theorem rep64_len (x : UInt8) : (rep64 x).length = 64 := List.length_replicate ..
theorem rep_map_at (n j : Nat) (x : UInt8) (h : j < n) : ((List.replicate n x).map bv)[j]? = some (.int .u8 x.toNat) := by simp [h, bv]
theorem rep64_at (j : Nat) (x : UInt8) (h : j < 64) : ((rep64 x).map bv)[j]? = some (.int .u8 x.toNat) := rep_map_at 64 j x h
def fresh (b bs n : Nat) : Dk := ⟨b, bs, n, fun _ => rep64 0, fun _ => rep64 0, [], true, -1⟩
def Fresh (n : Nat) (w : World) (e : Ending) (w' : World) : Prop :=
  ∃ b bs, e = .returned (.tuple #[.pointer (some ⟨b, 0, none⟩), .int .i64 0]) ∧ DiskMem w' (fresh b bs n) (.slice none 0 0) ∧ w.heap.size ≤ b ∧ w.heap.size ≤ bs ∧ Keeps (fun _ => False) w w'

theorem rep_at (n k : Nat) (a b : Value) (hk : k < n + 1) : (List.replicate n a ++ [b]).toArray[k]! = if k < n then a else b := by
  by_cases h : k < n
  · simp [h, List.getElem?_append]
  · have : k = n := by omega
    subst this; simp
theorem zsec_at (k : Nat) (hk : k < 129) : (zsec.cells)[k]! = if k < 128 then Value.int .u8 0 else Value.bool false := rep_at 128 k _ _ hk

theorem made_cell {n : Nat} {w w1 : World} (ho : w1.ownsRow 0 89 129 (.slice (some ⟨w.heap.size, 0, none⟩) n n) n (madeCells zsec.cells (n * 129)).toList) (i j : Nat) (hi : i < n) (hj : j < 129) :
    w1.cell? ⟨w.heap.size, i * 129 + j, none⟩ = some (if j < 128 then Value.int .u8 0 else Value.bool false) := by
  rw [World.ownsRow.cellAt ho _ (by omega)]
  rw [Array.getElem?_toList]
  have hs : zsec.cells.size = 129 := by rw [show zsec.cells = (List.replicate 128 (Value.int .u8 0) ++ [Value.bool false]).toArray from rfl]; simp
  unfold madeCells
  rw [Array.getElem?_map, Array.getElem?_range]
  rw [if_pos (by omega)]
  simp only [Option.map_some, hs]
  rw [show (i * 129 + j) % 129 = j by omega, zsec_at j hj]

theorem fresh_mem {n : Nat} {w w1 : World} (h1 : 1 ≤ n) (h2 : n ≤ 1024) (ho : w1.ownsRow 0 89 129 (.slice (some ⟨w.heap.size, 0, none⟩) n n) n (madeCells zsec.cells (n * 129)).toList) (hg : w.grownBy w1 none) :
    Fresh n w (.returned (.tuple #[.pointer (some ⟨w1.heap.size, 0, none⟩), .int .i64 0])) (w1.alloc (.cells #[.slice (some ⟨w.heap.size, 0, none⟩) n n, .slice none 0 0, .bool true, .int .i64 (-1)] 84)) := by
  have hk : Keeps (fun _ => False) w w1 := Keeps.grown (Keeps.refl _ _) hg (fun k e => by cases e)
  have hlt : w.heap.size < w1.heap.size := (ho.lt w.heap.size rfl).2
  refine ⟨w1.heap.size, w.heap.size, rfl, ?_, by omega, Nat.le_refl _, hk.alloc _⟩
  have hk2 : Keeps (fun _ => False) w1 (w1.alloc (.cells #[.slice (some ⟨w.heap.size, 0, none⟩) n n, .slice none 0 0, .bool true, .int .i64 (-1)] 84)) := (Keeps.refl _ _).alloc _
  refine ⟨h1, h2, by show w1.heap.size ≠ w.heap.size; omega, heap_alloc_last _ _, Secs.keep ?_ hk2 id, ⟨rfl, .inl ⟨rfl, rfl⟩⟩, by simp [Value.ownBlock], by simp [Value.ownBlock], by simp [fresh], by simp [fresh], by simp [fresh], by simp [fresh], fun _ _ _ => rfl⟩
  refine ⟨?_, fun i hi => rep64_len 0, fun i hi => rep64_len 0, ?_, ?_, ?_⟩
  · rcases ho.2 with ⟨hv, _⟩ | ⟨g, cap, cur, hv, _, hgg, _, _, hcs, _⟩
    · cases hv
    · injection hv with e1 e2 e3
      injection e1 with e1; injection e1 with e1
      subst e1; subst e3
      exact ⟨cur, hgg, hcs⟩
  · intro i hi j u hu
    have hj : j < 64 := by have := (List.getElem?_eq_some_iff.1 hu).1; simpa [fresh, rep64_len] using this
    have := made_cell ho i j hi (by omega)
    rw [if_pos (by omega)] at this
    rw [show (fresh w1.heap.size w.heap.size n).bs = w.heap.size from rfl, this, ← hu]
    exact (rep64_at j 0 hj).symm
  · intro i hi j u hu
    have hj : j < 64 := by have := (List.getElem?_eq_some_iff.1 hu).1; simpa [fresh, rep64_len] using this
    have := made_cell ho i (64 + j) hi (by omega)
    rw [if_pos (by omega), ← Nat.add_assoc] at this
    rw [show (fresh w1.heap.size w.heap.size n).bs = w.heap.size from rfl, this, ← hu]
    exact (rep64_at j 0 hj).symm
  · intro i hi
    have := made_cell ho i 128 hi (by omega)
    rw [if_neg (by omega)] at this
    rw [show (fresh w1.heap.size w.heap.size n).bs = w.heap.size from rfl, this]
    simp [fresh]

set_option maxRecDepth 100000 in
theorem new_ok (n : Nat) (w : World) (h1 : 1 ≤ n) (h2 : n ≤ 1024) : Calls Try.prog 19 #[.int .i64 n] w (Fresh n w) := by
  obtain ⟨i0, hi0, hz0, hz1, hz2⟩ := info_parts secInfo
  have hz2' := Lib.hid hz2; clear hz2
  go_enter Try.func19, Try.ntmps19
  go_wp2_with (at_make; refine wpList_make_full _ rfl (.tmp 10) (.tmp 10) 82 rfl 0 89 i0 zsec 129 Try.underlying82 hi0 hz0 hz1 .i64 .i64 n n n rfl rfl rfl rfl ?c1 ?c2 ?c3 ?_; rotate_right; intro w1 ho1 hg1; have ho := Lib.hid ho1; clear ho1; have hg := Lib.hid hg1; clear hg1)
  case c1 => rw [hz2'.out]; omega
  case c2 => unfold maxLen; omega
  case c3 => exact Nat.zero_le _
  go_ret2
  exact fresh_mem h1 h2 ho.out hg.out

/-! full -/
structure Filled (x : UInt8) (k : Nat) (w wr : World) : Prop where
  keeps : Keeps (fun _ => False) w wr
  blk : World.blockAt wr w.heap.size 5 64
  cells : ∀ j, j < k → wr.cell? ⟨w.heap.size, j, none⟩ = some (.int .u8 x.toNat)
theorem filled_at {x : UInt8} {k : Nat} {w wr : World} (h : Filled x k w wr) (j : Nat) (hj : j < 64) : (∃ o, wr.cell? ⟨w.heap.size, j, none⟩ = some o) ∧ wr.frozen? ⟨w.heap.size, j, none⟩ = false := by
  have := h.blk.there 0 64 (by omega) j hj
  rw [Nat.zero_add] at this
  exact ⟨Option.isSome_iff_exists.1 this.1, this.2⟩
theorem filled_next {x : UInt8} {k : Nat} {w wr : World} (h : Filled x k w wr) (hk : k < 64) : Filled x (k + 1) w (wr.setCell ⟨w.heap.size, k, none⟩ (.int .u8 x.toNat)) := by
  obtain ⟨⟨o, ho⟩, _⟩ := filled_at h k hk
  refine ⟨h.keeps.setCell (p := ⟨w.heap.size, k, none⟩) (.inr (Nat.le_refl _)) _, h.blk.setCell _ _, fun j hj => ?_⟩
  by_cases e : j = k
  · subst e; exact World.cell?_setCell_same _ _ _ ho
  · rw [World.cell?_setCell_other _ _ _ _ (by simp <;> omega)]; exact h.cells j (by omega)
/-- a new slice of 64 bytes -/
def New64 (x : UInt8) (w : World) (e : Ending) (w' : World) : Prop :=
  e = .returned (.slice (some ⟨w.heap.size, 0, none⟩) 64 64) ∧ Keeps (fun _ => False) w w' ∧ w'.rangeAt w.heap.size 0 ((rep64 x).map bv) ∧ w.heap.size < w'.heap.size
theorem owns_block {w w1 : World} {g n : Nat} {e : TypeId} {size : Nat} {xs : List Value} (ho : w1.ownsRow 0 e size (.slice (some ⟨g, 0, none⟩) n n) n xs) : World.blockAt w1 g e (n * size) := by
  rcases ho.2 with ⟨hv, _⟩ | ⟨g', cap, cur, hv, _, hgg, _, _, hcs, _⟩
  · cases hv
  · injection hv with e1 e2 e3
    injection e1 with e1; injection e1 with e1
    subst e1; subst e3
    exact ⟨cur, hgg, hcs⟩
theorem filled_start {x : UInt8} {w w1 : World} {xs : List Value} (ho : w1.ownsRow 0 5 1 (.slice (some ⟨w.heap.size, 0, none⟩) 64 64) 64 xs) (hg : w.grownBy w1 none) : Hid (Filled x 0 w w1) :=
  ⟨Keeps.grown (Keeps.refl _ _) hg (fun k e => by cases e), owns_block (w := w) ho, fun j hj => absurd hj (Nat.not_lt_zero j)⟩
theorem filled_end {x : UInt8} {w wr : World} (h : Filled x 64 w wr) : New64 x w (.returned (.slice (some ⟨w.heap.size, 0, none⟩) 64 64)) wr := by
  refine ⟨rfl, h.keeps, fun j u hu => ?_, h.blk.lt⟩
  have hj : j < 64 := by have := (List.getElem?_eq_some_iff.1 hu).1; simpa [rep64_len] using this
  rw [Nat.zero_add, h.cells j hj, ← hu]; exact (rep64_at j x hj).symm

set_option maxRecDepth 100000 in
theorem full_any (x : UInt8) (w : World) : Calls Try.prog 22 #[.int .u8 x.toNat] w (New64 x w) := by
  obtain ⟨i0, hi0, hz0, hz1, hz2⟩ := info_parts u8InfoAll
  have hz2' := Lib.hid hz2; clear hz2
  go_enter Try.func22, Try.ntmps22
  go_wp2_with (at_make; refine wpList_make_full _ rfl (.const (.int .i64 64)) (.const (.int .i64 64)) 27 rfl 0 5 i0 (.int .u8 0) 1 Try.underlying27 hi0 hz0 hz1 .i64 .i64 64 64 64 rfl rfl rfl rfl ?c1 ?c2 ?c3 ?_; rotate_right; intro w1 ho1 hg1; have ho := Lib.hid ho1; clear ho1; have hg := Lib.hid hg1; clear hg1)
  case c1 => rw [hz2'.out]; decide
  case c2 => unfold maxLen; omega
  case c3 => exact Nat.zero_le _
  go_loopw [4] (fun iv wr => ∃ k : Nat, k ≤ 64 ∧ iv = .int .i64 k ∧ Hid (Filled x k w wr)) (fun iv _ => 64 - (intOf iv).toNat)
  case atStart => exact ⟨0, by omega, rfl, filled_start ho.out hg.out⟩
  case round =>
    obtain ⟨k, hk, rfl, hF⟩ := hrel
    by_cases hlk : k < 64
    · obtain ⟨⟨o, ho⟩, hf⟩ := filled_at hF.out k hlk
      go_wp2
      go_roundw
      case rel => exact ⟨k + 1, by omega, by go_num, filled_next hF.out hlk⟩
      case measure => simp [intOf]; omega
    · obtain rfl : k = 64 := by omega
      go_wp2
      go_ret
      exact filled_end hF.out
end Go.Proofs.Ytcmpbablmofofaa
