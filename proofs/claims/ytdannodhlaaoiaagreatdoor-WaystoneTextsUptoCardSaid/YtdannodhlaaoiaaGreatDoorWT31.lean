/- Crash, Read, New, full. -/
import Derived.Test.YtdannodhlaaoiaaGreatDoorWT30
import Derived.Deep.RegionHeld3
import Derived.Laws.IdiomStrings
set_option linter.unusedVariables false
set_option linter.unusedSimpArgs false
namespace Go.Proofs.YtdannodhlaaoiaaGreatDoor
open Go.RowKit

theorem crash_nil (p : Option Addr) (m c : Nat) (w : World) : Calls Tryz.prog 13 #[.pointer none, .slice p m c] w fun e w' => e = .returned (.tuple #[]) ∧ Keeps (fun _ => False) w w' := by
  go_enter Tryz.func13, Tryz.ntmps13
  go_wp2
  exact bodyPost_ret (results_none rfl _ _ _) rfl ⟨rfl, (Keeps.refl _ _).alloc _⟩

theorem crash_goes (b : Nat) (p : Option Addr) (m c : Nat) (R : World → Prop) (w : World)
    (hs : Hid (Calls Tryz.prog 46 #[.pointer (some ⟨b, 0, none⟩), .func (.func 47) #[] #[.pointer (some ⟨w.heap.size, 0, none⟩)]] (w.alloc (.cells #[.slice p m c] 105)) fun e w' => e = .returned (.tuple #[]) ∧
      ((∃ o, w'.cell? ⟨b, 2, none⟩ = some o) ∧ (∃ o, w'.cell? ⟨b, 3, none⟩ = some o) ∧ w'.frozen? ⟨b, 2, none⟩ = false ∧ w'.frozen? ⟨b, 3, none⟩ = false) ∧ R ((w'.setCell ⟨b, 2, none⟩ (.bool true)).setCell ⟨b, 3, none⟩ (.int .i64 (-1))))) :
    Calls Tryz.prog 13 #[.pointer (some ⟨b, 0, none⟩), .slice p m c] w fun e w' => e = .returned (.tuple #[]) ∧ R w' := by
  go_enter Tryz.func13, Tryz.ntmps13
  go_wp2_with (go_at_call 46; refine hs.out.mono ?_; rintro e w' ⟨rfl, ⟨⟨o2, h2⟩, ⟨o3, h3⟩, f2, f3⟩, hR⟩)
  go_end0
  exact ⟨rfl, hR⟩

theorem crash_any (D : Dk) (v : Value) (w : World) (kv : Value) (kept : List Bool) (h : DiskMem w D v) (hk : BoolsAt w kv kept) (hsep : 0 < kept.length → ∀ k, kv.ownBlock = some k → k ≠ D.bs) :
    Calls Tryz.prog 13 #[.pointer (some ⟨D.b, 0, none⟩), kv] w fun e w' => e = .returned (.tuple #[]) ∧ After D v w (D.crash kept) w' := by
  have hk0 := hk
  obtain ⟨p, c, rfl, hm, hp⟩ := hk
  have hk1 : Keeps (fun _ => False) w (w.alloc (.cells #[.slice p kept.length c] 105)) := (Keeps.refl _ _).alloc _
  have h1 : DiskMem (w.alloc (.cells #[.slice p kept.length c] 105)) D v := h.keep hk1 (fun _ _ => id)
  have hb1 : BoolsAt (w.alloc (.cells #[.slice p kept.length c] 105)) (.slice p kept.length c) kept :=
    ⟨p, c, rfl, hm, fun h0 => by obtain ⟨b, o, e, hr⟩ := hp h0; exact ⟨b, o, e, World.rangeAt_alloc hr _⟩⟩
  have hbs := h.lt D.bs (.inr (.inl rfl))
  refine crash_goes D.b p kept.length c _ w (Lib.hid ((settle_crash_any D v _ w.heap.size _ kept h1 hb1 hsep (by omega) (by rw [cell_of_row _ _ _ _ _ _ (heap_alloc_last w _)]; rfl)).mono ?_))
  rintro e w' ⟨rfl, v', hm', hkk, hff⟩
  have hd := hm'.hd
  refine ⟨rfl, ⟨⟨_, hm'.c2⟩, ⟨_, hm'.c3⟩, hm'.fr 2, hm'.fr 3⟩, v', ?_, ?_, ?_⟩
  · have hd2 := heap_put (heap_put hd 2 (.bool true)) 3 (.int .i64 (-1))
    have hk2 : Keeps (fun k => k = D.b) w' ((w'.setCell ⟨D.b, 2, none⟩ (.bool true)).setCell ⟨D.b, 3, none⟩ (.int .i64 (-1))) :=
      ((Keeps.refl (fun k => k = D.b) w').setCell (p := ⟨D.b, 2, none⟩) (.inl rfl) _).setCell (p := ⟨D.b, 3, none⟩) (.inl rfl) _
    exact { hm' with
      hd := by simpa [Dk.crash, Dk.settle] using hd2
      secs := hm'.secs.keep hk2 (fun e => h.ne e.symm)
      ow := hk2.ownsRow hm'.ow (fun k hk' e => hm'.vb (by rw [hk', e]; rfl))
      l1 := by simp [Dk.crash]
      l2 := by simp [Dk.crash] }
  · exact (((hk1.mono (fun _ e => e.elim)).trans' hkk (fun k e => .inl e)).setCell (p := ⟨D.b, 2, none⟩) (.inl (.inl rfl)) _).setCell (p := ⟨D.b, 3, none⟩) (.inl (.inl rfl)) _
  · intro k e
    rcases hff k e with e | e
    · exact .inl e
    · exact .inr (Nat.le_trans hk1.size e)

theorem read_nil (i : Int) (w : World) : Calls Tryz.prog 74 #[.pointer none, .int .i64 i] w fun e w' => e = .returned (.tuple #[.slice none 0 0, .int .i64 1]) ∧ w = w' := by
  go_enter Tryz.func74, Tryz.ntmps74
  go_wp2
  go_ret2
  exact ⟨rfl, rfl⟩
theorem read_off (b : Nat) (i : Int) (w : World) (h2 : w.cell? ⟨b, 2, none⟩ = some (.bool false)) :
    Calls Tryz.prog 74 #[.pointer (some ⟨b, 0, none⟩), .int .i64 i] w fun e w' => e = .returned (.tuple #[.slice none 0 0, .int .i64 2]) ∧ w = w' := by
  go_enter Tryz.func74, Tryz.ntmps74
  go_wp2
  go_ret2
  exact ⟨rfl, rfl⟩
theorem read_out (b n : Nat) (q : Option Addr) (i : Int) (w : World) (hc : w.cell? ⟨b, 0, none⟩ = some (.slice q n n)) (h2 : w.cell? ⟨b, 2, none⟩ = some (.bool true)) (hi : Hid (¬ (0 ≤ i ∧ i < n))) :
    Calls Tryz.prog 74 #[.pointer (some ⟨b, 0, none⟩), .int .i64 i] w fun e w' => e = .returned (.tuple #[.slice none 0 0, .int .i64 1]) ∧ w = w' := by
  go_enter Tryz.func74, Tryz.ntmps74
  go_wp2_with (go_at_call 78; refine (has_no b n _ i _ hi.out hc).mono ?_; rintro e w' ⟨rfl, rfl⟩)
  go_ret2
  exact ⟨rfl, rfl⟩
set_option maxRecDepth 100000 in
theorem read_ok (b bs n i : Nat) (la : List Value) (w : World) (hi : i < n) (hc0 : w.cell? ⟨b, 0, none⟩ = some (.slice (some ⟨bs, 0, none⟩) n n))
   (hc2 : w.cell? ⟨b, 2, none⟩ = some (.bool true)) (hla : la.length = 64) (hr : Hid (w.rangeAt bs (i * 129 + 64) la)) (h1 : Hid (∀ v ∈ la, v.oneCell' = true)) :
    Calls Tryz.prog 74 #[.pointer (some ⟨b, 0, none⟩), .int .i64 i] w fun e w' =>
      e = .returned (.tuple #[.slice (some ⟨w.heap.size, 0, none⟩) 64 64, .int .i64 0]) ∧ w.alloc (.cells la.toArray 137) = w' := by
  go_enter Tryz.func74, Tryz.ntmps74
  go_wp2_with (first | (go_at_call 78; refine (has_yes b n _ i _ (by omega) (by omega) hc0).mono ?_; rintro e w' ⟨rfl, rfl⟩) | ((with_reducible refine at_slot 28 ?_); refine wpList_load_mid rfl 137 (.tmp 27) rfl bs (i * 129 + 64) ?c1 la _ ?c2 Tryz.underlying137 rfl ?c3 ?_) | ((with_reducible refine at_store 6 ?_); refine wpList_store_new rfl 137 (.tmp 6) (.tmp 28) rfl _ la.toArray ?d1 rfl ?d2 ?d3 ?d4 ?_))
  case c1 => rfl
  case c2 => exact hr.out
  case c3 => rw [hla]; exact arrInfo
  case d1 => rfl
  case d2 => rw [List.size_toArray, hla]; exact arrInfo
  case d3 => simp [hla]
  case d4 => exact all_oneCell_toArray h1.out
  go_ret2
  exact ⟨rfl, rfl⟩

def ReadOk (D : Dk) (w : World) (i : Nat) (e : Ending) (w' : World) : Prop :=
  e = .returned (.tuple #[.slice (some ⟨w.heap.size, 0, none⟩) 64 64, .int .i64 0]) ∧ w' = w.alloc (.cells ((D.la i).map bv).toArray 137)

theorem read_yes (D : Dk) (v : Value) (w : World) (i : Nat) (h : DiskMem w D v) (hon : D.on = true) (hi : i < D.n) :
    Calls Tryz.prog 74 #[.pointer (some ⟨D.b, 0, none⟩), .int .i64 i] w (ReadOk D w i) := by
  refine (read_ok D.b D.bs D.n i ((D.la i).map bv) w hi h.c0 (by rw [h.c2, hon]) (by rw [List.length_map, h.secs.lla i hi]) (Lib.hid (h.secs.rla i hi)) (Lib.hid (bv_one _))).mono ?_
  rintro e w' ⟨rfl, rfl⟩
  exact ⟨rfl, rfl⟩
theorem read_bad (D : Dk) (v : Value) (w : World) (i : Int) (h : DiskMem w D v) (hr : D.read i ≠ 0) :
    Calls Tryz.prog 74 #[.pointer (some ⟨D.b, 0, none⟩), .int .i64 i] w fun e w' => e = .returned (.tuple #[.slice none 0 0, .int .i64 (D.read i)]) ∧ w = w' := by
  by_cases hon : D.on = false
  · have e1 : D.read i = 2 := by simp [Dk.read, hon]
    rw [e1]; exact read_off D.b i w (by rw [h.c2, hon])
  · have hon : D.on = true := by simpa using hon
    by_cases hi : 0 ≤ i ∧ i < D.n
    · exfalso; apply hr; unfold Dk.read; rw [if_neg (by simp [hon]), if_neg (by simpa using hi)]
    · have e1 : D.read i = 1 := by unfold Dk.read; rw [if_neg (by simp [hon]), if_pos hi]
      rw [e1]; exact read_out D.b D.n _ i w h.c0 (by rw [h.c2, hon]) (Lib.hid hi)
end Go.Proofs.YtdannodhlaaoiaaGreatDoor
/- New, full. -/
namespace Go.Proofs.YtdannodhlaaoiaaGreatDoor
open Go.RowKit

def zsec : Value := .agg (List.replicate 128 (Value.int .u8 0) ++ [Value.bool false]).toArray
theorem secInfo : (Tryz.prog.info? 139).map (fun i => (i.zero, i.size, i.bytes)) = some (some zsec, 129, 129) := by kernel_rfl

theorem new_bad (n : Int) (w : World) (h : n < 1 ∨ 1024 < n) : Calls Tryz.prog 9 #[.int .i64 n] w fun e w' => e = .returned (.tuple #[.pointer none, .int .i64 1]) ∧ w = w' := by
  rcases h with h | h
  all_goals
    by_cases h1 : n < 1
    all_goals
      go_enter Tryz.func9, Tryz.ntmps9
      go_wp2
      go_ret2
      exact ⟨rfl, rfl⟩

def rep64 (x : UInt8) : List UInt8 := List.replicate 64 x
theorem rep64_len (x : UInt8) : (rep64 x).length = 64 := List.length_replicate ..
theorem rep_map_at (n j : Nat) (x : UInt8) (h : j < n) : ((List.replicate n x).map bv)[j]? = some (.int .u8 x.toNat) := by simp [h, bv]
theorem rep64_at (j : Nat) (x : UInt8) (h : j < 64) : ((rep64 x).map bv)[j]? = some (.int .u8 x.toNat) := rep_map_at 64 j x h
def fresh (b bs n : Nat) : Dk := ⟨b, bs, n, fun _ => rep64 0, fun _ => rep64 0, [], true, -1⟩
def Fresh (n : Nat) (w : World) (e : Ending) (w' : World) : Prop :=
  ∃ b bs, e = .returned (.tuple #[.pointer (some ⟨b, 0, none⟩), .int .i64 0]) ∧ DiskMem w' (fresh b bs n) (.slice none 0 0) ∧ w.heap.size ≤ b ∧ w.heap.size ≤ bs ∧ Keeps (fun _ => False) w w'

theorem rep_at (n k : Nat) (a b : Value) (hk : k < n + 1) : (List.replicate n a ++ [b]).toArray[k]! = if k < n then a else b := by
  by_cases h : k < n
  · simp [h, List.getElem?_append]
  · have : k = n := by omega
    subst this; simp
theorem zsec_at (k : Nat) (hk : k < 129) : (zsec.cells)[k]! = if k < 128 then Value.int .u8 0 else Value.bool false := rep_at 128 k _ _ hk

theorem made_cell {n : Nat} {w w1 : World} (ho : w1.ownsRow 0 139 129 (.slice (some ⟨w.heap.size, 0, none⟩) n n) n (madeCells zsec.cells (n * 129)).toList) (i j : Nat) (hi : i < n) (hj : j < 129) :
    w1.cell? ⟨w.heap.size, i * 129 + j, none⟩ = some (if j < 128 then Value.int .u8 0 else Value.bool false) := by
  rw [World.ownsRow.cellAt ho _ (by omega)]
  rw [Array.getElem?_toList]
  have hs : zsec.cells.size = 129 := by rw [show zsec.cells = (List.replicate 128 (Value.int .u8 0) ++ [Value.bool false]).toArray from rfl]; simp
  unfold madeCells
  rw [Array.getElem?_map, Array.getElem?_range]
  rw [if_pos (by omega)]
  simp only [Option.map_some, hs]
  rw [show (i * 129 + j) % 129 = j by omega, zsec_at j hj]

theorem fresh_mem {n : Nat} {w w1 : World} (h1 : 1 ≤ n) (h2 : n ≤ 1024) (ho : w1.ownsRow 0 139 129 (.slice (some ⟨w.heap.size, 0, none⟩) n n) n (madeCells zsec.cells (n * 129)).toList) (hg : w.grownBy w1 none) :
    Fresh n w (.returned (.tuple #[.pointer (some ⟨w1.heap.size, 0, none⟩), .int .i64 0])) (w1.alloc (.cells #[.slice (some ⟨w.heap.size, 0, none⟩) n n, .slice none 0 0, .bool true, .int .i64 (-1)] 86)) := by
  have hk : Keeps (fun _ => False) w w1 := Keeps.grown (Keeps.refl _ _) hg (fun k e => by cases e)
  have hlt : w.heap.size < w1.heap.size := (ho.lt w.heap.size rfl).2
  refine ⟨w1.heap.size, w.heap.size, rfl, ?_, by omega, Nat.le_refl _, hk.alloc _⟩
  have hk2 : Keeps (fun _ => False) w1 (w1.alloc (.cells #[.slice (some ⟨w.heap.size, 0, none⟩) n n, .slice none 0 0, .bool true, .int .i64 (-1)] 86)) := (Keeps.refl _ _).alloc _
  refine ⟨h1, h2, by show w1.heap.size ≠ w.heap.size; omega, heap_alloc_last _ _, Secs.keep ?_ hk2 id, ⟨rfl, .inl ⟨rfl, rfl⟩⟩, by simp [Value.ownBlock], by simp [Value.ownBlock], by simp [fresh], by simp [fresh], by simp [fresh], by simp [fresh], fun _ _ _ => rfl⟩
  refine ⟨?_, fun i hi => rep64_len 0, fun i hi => rep64_len 0, ?_, ?_, ?_⟩
  · rcases ho.2 with ⟨hv, _⟩ | ⟨g, cap, cur, hv, _, hgg, _, _, hcs, _⟩
    · cases hv
    · injection hv with e1 e2 e3
      injection e1 with e1; injection e1 with e1
      subst e1; subst e3
      exact ⟨cur, hgg, hcs⟩
  · intro i hi j u hu
    have hj : j < 64 := by have := (List.getElem?_eq_some_iff.1 hu).1; simpa [fresh, rep64_len] using this
    have := made_cell ho i j hi (by omega)
    rw [if_pos (by omega)] at this
    rw [show (fresh w1.heap.size w.heap.size n).bs = w.heap.size from rfl, this, ← hu]
    exact (rep64_at j 0 hj).symm
  · intro i hi j u hu
    have hj : j < 64 := by have := (List.getElem?_eq_some_iff.1 hu).1; simpa [fresh, rep64_len] using this
    have := made_cell ho i (64 + j) hi (by omega)
    rw [if_pos (by omega), ← Nat.add_assoc] at this
    rw [show (fresh w1.heap.size w.heap.size n).bs = w.heap.size from rfl, this, ← hu]
    exact (rep64_at j 0 hj).symm
  · intro i hi
    have := made_cell ho i 128 hi (by omega)
    rw [if_neg (by omega)] at this
    rw [show (fresh w1.heap.size w.heap.size n).bs = w.heap.size from rfl, this]
    simp [fresh]

set_option maxRecDepth 100000 in
theorem new_ok (n : Nat) (w : World) (h1 : 1 ≤ n) (h2 : n ≤ 1024) : Calls Tryz.prog 9 #[.int .i64 n] w (Fresh n w) := by
  obtain ⟨i0, hi0, hz0, hz1, hz2⟩ := info_parts secInfo
  have hz2' := Lib.hid hz2; clear hz2
  go_enter Tryz.func9, Tryz.ntmps9
  go_wp2_with (at_make; refine wpList_make_full _ rfl (.tmp 10) (.tmp 10) 83 rfl 0 139 i0 zsec 129 Tryz.underlying83 hi0 hz0 hz1 .i64 .i64 n n n rfl rfl rfl rfl ?c1 ?c2 ?c3 ?_; rotate_right; intro w1 ho1 hg1; have ho := Lib.hid ho1; clear ho1; have hg := Lib.hid hg1; clear hg1)
  case c1 => rw [hz2'.out]; omega
  case c2 => unfold maxLen; omega
  case c3 => exact Nat.zero_le _
  go_ret2
  exact fresh_mem h1 h2 ho.out hg.out

/-! full -/
structure Filled (x : UInt8) (k : Nat) (w wr : World) : Prop where
  keeps : Keeps (fun _ => False) w wr
  blk : World.blockAt wr w.heap.size 5 64
  cells : ∀ j, j < k → wr.cell? ⟨w.heap.size, j, none⟩ = some (.int .u8 x.toNat)
theorem filled_at {x : UInt8} {k : Nat} {w wr : World} (h : Filled x k w wr) (j : Nat) (hj : j < 64) : (∃ o, wr.cell? ⟨w.heap.size, j, none⟩ = some o) ∧ wr.frozen? ⟨w.heap.size, j, none⟩ = false := by
  have := h.blk.there 0 64 (by omega) j hj
  rw [Nat.zero_add] at this
  exact ⟨Option.isSome_iff_exists.1 this.1, this.2⟩
theorem filled_next {x : UInt8} {k : Nat} {w wr : World} (h : Filled x k w wr) (hk : k < 64) : Filled x (k + 1) w (wr.setCell ⟨w.heap.size, k, none⟩ (.int .u8 x.toNat)) := by
  obtain ⟨⟨o, ho⟩, _⟩ := filled_at h k hk
  refine ⟨h.keeps.setCell (p := ⟨w.heap.size, k, none⟩) (.inr (Nat.le_refl _)) _, h.blk.setCell _ _, fun j hj => ?_⟩
  by_cases e : j = k
  · subst e; exact World.cell?_setCell_same _ _ _ ho
  · rw [World.cell?_setCell_other _ _ _ _ (by simp <;> omega)]; exact h.cells j (by omega)
/-- a new slice of 64 bytes -/
def New64 (x : UInt8) (w : World) (e : Ending) (w' : World) : Prop :=
  e = .returned (.slice (some ⟨w.heap.size, 0, none⟩) 64 64) ∧ Keeps (fun _ => False) w w' ∧ w'.rangeAt w.heap.size 0 ((rep64 x).map bv) ∧ w.heap.size < w'.heap.size
theorem owns_block {w w1 : World} {g n : Nat} {e : TypeId} {size : Nat} {xs : List Value} (ho : w1.ownsRow 0 e size (.slice (some ⟨g, 0, none⟩) n n) n xs) : World.blockAt w1 g e (n * size) := by
  rcases ho.2 with ⟨hv, _⟩ | ⟨g', cap, cur, hv, _, hgg, _, _, hcs, _⟩
  · cases hv
  · injection hv with e1 e2 e3
    injection e1 with e1; injection e1 with e1
    subst e1; subst e3
    exact ⟨cur, hgg, hcs⟩
theorem filled_start {x : UInt8} {w w1 : World} {xs : List Value} (ho : w1.ownsRow 0 5 1 (.slice (some ⟨w.heap.size, 0, none⟩) 64 64) 64 xs) (hg : w.grownBy w1 none) : Hid (Filled x 0 w w1) :=
  ⟨Keeps.grown (Keeps.refl _ _) hg (fun k e => by cases e), owns_block (w := w) ho, fun j hj => absurd hj (Nat.not_lt_zero j)⟩
theorem filled_end {x : UInt8} {w wr : World} (h : Filled x 64 w wr) : New64 x w (.returned (.slice (some ⟨w.heap.size, 0, none⟩) 64 64)) wr := by
  refine ⟨rfl, h.keeps, fun j u hu => ?_, h.blk.lt⟩
  have hj : j < 64 := by have := (List.getElem?_eq_some_iff.1 hu).1; simpa [rep64_len] using this
  rw [Nat.zero_add, h.cells j hj, ← hu]; exact (rep64_at j x hj).symm

end Go.Proofs.YtdannodhlaaoiaaGreatDoor
/- waits, and what a disk of a law's own is. -/
namespace Go.Proofs.YtdannodhlaaoiaaGreatDoor
open Go.RowKit

theorem Dk.write_on (D : Dk) (i : Nat) (x : List UInt8) (hon : D.on = true) (hl : D.left < 0) (hi : i < D.n) (hx : x.length = 64) : D.write i x = (0, D.put i x) := by
  have e1 : D.fail = (false, D) := by unfold Dk.fail; rw [if_neg (by omega), if_neg (by omega)]
  unfold Dk.write
  rw [if_neg (by simp [hon]), if_neg (by simp [hx]; omega), e1]
  simp

theorem New64.bytes {x : UInt8} {w w' : World} {e : Ending} (h : New64 x w e w') : BytesAt w' (.slice (some ⟨w.heap.size, 0, none⟩) 64 64) (rep64 x) :=
  ⟨some ⟨w.heap.size, 0, none⟩, 64, by rw [rep64_len], (fun e => by cases e), by rw [rep64_len]; exact Nat.le_refl _, fun _ => ⟨w.heap.size, 0, rfl, h.2.2.1⟩⟩

theorem DiskMem.keepF {w w' : World} {D : Dk} {v : Value} (h : DiskMem w D v) (k : Keeps (fun _ => False) w w') : DiskMem w' D v := h.keep k (fun _ _ => id)

/-! steps through a region that draws its order, the operation read off the list -/
section
variable {P : Program} {l : List Oper} {Q : Exit → Act → World → Prop} {md : Region.Mode} {S : World → Prop}
end

/-- a disk that lies wholly in blocks of F -/
def OwnDisk (F : Nat → Prop) (D : Dk) (w : World) : Prop := ∃ v, DiskMem w D v ∧ ∀ k, foot D v k → F k
theorem OwnDisk.keepF {F : Nat → Prop} {D : Dk} {w w' : World} (h : OwnDisk F D w) (k : Keeps (fun _ => False) w w') : OwnDisk F D w' := by
  obtain ⟨v, hm, hf⟩ := h; exact ⟨v, hm.keepF k, hf⟩
theorem OwnDisk.after {F : Nat → Prop} {D D' : Dk} {v : Value} {w w' : World} (h : DiskMem w D v) (hf : ∀ k, foot D v k → F k) (hB : ∀ k, w.heap.size ≤ k → F k) (ha : After D v w D' w') : OwnDisk F D' w' ∧ Keeps F w w' := by
  obtain ⟨v', hm, hk, hft⟩ := ha
  exact ⟨⟨v', hm, fun k e => by rcases hft k e with e | e; exact hf k e; exact hB k e⟩, hk.mono (fun k e => .inl (hf k e))⟩

theorem OwnDisk.turn {F G : Nat → Prop} {D : Dk} {w : World} (h : OwnDisk F D w) (hG : ∀ k, k < w.heap.size → F k → G k) : OwnDisk G D w := by
  obtain ⟨v, hm, hf⟩ := h; exact ⟨v, hm, fun k e => hG k (hm.lt k e) (hf k e)⟩
theorem OwnDisk.keep {F G : Nat → Prop} {D : Dk} {w w' : World} (h : OwnDisk F D w) (k : Keeps G w w') (hG : ∀ i, i < w.heap.size → F i → ¬ G i) : OwnDisk F D w' := by
  obtain ⟨v, hm, hf⟩ := h; exact ⟨v, hm.keep k (fun i e => hG i (hm.lt i e) (hf i e)), hf⟩
theorem OwnDisk.lt {F : Nat → Prop} {D : Dk} {w : World} (h : OwnDisk F D w) : D.b < w.heap.size ∧ D.bs < w.heap.size := by
  obtain ⟨v, hm, hf⟩ := h; exact ⟨hm.lt _ (.inl rfl), hm.lt _ (.inr (.inl rfl))⟩
theorem OwnDisk.drewN {F : Nat → Prop} {D : Dk} {w : World} (h : OwnDisk F D w) (n : Nat) : OwnDisk F D (w.drewN n) := h.keepF ((Keeps.refl _ _).drewN n)
theorem OwnDisk.drew {F : Nat → Prop} {D : Dk} {w : World} (h : OwnDisk F D w) : OwnDisk F D w.drew := h.keepF ((Keeps.refl _ _).drew)

theorem conv64 (g c : Nat) (l : List UInt8) (hl : l.length = 64) : ∀ W : World, W.rangeAt g 0 (l.map bv) → (convert 31 9 (.slice (some ⟨g, 0, none⟩) 64 c)).run Tryz.prog W = .ok (.string ⟨l.toArray⟩) W := fun W h => by
  have := conv_str g 0 c l W h; rwa [hl] at this

/-- a disk, and a slice of bytes, that the steps of a region keep -/
def WS (F : Nat → Prop) (D : Dk) (W0 : World) (g : Nat) (l : List UInt8) (W : World) : Prop := OwnDisk F D W ∧ W.rangeAt g 0 (l.map bv) ∧ Keeps (fun _ => False) W0 W
theorem WS.next {F : Nat → Prop} {D : Dk} {W0 : World} {g : Nat} {l : List UInt8} {W W' : World} (h : WS F D W0 g l W) (k : Keeps (fun _ => False) W W') : WS F D W0 g l W' := ⟨h.1.keepF k, k.rangeAt h.2.1 id, h.2.2.trans k⟩
theorem conv64S {F : Nat → Prop} {D : Dk} {W0 : World} (g c : Nat) (l : List UInt8) (hl : l.length = 64) : ∀ W : World, WS F D W0 g l W → (convert 31 9 (.slice (some ⟨g, 0, none⟩) 64 c)).run Tryz.prog W = .ok (.string ⟨l.toArray⟩) W := fun W h => conv64 g c l hl W h.2.1

/-! the calls on such a disk -/
theorem own_new (n : Nat) (w : World) (h1 : 1 ≤ n) (h2 : n ≤ 1024) : Calls Tryz.prog 9 #[.int .i64 n] w fun e w' => ∃ b bs, e = .returned (.tuple #[.pointer (some ⟨b, 0, none⟩), .int .i64 0]) ∧ OwnDisk (fun k => w.heap.size ≤ k) (fresh b bs n) w' ∧ Keeps (fun _ => False) w w' :=
  (new_ok n w h1 h2).mono fun e w' ⟨b, bs, he, hm, hb, hbs, hk⟩ => ⟨b, bs, he, ⟨_, hm, by rintro k (rfl | rfl | e); exact hb; exact hbs; cases e⟩, hk⟩
theorem own_write (F : Nat → Prop) (D : Dk) (w : World) (i : Int) (sv : Value) (x : List UInt8) (hB : ∀ k, w.heap.size ≤ k → F k) (h : OwnDisk F D w) (hx : BytesAt w sv x) (hsep : ∀ k, sv.ownBlock = some k → k ≠ D.b) :
    Calls Tryz.prog 34 #[.pointer (some ⟨D.b, 0, none⟩), .int .i64 i, sv] w fun e w' => e = .returned (.int .i64 (D.write i x).1) ∧ OwnDisk F (D.write i x).2 w' ∧ Keeps F w w' := by
  obtain ⟨v, hm, hf⟩ := h
  exact (write_any D v w i sv x hm hx hsep).mono fun e w' ⟨he, ha⟩ => ⟨he, OwnDisk.after hm hf hB ha⟩
theorem own_flush (F : Nat → Prop) (D : Dk) (w : World) (hB : ∀ k, w.heap.size ≤ k → F k) (h : OwnDisk F D w) :
    Calls Tryz.prog 80 #[.pointer (some ⟨D.b, 0, none⟩)] w fun e w' => e = .returned (.int .i64 D.flush.1) ∧ OwnDisk F D.flush.2 w' ∧ Keeps F w w' := by
  obtain ⟨v, hm, hf⟩ := h
  exact (flush_any D v w hm).mono fun e w' ⟨he, ha⟩ => ⟨he, OwnDisk.after hm hf hB ha⟩
theorem own_crash (F : Nat → Prop) (D : Dk) (w : World) (kv : Value) (kept : List Bool) (hB : ∀ k, w.heap.size ≤ k → F k) (h : OwnDisk F D w) (hk : BoolsAt w kv kept) (hsep : 0 < kept.length → ∀ k, kv.ownBlock = some k → k ≠ D.bs) :
    Calls Tryz.prog 13 #[.pointer (some ⟨D.b, 0, none⟩), kv] w fun e w' => e = .returned (.tuple #[]) ∧ OwnDisk F (D.crash kept) w' ∧ Keeps F w w' := by
  obtain ⟨v, hm, hf⟩ := h
  exact (crash_any D v w kv kept hm hk hsep).mono fun e w' ⟨he, ha⟩ => ⟨he, OwnDisk.after hm hf hB ha⟩
theorem own_size (F : Nat → Prop) (D : Dk) (w : World) (h : OwnDisk F D w) : Calls Tryz.prog 31 #[.pointer (some ⟨D.b, 0, none⟩)] w fun e w' => e = .returned (.int .i64 D.n) ∧ w = w' := by
  obtain ⟨v, hm, hf⟩ := h
  exact size_any D.b D.n _ w hm.c0
theorem own_read_yes (F : Nat → Prop) (D : Dk) (w : World) (i : Nat) (h : OwnDisk F D w) (hon : D.on = true) (hi : i < D.n) :
    Calls Tryz.prog 74 #[.pointer (some ⟨D.b, 0, none⟩), .int .i64 i] w (ReadOk D w i) := by
  obtain ⟨v, hm, hf⟩ := h
  exact read_yes D v w i hm hon hi
theorem own_read_bad (F : Nat → Prop) (D : Dk) (w : World) (i : Int) (h : OwnDisk F D w) (hr : D.read i ≠ 0) :
    Calls Tryz.prog 74 #[.pointer (some ⟨D.b, 0, none⟩), .int .i64 i] w fun e w' => e = .returned (.tuple #[.slice none 0 0, .int .i64 (D.read i)]) ∧ w = w' := by
  obtain ⟨v, hm, hf⟩ := h
  exact read_bad D v w i hm hr
end Go.Proofs.YtdannodhlaaoiaaGreatDoor
/- The journal's sums: grow, Crc, Takes. -/
namespace Go.Proofs.YtdannodhlaaoiaaGreatDoor
open Go.RowKit

def poly : Nat := 3988292384
def crcBit (n : Nat) : Nat := if n % 2 = 1 then (n / 2) ^^^ poly else n / 2
def crcBits : Nat → Nat → Nat
  | 0, n => n
  | k + 1, n => crcBit (crcBits k n)
def crcByte (n : Nat) (c : UInt8) : Nat := crcBits 8 (n ^^^ c.toNat)
def crcGrow (n : Nat) (l : List UInt8) : Nat := l.foldl crcByte n
def ones : Nat := 4294967295
def crc (l : List UInt8) : Nat := ones ^^^ crcGrow ones l

theorem poly_lt : poly < 2 ^ 32 := by unfold poly; decide
theorem xor_lt32 {a b : Nat} (ha : a < 4294967296) (hb : b < 4294967296) : a ^^^ b < 4294967296 := Nat.xor_lt_two_pow (n := 32) ha hb
theorem crcBit_lt {n : Nat} (h : n < 4294967296) : crcBit n < 4294967296 := by
  unfold crcBit; split
  · exact xor_lt32 (by omega) poly_lt
  · omega
theorem crcBits_lt (k : Nat) {n : Nat} (h : n < 4294967296) : crcBits k n < 4294967296 := by
  induction k with
  | zero => exact h
  | succ k ih => exact crcBit_lt ih
theorem crcByte_lt {n : Nat} (h : n < 4294967296) (c : UInt8) : crcByte n c < 4294967296 := crcBits_lt 8 (xor_lt32 h (by have := c.toNat_lt; omega))
theorem crcGrow_lt (l : List UInt8) : ∀ {n : Nat}, n < 4294967296 → crcGrow n l < 4294967296 := by
  induction l with
  | nil => intro n h; exact h
  | cons c l ih => intro n h; exact ih (crcByte_lt h c)
theorem crcGrow_append (n : Nat) (l m : List UInt8) : crcGrow n (l ++ m) = crcGrow (crcGrow n l) m := List.foldl_append ..

theorem and_one (s : Nat) (h : s < 4294967296) : bits .and .u32 (s : Int) 1 = ((s % 2 : Nat) : Int) := by
  have := u32_and_nat s 1 h (by omega)
  rw [Nat.and_one_is_mod] at this
  exact this
theorem xor_poly (s : Nat) (h : s < 4294967296) : bits .xor .u32 ((s : Int) / 2) 3988292384 = (((s / 2) ^^^ poly : Nat) : Int) := by
  have := u32_xor_nat (s / 2) poly (by omega) poly_lt
  rw [← this]; rfl
theorem xor_byte (s : Nat) (h : s < 4294967296) (c : UInt8) : bits .xor .u32 (s : Int) ((c.toNat : Int) % 4294967296) = ((s ^^^ c.toNat : Nat) : Int) := by
  have hc := c.toNat_lt
  have := u32_xor_nat s c.toNat h (by omega)
  rw [← this]; congr 1; omega

set_option maxHeartbeats 1000000 in
theorem grow_any (g o c : Nat) (n : Nat) (hn : n < 4294967296) (l : List UInt8) (hl : l.length ≤ 9223372036854775807) (w : World) (hr : Hid (w.rangeAt g o (l.map bv))) :
    Calls Tryz.prog 83 #[.int .u32 n, .slice (some ⟨g, o, none⟩) l.length c] w fun e w' => e = .returned (.int .u32 (crcGrow n l)) ∧ w = w' := by
  go_enter Tryz.func83, Tryz.ntmps83
  go_wp2
  go_loop [0, 10] (fun s iv => ∃ k : Nat, k ≤ l.length ∧ s = .int .u32 (crcGrow n (l.take k) : Nat) ∧ iv = .int .i64 k) (fun _ iv => l.length - (intOf iv).toNat)
  case atStart => exact ⟨0, by omega, by simp [crcGrow], rfl⟩
  case round =>
    obtain ⟨k, hk, rfl, rfl⟩ := hrel
    by_cases hlk : k < l.length
    · have hm := crcGrow_lt (l.take k) hn
      have hc : w.cell? ⟨g, o + k, none⟩ = some (.int .u8 (l[k]).toNat) := hr.out k _ (by simp [hlk, bv])
      have hs : crcGrow n (l.take (k + 1)) = crcByte (crcGrow n (l.take k)) l[k] := by
        rw [List.take_succ_eq_append_getElem hlk, crcGrow_append]; rfl
      have hs' := Lib.hid hs; clear hs
      obtain ⟨m, hmm⟩ : ∃ m, m = crcGrow n (l.take k) := ⟨_, rfl⟩
      rw [← hmm] at hm
      rw [← hmm]
      have hmm' := Lib.hid hmm; clear hmm
      obtain ⟨x, hx⟩ : ∃ x, x = l[k] := ⟨_, rfl⟩
      rw [← hx] at hc hs'
      have hx' := Lib.hid hx; clear hx
      have hxb := xor_byte m hm x
      have hm1 : m ^^^ x.toNat < 4294967296 := xor_lt32 hm (by have := x.toNat_lt; omega)
      obtain ⟨m1, hm1e⟩ : ∃ m1, m1 = m ^^^ x.toNat := ⟨_, rfl⟩
      rw [← hm1e] at hxb hm1
      have hm1e' := Lib.hid hm1e; clear hm1e
      go_wp2
      go_loop [0, 18] (fun s iv => ∃ j : Nat, j ≤ 8 ∧ s = .int .u32 (crcBits j m1 : Nat) ∧ iv = .int .i64 j) (fun _ iv => 8 - (intOf iv).toNat)
      case atStart => exact ⟨0, by omega, rfl, rfl⟩
      case round =>
        obtain ⟨j, hj, rfl, rfl⟩ := hrel
        by_cases hj8 : j < 8
        · have hq := crcBits_lt j hm1
          have hnext : crcBits (j + 1) m1 = crcBit (crcBits j m1) := rfl
          have hnext' := Lib.hid hnext; clear hnext
          obtain ⟨q, hqe⟩ : ∃ q, q = crcBits j m1 := ⟨_, rfl⟩
          rw [← hqe] at hq hnext' ⊢
          have hqe' := Lib.hid hqe; clear hqe
          have ha := and_one q hq
          by_cases hodd : q % 2 = 1
          · have h1 : (bits .and .u32 (q : Int) 1 == 1) = true := by rw [ha, hodd]; rfl
            have hxp := xor_poly q hq
            have hodd' := Lib.hid hodd; clear hodd ha
            go_wp2
            go_round
            case rel => exact ⟨j + 1, by omega, by rw [hnext'.out]; unfold crcBit; rw [if_pos hodd'.out], by go_num⟩
            case measure => simp [intOf]; omega
          · have h1 : (bits .and .u32 (q : Int) 1 == 1) = false := by rw [ha, show q % 2 = 0 by omega]; rfl
            have hodd' := Lib.hid hodd; clear hodd ha
            go_wp2
            go_round
            case rel => exact ⟨j + 1, by omega, by rw [hnext'.out]; unfold crcBit; rw [if_neg hodd'.out]; go_num, by go_num⟩
            case measure => simp [intOf]; omega
        · obtain rfl : j = 8 := by omega
          go_wp2
          go_round
          case rel => exact ⟨k + 1, by omega, by rw [hs'.out]; unfold crcByte; rw [← hmm'.out, ← hm1e'.out], by go_num⟩
          case measure => simp [intOf]; omega
    · obtain rfl : k = l.length := by omega
      go_wp2
      go_ret
      exact ⟨by simp, rfl⟩
end Go.Proofs.YtdannodhlaaoiaaGreatDoor
/- Crc, Takes, and the document's own. -/
namespace Go.Proofs.YtdannodhlaaoiaaGreatDoor
open Go.RowKit

theorem grow_nil (n : Nat) (p : Option Addr) (c : Nat) (w : World) : Calls Tryz.prog 83 #[.int .u32 n, .slice p 0 c] w fun e w' => e = .returned (.int .u32 n) ∧ w = w' := by
  go_enter Tryz.func83, Tryz.ntmps83
  go_wp2
  go_loop [0, 10] (fun s iv => s = .int .u32 n ∧ iv = .int .i64 0) (fun _ _ => 0)
  case atStart => exact ⟨rfl, rfl⟩
  case round =>
    obtain ⟨rfl, rfl⟩ := hrel
    go_wp2
    go_ret
    exact ⟨rfl, rfl⟩
theorem growB (n : Nat) (hn : n < 4294967296) (sl : Value) (l : List UInt8) (hl : l.length ≤ 9223372036854775807) (w : World) (h : BytesAt w sl l) :
    Calls Tryz.prog 83 #[.int .u32 n, sl] w fun e w' => e = .returned (.int .u32 (crcGrow n l)) ∧ w = w' := by
  obtain ⟨p, c, rfl, -, -, h⟩ := h
  cases l with
  | nil => exact grow_nil n p c w
  | cons x l =>
    obtain ⟨b, o, rfl, h'⟩ := h (by simp)
    exact grow_any b o c n hn _ hl w h'

theorem crc_any (sl : Value) (l : List UInt8) (hl : l.length ≤ 9223372036854775807) (w : World) (h : Hid (BytesAt w sl l)) :
    Calls Tryz.prog 38 #[sl] w fun e w' => e = .returned (.int .u32 (crc l)) ∧ w = w' := by
  have hx : bits .xor .u32 (4294967295 : Int) (crcGrow ones l : Nat) = ((crc l : Nat) : Int) := u32_xor_nat ones (crcGrow ones l) (by unfold ones; omega) (crcGrow_lt l (by unfold ones; omega))
  have h1 : IntKind.u32.signed = false := rfl
  have h2 : IntKind.u32.max = 4294967295 := rfl
  go_enter Tryz.func38, Tryz.ntmps38
  go_wp2_with (go_at_call 83; refine (growB ones (by unfold ones; omega) _ l hl _ h.out).mono ?_; rintro e w' ⟨rfl, rfl⟩)
  go_ret
  exact ⟨rfl, rfl⟩

def takes (n : Nat) : Nat := (n + 82) / 64
theorem takes_any (n : Nat) (hn : n ≤ 1000000) (w : World) : Calls Tryz.prog 41 #[.int .i64 n] w fun e w' => e = .returned (.int .i64 (takes n)) ∧ w = w' := by
  by_cases h : 0 < n
  · go_enter Tryz.func41, Tryz.ntmps41
    go_wp2
    go_ret
    refine ⟨?_, rfl⟩
    show Ending.returned (.int .i64 ((n : Int) / 64 + ((n : Int) % 64 + 19 + 64 - 1) / 64)) = _
    rw [show (n : Int) / 64 + ((n : Int) % 64 + 19 + 64 - 1) / 64 = ((takes n : Nat) : Int) by unfold takes; omega]
  · obtain rfl : n = 0 := by omega
    go_enter Tryz.func41, Tryz.ntmps41
    go_wp2
    go_ret
    exact ⟨rfl, rfl⟩

def rbit (n b : Nat) : Nat := if n % 2 = b then n / 2 else (n / 2) ^^^ poly
theorem rbit_lt {n : Nat} (b : Nat) (h : n < 4294967296) : rbit n b < 4294967296 := by
  unfold rbit; split
  · omega
  · exact xor_lt32 (by omega) poly_lt
def bitOf (l : List UInt8) (i : Nat) : Nat := (l.getD (i / 8) 0).toNat / 2 ^ (i % 8) % 2
def rst (l : List UInt8) : Nat → Nat
  | 0 => ones
  | i + 1 => rbit (rst l i) (bitOf l i)
theorem rst_lt (l : List UInt8) (i : Nat) : rst l i < 4294967296 := by
  induction i with
  | zero => show ones < _; unfold ones; omega
  | succ i ih => exact rbit_lt _ ih
theorem xor_mod2 (a b : Nat) : (a ^^^ b) % 2 = (a % 2 + b % 2) % 2 := by
  have := Nat.xor_mod_two_eq_one (a := a) (b := b)
  omega
theorem crcBit_xor (m d : Nat) : crcBit (m ^^^ d) = rbit m (d % 2) ^^^ (d / 2) := by
  have h2 : (m ^^^ d) / 2 = m / 2 ^^^ d / 2 := Nat.xor_div_two
  have hm := xor_mod2 m d
  unfold crcBit rbit
  rw [h2]
  by_cases h : m % 2 = d % 2
  · rw [if_neg (by omega), if_pos h]
  · rw [if_pos (by omega), if_neg h, Nat.xor_assoc, Nat.xor_assoc, Nat.xor_comm poly]
theorem rst_bits (l : List UInt8) (q j : Nat) (hj : j ≤ 8) : rst l (8 * q + j) = crcBits j (rst l (8 * q) ^^^ (l.getD q 0).toNat) ^^^ ((l.getD q 0).toNat / 2 ^ j) := by
  induction j with
  | zero => show rst l (8 * q) = _; simp [crcBits, Nat.xor_assoc]
  | succ j ih =>
    have e1 : (8 * q + j) / 8 = q := by omega
    have e2 : (8 * q + j) % 8 = j := by omega
    show rbit (rst l (8 * q + j)) (bitOf l (8 * q + j)) = _
    rw [ih (by omega)]
    unfold bitOf
    rw [e1, e2]
    generalize (l.getD q 0).toNat = c
    have h := crcBit_xor (crcBits j (rst l (8 * q) ^^^ c) ^^^ c / 2 ^ j) (c / 2 ^ j)
    rw [Nat.xor_assoc, Nat.xor_self, Nat.xor_zero] at h
    show _ = crcBit (crcBits j (rst l (8 * q) ^^^ c)) ^^^ _
    rw [h, Nat.div_div_eq_div_mul, ← Nat.pow_succ, Nat.xor_assoc, Nat.xor_self, Nat.xor_zero]
theorem rst_bytes (l : List UInt8) (q : Nat) (hq : q ≤ l.length) : rst l (8 * q) = crcGrow ones (l.take q) := by
  induction q with
  | zero => simp [crcGrow]; rfl
  | succ q ih =>
    have h := rst_bits l q 8 (by omega)
    rw [show 8 * (q + 1) = 8 * q + 8 by omega, h, ih (by omega), List.take_succ_eq_append_getElem (by omega), crcGrow_append]
    have hc : l.getD q 0 = l[q] := by rw [List.getD_eq_getElem?_getD, List.getElem?_eq_getElem (by omega)]; rfl
    rw [hc]
    have := (l[q]).toNat_lt
    rw [show (l[q]).toNat / 2 ^ 8 = 0 by omega, Nat.xor_zero]
    rfl
theorem rst_all (l : List UInt8) : rst l (8 * l.length) ^^^ ones = crc l := by
  rw [rst_bytes l _ (Nat.le_refl _), List.take_length, Nat.xor_comm]; rfl

end Go.Proofs.YtdannodhlaaoiaaGreatDoor
