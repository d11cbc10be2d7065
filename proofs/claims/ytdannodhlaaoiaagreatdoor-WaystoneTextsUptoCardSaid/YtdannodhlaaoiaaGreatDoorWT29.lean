/- Sectors in memory, and a disk. -/
import Derived.Test.YtdannodhlaaoiaaGreatDoorWT15
import Derived.Test.YtdannodhlaaoiaaGreatDoorWT28
set_option linter.unusedVariables false
set_option linter.unusedSimpArgs false
namespace Go.Proofs.YtdannodhlaaoiaaGreatDoor
open Go.RowKit

def upd {α : Type} (f : Nat → α) (i : Nat) (x : α) : Nat → α := fun k => if k = i then x else f k
theorem upd_same {α : Type} (f : Nat → α) (i : Nat) (x : α) : upd f i x i = x := by simp [upd]
theorem upd_other {α : Type} (f : Nat → α) (i k : Nat) (x : α) (h : k ≠ i) : upd f i x k = f k := by simp [upd, h]
/-- the sectors in their block: what stays, what was written last, which wait -/
structure Secs (w : World) (bs n : Nat) (st la : Nat → List UInt8) (wa : Nat → Bool) : Prop where
  blk : World.blockAt w bs 139 (n * 129)
  lst : ∀ i, i < n → (st i).length = 64
  lla : ∀ i, i < n → (la i).length = 64
  rst : ∀ i, i < n → w.rangeAt bs (i * 129) ((st i).map bv)
  rla : ∀ i, i < n → w.rangeAt bs (i * 129 + 64) ((la i).map bv)
  rwa : ∀ i, i < n → w.cell? ⟨bs, i * 129 + 128, none⟩ = some (.bool (wa i))

section
variable {w : World} {bs n : Nat} {st la : Nat → List UInt8} {wa : Nat → Bool}
theorem Secs.keep (h : Secs w bs n st la wa) {F : Nat → Prop} {w' : World} (k : Keeps F w w') (hF : ¬ F bs) : Secs w' bs n st la wa :=
  ⟨h.blk.keep k hF, h.lst, h.lla, fun i hi => k.rangeAt (h.rst i hi) hF, fun i hi => k.rangeAt (h.rla i hi) hF,
   fun i hi => by rw [k.cell (p := ⟨bs, _, none⟩) h.blk.lt hF]; exact h.rwa i hi⟩
theorem Secs.putLa (h : Secs w bs n st la wa) (i : Nat) (hi : i < n) (x : List UInt8) (hx : x.length = 64) : Secs (w.setCells bs (i * 129 + 64) (x.map bv)) bs n st (upd la i x) wa := by
  refine ⟨World.blockAt.setCells bs _ _ _ h.blk, h.lst, fun k hk => ?_, fun k hk => ?_, fun k hk => ?_, fun k hk => ?_⟩
  · by_cases e : k = i
    · subst e; rw [upd_same]; exact hx
    · rw [upd_other _ _ _ _ e]; exact h.lla k hk
  · exact World.rangeAt_setCells_apart (h.rst k hk) bs _ _ (by have := h.lst k hk; simp [hx, this] <;> omega)
  · by_cases e : k = i
    · subst e; rw [upd_same]; exact World.rangeAt_setCells_same _ _ _ _ (h.blk.there _ _ (by simp [hx]; omega))
    · rw [upd_other _ _ _ _ e]; exact World.rangeAt_setCells_apart (h.rla k hk) bs _ _ (by have := h.lla k hk; simp [hx, this] <;> omega)
  · rw [World.cell?_setCells_out bs _ _ _ _ (fun _ _ => by simp [hx] <;> omega)]; exact h.rwa k hk
theorem Secs.putSt (h : Secs w bs n st la wa) (i : Nat) (hi : i < n) (x : List UInt8) (hx : x.length = 64) : Secs (w.setCells bs (i * 129) (x.map bv)) bs n (upd st i x) la wa := by
  refine ⟨World.blockAt.setCells bs _ _ _ h.blk, fun k hk => ?_, h.lla, fun k hk => ?_, fun k hk => ?_, fun k hk => ?_⟩
  · by_cases e : k = i
    · subst e; rw [upd_same]; exact hx
    · rw [upd_other _ _ _ _ e]; exact h.lst k hk
  · by_cases e : k = i
    · subst e; rw [upd_same]; exact World.rangeAt_setCells_same _ _ _ _ (h.blk.there _ _ (by simp [hx]; omega))
    · rw [upd_other _ _ _ _ e]; exact World.rangeAt_setCells_apart (h.rst k hk) bs _ _ (by have := h.lst k hk; simp [hx, this] <;> omega)
  · exact World.rangeAt_setCells_apart (h.rla k hk) bs _ _ (by have := h.lla k hk; simp [hx, this] <;> omega)
  · rw [World.cell?_setCells_out bs _ _ _ _ (fun _ _ => by simp [hx] <;> omega)]; exact h.rwa k hk
theorem rangeAt_setCell_apart {w : World} {g o : Nat} {cs : List Value} (h : w.rangeAt g o cs) (p : Addr) (v : Value) (hap : g ≠ p.block ∨ p.off < o ∨ o + cs.length ≤ p.off) : (w.setCell p v).rangeAt g o cs := fun j u hu => by
  have hj : j < cs.length := (List.getElem?_eq_some_iff.1 hu).1
  rw [World.cell?_setCell_other _ _ _ _ (by intro e; subst e; simp at hap; omega)]; exact h j u hu
theorem Secs.putWa (h : Secs w bs n st la wa) (i : Nat) (hi : i < n) (x : Bool) : Secs (w.setCell ⟨bs, i * 129 + 128, none⟩ (.bool x)) bs n st la (upd wa i x) := by
  refine ⟨h.blk.setCell _ _, h.lst, h.lla, fun k hk => ?_, fun k hk => ?_, fun k hk => ?_⟩
  · exact rangeAt_setCell_apart (h.rst k hk) _ _ (by have := h.lst k hk; simp [this] <;> omega)
  · exact rangeAt_setCell_apart (h.rla k hk) _ _ (by have := h.lla k hk; simp [this] <;> omega)
  · by_cases e : k = i
    · subst e; rw [upd_same]; exact World.cell?_setCell_same _ _ _ (h.rwa k hk)
    · rw [upd_other _ _ _ _ e, World.cell?_setCell_other _ _ _ _ (by simp <;> omega)]; exact h.rwa k hk
end

/-- what a disk is -/
structure Dk where
  b : Nat
  bs : Nat
  n : Nat
  st : Nat → List UInt8
  la : Nat → List UInt8
  order : List Nat
  on : Bool
  left : Int

def iv (i : Nat) : Value := .int .i64 i

structure DiskMem (w : World) (D : Dk) (v : Value) : Prop where
  n1 : 1 ≤ D.n
  n2 : D.n ≤ 1024
  ne : D.b ≠ D.bs
  hd : w.heap[D.b]? = some (.cells #[.slice (some ⟨D.bs, 0, none⟩) D.n D.n, v, .bool D.on, .int .i64 D.left] 86 (0, 0))
  secs : Secs w D.bs D.n D.st D.la (fun i => decide (i ∈ D.order))
  ow : w.ownsRow 0 3 1 v D.order.length (D.order.map iv)
  vb : v.ownBlock ≠ some D.b
  vs : v.ownBlock ≠ some D.bs
  olt : ∀ i ∈ D.order, i < D.n
  nodup : D.order.Nodup
  l1 : -9223372036854775808 ≤ D.left
  l2 : D.left ≤ 9223372036854775807
  sync : ∀ i, i < D.n → i ∉ D.order → D.la i = D.st i

/-- the blocks of a disk -/
def foot (D : Dk) (v : Value) (k : Nat) : Prop := k = D.b ∨ k = D.bs ∨ v.ownBlock = some k

theorem DiskMem.lt {w : World} {D : Dk} {v : Value} (h : DiskMem w D v) : ∀ k, foot D v k → k < w.heap.size := by
  rintro k (rfl | rfl | hk)
  · exact lt_of_block h.hd
  · exact h.secs.blk.lt
  · exact (h.ow.lt k hk).2

theorem DiskMem.keep {w w' : World} {D : Dk} {v : Value} (h : DiskMem w D v) {F : Nat → Prop} (k : Keeps F w w') (hF : ∀ i, foot D v i → ¬ F i) : DiskMem w' D v :=
  { h with
    hd := by rw [k.block _ (h.lt _ (.inl rfl)) (hF _ (.inl rfl))]; exact h.hd
    secs := h.secs.keep k (hF _ (.inr (.inl rfl)))
    ow := k.ownsRow h.ow (fun i hi => hF i (.inr (.inr hi))) }

theorem DiskMem.olen {w : World} {D : Dk} {v : Value} (h : DiskMem w D v) : D.order.length ≤ 1024 := by
  have := h.nodup.length_le_of_subset (l₂ := List.range D.n) (fun i hi => by simp; exact h.olt i hi)
  simp at this; have := h.n2; omega
theorem DiskMem.c0 {w : World} {D : Dk} {v : Value} (h : DiskMem w D v) : w.cell? ⟨D.b, 0, none⟩ = some (.slice (some ⟨D.bs, 0, none⟩) D.n D.n) := by simp [World.cell?, h.hd]
theorem DiskMem.c1 {w : World} {D : Dk} {v : Value} (h : DiskMem w D v) : w.cell? ⟨D.b, 1, none⟩ = some v := by simp [World.cell?, h.hd]
theorem DiskMem.c2 {w : World} {D : Dk} {v : Value} (h : DiskMem w D v) : w.cell? ⟨D.b, 2, none⟩ = some (.bool D.on) := by simp [World.cell?, h.hd]
theorem DiskMem.c3 {w : World} {D : Dk} {v : Value} (h : DiskMem w D v) : w.cell? ⟨D.b, 3, none⟩ = some (.int .i64 D.left) := by simp [World.cell?, h.hd]
theorem DiskMem.fr {w : World} {D : Dk} {v : Value} (h : DiskMem w D v) (o : Nat) : w.frozen? ⟨D.b, o, none⟩ = false := by simp [World.frozen?, h.hd]


/-! what each call makes of a disk -/
def Dk.fail (D : Dk) : Bool × Dk := if D.left = 0 then (true, { D with on := false }) else if 0 < D.left then (false, { D with left := D.left - 1 }) else (false, D)
def Dk.put (D : Dk) (i : Nat) (x : List UInt8) : Dk := { D with la := upd D.la i x, order := if i ∈ D.order then D.order else D.order ++ [i] }
def Dk.write (D : Dk) (i : Int) (x : List UInt8) : Int × Dk :=
  if D.on = false then (2, D) else if ¬ (0 ≤ i ∧ i < D.n) ∨ x.length ≠ 64 then (1, D) else if D.fail.1 then (2, D.fail.2) else (0, D.fail.2.put i.toNat x)
def Dk.settled (D : Dk) (f : Nat → Bool) (k : Nat) : List UInt8 := if k ∈ D.order ∧ f (D.order.idxOf k) = true then D.la k else D.st k
def Dk.settle (D : Dk) (f : Nat → Bool) : Dk := { D with st := D.settled f, la := D.settled f, order := [] }
def Dk.flush (D : Dk) : Int × Dk := if D.on = false then (2, D) else if D.fail.1 then (2, D.fail.2) else (0, D.fail.2.settle fun _ => true)
def Dk.crash (D : Dk) (kept : List Bool) : Dk := { D.settle (fun k => kept.getD k false) with on := true, left := -1 }
def Dk.read (D : Dk) (i : Int) : Int := if D.on = false then 2 else if ¬ (0 ≤ i ∧ i < D.n) then 1 else 0

/-- behind a call on a disk -/
def After (D : Dk) (v : Value) (w : World) (D' : Dk) (w' : World) : Prop :=
  ∃ v', DiskMem w' D' v' ∧ Keeps (foot D v) w w' ∧ ∀ k, foot D' v' k → foot D v k ∨ w.heap.size ≤ k

theorem After.refl {D : Dk} {v : Value} {w : World} (h : DiskMem w D v) : After D v w D w := ⟨v, h, Keeps.refl _ _, fun _ h => .inl h⟩

/-- power goes, or a step is counted -/
theorem fail_mem {w : World} {D : Dk} {v : Value} (h : DiskMem w D v) (on : Bool) (l : Int) (h1 : -9223372036854775808 ≤ l) (h2 : l ≤ 9223372036854775807) (w' : World)
    (hw : w'.heap[D.b]? = some (.cells #[.slice (some ⟨D.bs, 0, none⟩) D.n D.n, v, .bool on, .int .i64 l] 86 (0, 0))) (hk : Keeps (fun k => k = D.b) w w') :
    After D v w { D with on := on, left := l } w' :=
  ⟨v, { h with
    hd := hw
    secs := h.secs.keep hk (fun e => h.ne e.symm)
    ow := hk.ownsRow h.ow (fun k hk' e => h.vb (by rw [hk', e]))
    l1 := h1
    l2 := h2 }, hk.mono (fun k e => .inl (.inl e)), fun k e => .inl e⟩
end Go.Proofs.YtdannodhlaaoiaaGreatDoor
/- The disk's calls: Read, Write, Flush, Crash, New. -/
namespace Go.Proofs.YtdannodhlaaoiaaGreatDoor
open Go.RowKit

theorem arrInfo : (Tryz.prog.info? 137).map (·.size) = some 64 := by kernel_rfl
theorem intInfo : (Tryz.prog.info? 3).map (fun i => (i.zero, i.size, i.bytes)) = some (some (.int .i64 0), 1, 8) := by kernel_rfl
theorem has_yes (b n : Nat) (p : Option Addr) (i : Int) (w : World) (h1 : 0 ≤ i) (h2 : i < n) (hc : w.cell? ⟨b, 0, none⟩ = some (.slice p n n)) :
    Calls Tryz.prog 78 #[.pointer (some ⟨b, 0, none⟩), .int .i64 i] w fun e w' => e = .returned (.bool true) ∧ w = w' :=
  (has_any b n p i w hc).mono fun e w' ⟨he, hw⟩ => ⟨by rw [he, decide_eq_true ⟨h1, h2⟩], hw⟩
theorem has_no (b n : Nat) (p : Option Addr) (i : Int) (w : World) (h : ¬ (0 ≤ i ∧ i < n)) (hc : w.cell? ⟨b, 0, none⟩ = some (.slice p n n)) :
    Calls Tryz.prog 78 #[.pointer (some ⟨b, 0, none⟩), .int .i64 i] w fun e w' => e = .returned (.bool false) ∧ w = w' :=
  (has_any b n p i w hc).mono fun e w' ⟨he, hw⟩ => ⟨by rw [he, decide_eq_false h], hw⟩

/-- copy, the world behind it under a name -/
theorem wpList_copy_named {P : Program} {w : World} {ops : Array Oper} {rest : List Oper} {o : Oper} {a : Act} {Q : Exit → Act → World → Prop} (hgd : o.guard = none) (d s : Operand) (dT sT : TypeId)
    (ho : o.op = .call { callee := .builtin .copy, args := #[d, s], argTypes := #[dT, sT] }) (elem : TypeId) (hu : P.underlying dT = some (.slice elem)) (hsz : (P.info? elem).map (·.size) = some 1)
    (g off dLen dCap : Nat) (ad : Addr) (sLen sCap : Nat) (hd : a.eval d = .slice (some ⟨g, off, none⟩) dLen dCap) (hs : a.eval s = .slice (some ad) sLen sCap)
    (cs : List Value) (hn : cs.length = Nat.min sLen dLen)
    (hsrc : ∀ j v, cs[j]? = some v → w.cell? (ad.add j) = some v) (hth : w.there g off cs.length) (h1 : ∀ v ∈ cs, v.oneCell' = true)
    (h : ∀ w1, Hid (w1 = w.setCells g off cs) → wpList P ops Q rest (a.put o.dst (goInt cs.length)) w1) : wpList P ops Q (o :: rest) a w :=
  wpList_copy_cells hgd d s dT sT ho elem hu hsz g off dLen dCap ad sLen sCap hd hs cs hn hsrc hth h1 (h _ rfl)

/-- store of a whole array, the world behind it under a name -/
theorem wpList_store_named {P : Program} {ops : Array Oper} {rest : List Oper} {op : Oper} {a : Act} {w : World} {Q : Exit → Act → World → Prop} (hgd : op.guard = none) (ty : TypeId) (x y : Operand) (ho : op.op = .store ty x y)
    (b o : Nat) (cells : Array Value) (hx : a.eval x = .pointer (some ⟨b, o, none⟩)) (hy : a.eval y = .agg cells)
    (ht : w.there b o cells.size) (hi : (P.info? ty).map (·.size) = some cells.size) (h1 : cells.all (·.oneCell') = true)
    (h : ∀ w1, Hid (w1 = w.setCells b o cells.toList) → wpList P ops Q rest (a.put op.dst undef) w1) : wpList P ops Q (op :: rest) a w :=
  wpList_store_mid hgd ty x y ho b o cells hx hy ht hi h1 (h _ rfl)

def Wrote (b bs n i : Nat) (st la : Nat → List UInt8) (order : List Nat) (x : List UInt8) (l : Int) (v : Value) (w : World) (e : Ending) (w' : World) : Prop :=
  e = .returned (.int .i64 0) ∧ ∃ v', DiskMem w' ⟨b, bs, n, st, upd la i x, if i ∈ order then order else order ++ [i], true, l⟩ v' ∧ Keeps (foot ⟨b, bs, n, st, la, order, true, l⟩ v) w w' ∧ (∀ k, v'.ownBlock = some k → v.ownBlock = some k ∨ w.heap.size ≤ k)

theorem old_secs {b bs n i : Nat} {st la : Nat → List UInt8} {order : List Nat} {x : List UInt8} {l : Int} {v : Value} {w w1 : World} (h : DiskMem w ⟨b, bs, n, st, la, order, true, l⟩ v)
    (hi : i < n) (hx : x.length = 64) (hw : Hid (w1 = w.setCells bs (i * 129 + 64) (x.map bv))) : Secs w1 bs n st (upd la i x) (fun i => decide (i ∈ order)) := by
  rw [hw.out]; exact h.secs.putLa i hi x hx
theorem old_wa {b bs n i : Nat} {st la : Nat → List UInt8} {order : List Nat} {x : List UInt8} {l : Int} {v : Value} {w w1 : World} (h : DiskMem w ⟨b, bs, n, st, la, order, true, l⟩ v)
    (hi : i < n) (hm : i ∈ order) (hx : x.length = 64) (hw : Hid (w1 = w.setCells bs (i * 129 + 64) (x.map bv))) : w1.cell? ⟨bs, i * 129 + 128, none⟩ = some (.bool true) := by
  have := (old_secs h hi hx hw).rwa i hi; simpa [hm] using this
theorem old_wrote {b bs n i : Nat} {st la : Nat → List UInt8} {order : List Nat} {x : List UInt8} {l : Int} {v : Value} {w w1 : World} (h : Hid (DiskMem w ⟨b, bs, n, st, la, order, true, l⟩ v))
    (hi : i < n) (hm : i ∈ order) (hx : x.length = 64) (hw : Hid (w1 = w.setCells bs (i * 129 + 64) (x.map bv))) : Wrote b bs n i st la order x l v w (.returned (.int .i64 0)) w1 := by
  have h := h.out
  have hS := old_secs h hi hx hw
  have hk : Keeps (fun k => k = bs) w w1 := by rw [hw.out]; exact Keeps.setCells (F := fun k => k = bs) (.inl rfl) _ _ _ (Keeps.refl _ _)
  refine ⟨rfl, v, ?_, hk.mono (fun k e => .inl (.inr (.inl e))), fun k hk => .inl hk⟩
  rw [if_pos hm]
  exact { h with
    hd := by have := hk.block b (lt_of_block h.hd) h.ne; rw [this]; exact h.hd
    secs := hS
    ow := hk.ownsRow h.ow (fun k hk e => h.vs (by rw [hk, e]))
    sync := fun k hk hn => by show upd la i x k = st k; rw [upd_other _ _ _ _ (fun e => hn (by rw [e]; exact hm))]; exact h.sync k hk hn }

set_option maxRecDepth 100000 in
set_option maxHeartbeats 1000000 in
theorem put_old (b bs n i : Nat) (st la : Nat → List UInt8) (order : List Nat) (x : List UInt8) (l : Int) (v : Value) (ad : Addr) (c : Nat) (w0 w : World) (h00 : w0.cell? ⟨b, 0, none⟩ = some (.slice (some ⟨bs, 0, none⟩) n n)) (h02 : w0.cell? ⟨b, 2, none⟩ = some (.bool true))
    (hf : Hid (Calls Tryz.prog 79 #[.pointer (some ⟨b, 0, none⟩)] w0 fun e w' => e = .returned (.bool false) ∧ w = w')) (h : Hid (DiskMem w ⟨b, bs, n, st, la, order, true, l⟩ v)) (hi : i < n) (_hn : n ≤ 1024) (hm : i ∈ order) (hx : x.length = 64) (hc0 : w.cell? ⟨b, 0, none⟩ = some (.slice (some ⟨bs, 0, none⟩) n n))
    (hsrc : Hid (∀ j u, (x.map bv)[j]? = some u → w.cell? (ad.add j) = some u)) :
    Calls Tryz.prog 34 #[.pointer (some ⟨b, 0, none⟩), .int .i64 i, .slice (some ad) 64 c] w0 (Wrote b bs n i st la order x l v w) := by
  go_enter Tryz.func34, Tryz.ntmps34
  go_wp2_with (first | (go_at_call 78; refine (has_yes b n _ i _ (by omega) (by omega) h00).mono ?_; rintro e w' ⟨rfl, rfl⟩) | (go_at_call 79; refine hf.out.mono ?_; rintro e w' ⟨rfl, rfl⟩) | ((with_reducible refine at_slot 41 ?_); refine wpList_copy_named rfl (.tmp 39) (.tmp 40) 31 31 rfl 5 Tryz.underlying31 u8Info bs (i * 129 + 64) 64 64 ad 64 c ?c1 rfl (x.map bv) ?c2 hsrc.out ?c3 (bv_one x) ?_; rotate_right; intro w1 hw1; have hwa : w1.cell? ⟨bs, i * 129 + 128, none⟩ = some (.bool true) := old_wa h.out hi hm hx hw1))
  case c1 => rfl
  case c2 => simp [hx]
  case c3 => exact h.out.secs.blk.there _ _ (by simp [hx]; omega)
  go_ret
  exact old_wrote h hi hm hx hw1

theorem new_keep {bs i : Nat} {x : List UInt8} {w w1 : World} (hw : Hid (w1 = w.setCells bs (i * 129 + 64) (x.map bv))) : Keeps (fun k => k = bs) w w1 := by
  rw [hw.out]; exact Keeps.setCells (F := fun k => k = bs) (.inl rfl) _ _ _ (Keeps.refl _ _)
theorem new_wa {b bs n i : Nat} {st la : Nat → List UInt8} {order : List Nat} {x : List UInt8} {l : Int} {v : Value} {w w1 : World} (h : DiskMem w ⟨b, bs, n, st, la, order, true, l⟩ v)
    (hi : i < n) (hm : i ∉ order) (hx : x.length = 64) (hw : Hid (w1 = w.setCells bs (i * 129 + 64) (x.map bv))) :
    w1.cell? ⟨bs, i * 129 + 128, none⟩ = some (.bool false) ∧ w1.frozen? ⟨bs, i * 129 + 128, none⟩ = false ∧ w1.cell? ⟨b, 1, none⟩ = some v ∧ w1.frozen? ⟨b, 1, none⟩ = false := by
  have hS := old_secs h hi hx hw
  have hk := new_keep hw
  refine ⟨?_, hS.blk.frozen _, ?_, ?_⟩
  · have := hS.rwa i hi; simpa [hm] using this
  · rw [hk.cell (p := ⟨b, 1, none⟩) (lt_of_block h.hd) h.ne]; exact h.c1
  · rw [hk.frozen (p := ⟨b, 1, none⟩) (lt_of_block h.hd) h.ne]; exact h.fr 1
theorem new_own {b bs n i : Nat} {st la : Nat → List UInt8} {order : List Nat} {x : List UInt8} {l : Int} {v : Value} {w w1 : World} (h : DiskMem w ⟨b, bs, n, st, la, order, true, l⟩ v)
    (hw : Hid (w1 = w.setCells bs (i * 129 + 64) (x.map bv))) (ob : Obj) (u : Value) (o : Nat) :
    ((w1.setCell ⟨bs, o, none⟩ u).alloc ob).ownsRow 0 3 1 v order.length (order.map iv) :=
  (((new_keep hw).setCell (p := ⟨bs, o, none⟩) (.inl rfl) u).alloc ob).ownsRow h.ow (fun k hk e => h.vs (by rw [hk, e]))
theorem new_c1 {b bs n i : Nat} {st la : Nat → List UInt8} {order : List Nat} {x : List UInt8} {l : Int} {v : Value} {w w1 w2 : World} {o : Nat} {u : Value} {ob : Obj} (h : DiskMem w ⟨b, bs, n, st, la, order, true, l⟩ v)
    (hw : Hid (w1 = w.setCells bs (i * 129 + 64) (x.map bv))) (hg : ((w1.setCell ⟨bs, o, none⟩ u).alloc ob).grownBy w2 v.ownBlock) :
    w2.cell? ⟨b, 1, none⟩ = some v ∧ w2.frozen? ⟨b, 1, none⟩ = false := by
  have hk : Keeps (fun k => k = bs ∨ v.ownBlock = some k) w w2 := ((((new_keep hw).setCell (p := ⟨bs, o, none⟩) (.inl rfl) u).alloc ob).mono (fun k e => .inl (.inl e))).grown hg (fun k e => .inl (.inr e))
  have hn : ¬ (b = bs ∨ v.ownBlock = some b) := fun e => e.elim h.ne h.vb
  exact ⟨by rw [hk.cell (p := ⟨b, 1, none⟩) (lt_of_block h.hd) hn]; exact h.c1, by rw [hk.frozen (p := ⟨b, 1, none⟩) (lt_of_block h.hd) hn]; exact h.fr 1⟩
theorem new_wrote {b bs n i : Nat} {st la : Nat → List UInt8} {order : List Nat} {x : List UInt8} {l : Int} {v v' : Value} {w w1 w2 : World} {ob : Obj} (h : Hid (DiskMem w ⟨b, bs, n, st, la, order, true, l⟩ v))
    (hi : i < n) (hm : i ∉ order) (hx : x.length = 64) (hw : Hid (w1 = w.setCells bs (i * 129 + 64) (x.map bv)))
    (hg : ((w1.setCell ⟨bs, i * 129 + 128, none⟩ (.bool true)).alloc ob).grownBy w2 v.ownBlock) (ho : w2.ownsRow 0 3 1 v' (order.length + 1) (order.map iv ++ [.int .i64 i]))
    (hs : Hid (∀ k, v'.ownBlock = some k → v.ownBlock = some k ∨ ((w1.setCell ⟨bs, i * 129 + 128, none⟩ (.bool true)).alloc ob).heap.size ≤ k)) :
    Wrote b bs n i st la order x l v w (.returned (.int .i64 0)) (w2.setCell ⟨b, 1, none⟩ v') := by
  have h := h.out
  have hs := hs.out
  have hS1 := (old_secs h hi hx hw).putWa i hi true
  have hk1 := (((new_keep hw).setCell (p := ⟨bs, i * 129 + 128, none⟩) (.inl rfl) (.bool true)).alloc ob)
  have hk2 : Keeps (fun k => k = bs ∨ v.ownBlock = some k) w w2 := (hk1.mono (fun k e => .inl (.inl e))).grown hg (fun k e => .inl (.inr e))
  have hk3 : Keeps (foot ⟨b, bs, n, st, la, order, true, l⟩ v) w (w2.setCell ⟨b, 1, none⟩ v') :=
    (hk2.mono (fun k e => .inl (.inr e))).setCell (p := ⟨b, 1, none⟩) (.inl (.inl rfl)) v'
  have hsz : w.heap.size ≤ ((w1.setCell ⟨bs, i * 129 + 128, none⟩ (.bool true)).alloc ob).heap.size := hk1.size
  have hsep : ∀ k, v'.ownBlock = some k → v.ownBlock = some k ∨ w.heap.size ≤ k := fun k hk => (hs k hk).imp id (fun e => by omega)
  have hb := h.lt b (.inl rfl)
  have hbs := h.lt bs (.inr (.inl rfl))
  have vb' : v'.ownBlock ≠ some b := fun e => by rcases hsep b e with e | e; exact h.vb e; omega
  have vs' : v'.ownBlock ≠ some bs := fun e => by rcases hsep bs e with e | e; exact h.vs e; omega
  have hS2 : Secs w2 bs n st (upd la i x) (upd (fun i => decide (i ∈ order)) i true) :=
    (hS1.keep ((Keeps.refl (fun k => v.ownBlock = some k) _).alloc ob) h.vs).keep (Keeps.grown (Keeps.refl (fun k => v.ownBlock = some k) _) hg (fun k e => .inl e)) h.vs
  have hk4 : Keeps (fun k => k = b) w2 (w2.setCell ⟨b, 1, none⟩ v') := (Keeps.refl (fun k => k = b) _).setCell (p := ⟨b, 1, none⟩) (.inl rfl) v'
  have hd2 : w2.heap[b]? = some (.cells #[.slice (some ⟨bs, 0, none⟩) n n, v, .bool true, .int .i64 l] 86 (0, 0)) := by
    rw [hk2.block b hb (fun e => e.elim h.ne h.vb)]; exact h.hd
  refine ⟨rfl, v', ?_, hk3, hsep⟩
  rw [if_neg hm]
  refine ⟨h.n1, h.n2, h.ne, by simpa using heap_put hd2 1 v', ?_, ?_, vb', vs', ?_, ?_, h.l1, h.l2, ?_⟩
  · have := hS2.keep hk4 (fun e => h.ne e.symm)
    refine cast (congrArg (Secs _ bs n st (upd la i x)) ?_) this
    funext k; by_cases e : k = i
    · subst e; simp [upd]
    · simp [upd, e]
  · have := hk4.ownsRow ho (fun k hk e => vb' (by rw [hk, e]))
    simpa [iv] using this
  · intro k hk
    rcases List.mem_append.1 hk with hk | hk
    · exact h.olt k hk
    · simp at hk; subst hk; exact hi
  · exact List.nodup_append.2 ⟨h.nodup, by simp, by simp; exact fun a ha e => hm (e ▸ ha)⟩
  · intro k hk hn
    simp only [List.mem_append, List.mem_singleton, not_or] at hn
    show upd la i x k = st k
    rw [upd_other _ _ _ _ hn.2]; exact h.sync k hk hn.1

set_option maxRecDepth 100000 in
set_option maxHeartbeats 1000000 in
theorem put_new (b bs n i : Nat) (st la : Nat → List UInt8) (order : List Nat) (x : List UInt8) (l : Int) (v : Value) (ad : Addr) (c : Nat) (w0 w : World) (h00 : w0.cell? ⟨b, 0, none⟩ = some (.slice (some ⟨bs, 0, none⟩) n n)) (h02 : w0.cell? ⟨b, 2, none⟩ = some (.bool true))
    (hf : Hid (Calls Tryz.prog 79 #[.pointer (some ⟨b, 0, none⟩)] w0 fun e w' => e = .returned (.bool false) ∧ w = w')) (h : Hid (DiskMem w ⟨b, bs, n, st, la, order, true, l⟩ v)) (hi : i < n) (_hn : n ≤ 1024) (hm : Hid (i ∉ order)) (hx : x.length = 64) (hc0 : w.cell? ⟨b, 0, none⟩ = some (.slice (some ⟨bs, 0, none⟩) n n)) (hne : ¬ b = bs) (hne' : ¬ bs = b) (hol : order.length ≤ 1024)
    (hsrc : Hid (∀ j u, (x.map bv)[j]? = some u → w.cell? (ad.add j) = some u)) :
    Calls Tryz.prog 34 #[.pointer (some ⟨b, 0, none⟩), .int .i64 i, .slice (some ad) 64 c] w0 (Wrote b bs n i st la order x l v w) := by
  obtain ⟨i0, hi0, hz0, hz1, hz2⟩ := info_parts intInfo
  go_enter Tryz.func34, Tryz.ntmps34
  go_wp2_with (first | (go_at_call 78; refine (has_yes b n _ i _ (by omega) (by omega) h00).mono ?_; rintro e w' ⟨rfl, rfl⟩) | (go_at_call 79; refine hf.out.mono ?_; rintro e w' ⟨rfl, rfl⟩) | ((with_reducible refine at_slot 41 ?_); refine wpList_copy_named rfl (.tmp 39) (.tmp 40) 31 31 rfl 5 Tryz.underlying31 u8Info bs (i * 129 + 64) 64 64 ad 64 c ?c1 rfl (x.map bv) ?c2 hsrc.out ?c3 (bv_one x) ?_; rotate_right; intro w1 hw1; obtain ⟨hwa, hwf, h1c, h1f⟩ := new_wa h.out hi hm.out hx hw1) | ((with_reducible refine at_slot 57 ?_); refine wpList_append_sep rfl (.tmp 54) (.tmp 56) 84 rfl 3 i0 (.int .i64 0) 1 8 Tryz.underlying84 hi0 hz0 hz1 hz2 rfl (by decide) v order.length (order.map iv) rfl (new_own h.out hw1 _ _ _) ⟨w1.heap.size, 0, none⟩ 1 1 [.int .i64 i] rfl rfl (cells_one (by simp) _ _) ?d1 ?d2 ?d3 ?_; rotate_right; intro p' c' w2 ho2 hg2 hs3; obtain ⟨h2c, h2f⟩ := new_c1 h.out hw1 hg2))
  case c1 => rfl
  case c2 => simp [hx]
  case c3 => exact h.out.secs.blk.there _ _ (by simp [hx]; omega)
  case d1 => simp; rfl
  case d2 => unfold maxLen; omega
  case d3 => omega
  go_ret
  exact new_wrote h hi hm.out hx hw1 hg2 ho2 hs3
end Go.Proofs.YtdannodhlaaoiaaGreatDoor
/- The disk's Write, whole. -/
namespace Go.Proofs.YtdannodhlaaoiaaGreatDoor
open Go.RowKit

theorem fails_mem {w : World} {D : Dk} {v : Value} (h : DiskMem w D v) :
    Calls Tryz.prog 79 #[.pointer (some ⟨D.b, 0, none⟩)] w fun e w' => e = .returned (.bool D.fail.1) ∧ After D v w D.fail.2 w' ∧ Keeps (fun k => k = D.b) w w' := by
  by_cases h0 : D.left = 0
  · refine (fails_now D.b (.bool D.on) w (by rw [h.c3, h0]) h.c2 (h.fr 2)).mono ?_
    rintro e w' ⟨rfl, rfl⟩
    have e1 : D.fail = (true, { D with on := false }) := by simp [Dk.fail, h0]
    rw [e1]
    have hk : Keeps (fun k => k = D.b) w (w.setCell ⟨D.b, 2, none⟩ (.bool false)) := (Keeps.refl (fun k => k = D.b) w).setCell (p := ⟨D.b, 2, none⟩) (.inl rfl) _
    exact ⟨rfl, fail_mem h false D.left h.l1 h.l2 _ (by simpa using heap_put h.hd 2 (.bool false)) hk, hk⟩
  · by_cases h1 : 0 < D.left
    · refine (fails_later D.b D.left w h1 h.l2 h.c3 (h.fr 3)).mono ?_
      rintro e w' ⟨rfl, rfl⟩
      have e1 : D.fail = (false, { D with left := D.left - 1 }) := by simp [Dk.fail, h0, h1]
      rw [e1]
      have hk : Keeps (fun k => k = D.b) w (w.setCell ⟨D.b, 3, none⟩ (.int .i64 (D.left - 1))) := (Keeps.refl (fun k => k = D.b) w).setCell (p := ⟨D.b, 3, none⟩) (.inl rfl) _
      exact ⟨rfl, fail_mem h D.on (D.left - 1) (by omega) (by have := h.l2; omega) _ (by simpa using heap_put h.hd 3 (.int .i64 (D.left - 1))) hk, hk⟩
    · refine (fails_never D.b D.left w (by omega) h.c3).mono ?_
      rintro e w' ⟨rfl, rfl⟩
      have e1 : D.fail = (false, D) := by simp [Dk.fail, h0, h1]
      rw [e1]
      exact ⟨rfl, After.refl h, Keeps.refl _ _⟩

theorem After.trans {D D' D'' : Dk} {v : Value} {w w' w'' : World} (h : After D v w D' w') (h2 : ∀ v', DiskMem w' D' v' → After D' v' w' D'' w'') : After D v w D'' w'' := by
  obtain ⟨v', hm, hk, hf⟩ := h
  obtain ⟨v'', hm', hk', hf'⟩ := h2 v' hm
  exact ⟨v'', hm', hk.trans' hk' hf, fun k e => by
    rcases hf' k e with e | e
    · exact hf k e
    · exact .inr (Nat.le_trans hk.size e)⟩

theorem Wrote.after {b bs n i : Nat} {st la : Nat → List UInt8} {order : List Nat} {x : List UInt8} {l : Int} {v : Value} {w w' : World} {e : Ending} (h : Wrote b bs n i st la order x l v w e w') :
    e = .returned (.int .i64 0) ∧ After ⟨b, bs, n, st, la, order, true, l⟩ v w ((⟨b, bs, n, st, la, order, true, l⟩ : Dk).put i x) w' := by
  obtain ⟨rfl, v', hm, hk, hs⟩ := h
  refine ⟨rfl, v', hm, hk, ?_⟩
  rintro k (e | e | e)
  · exact .inl (.inl e)
  · exact .inl (.inr (.inl e))
  · exact (hs k e).imp (fun e => .inr (.inr e)) id

theorem write_nil (i : Int) (sv : Value) (w : World) : Calls Tryz.prog 34 #[.pointer none, .int .i64 i, sv] w fun e w' => e = .returned (.int .i64 1) ∧ w = w' := by
  go_enter Tryz.func34, Tryz.ntmps34
  go_wp2
  go_ret
  exact ⟨rfl, rfl⟩
theorem write_off (b : Nat) (i : Int) (sv : Value) (w : World) (h2 : w.cell? ⟨b, 2, none⟩ = some (.bool false)) :
    Calls Tryz.prog 34 #[.pointer (some ⟨b, 0, none⟩), .int .i64 i, sv] w fun e w' => e = .returned (.int .i64 2) ∧ w = w' := by
  go_enter Tryz.func34, Tryz.ntmps34
  go_wp2
  go_ret
  exact ⟨rfl, rfl⟩
theorem write_out (b n : Nat) (q : Option Addr) (i : Int) (p : Option Addr) (m c : Nat) (w : World) (hc : w.cell? ⟨b, 0, none⟩ = some (.slice q n n)) (h2 : w.cell? ⟨b, 2, none⟩ = some (.bool true)) (hi : Hid (¬ (0 ≤ i ∧ i < n))) :
    Calls Tryz.prog 34 #[.pointer (some ⟨b, 0, none⟩), .int .i64 i, .slice p m c] w fun e w' => e = .returned (.int .i64 1) ∧ w = w' := by
  go_enter Tryz.func34, Tryz.ntmps34
  go_wp2_with (go_at_call 78; refine (has_no b n _ i _ hi.out hc).mono ?_; rintro e w' ⟨rfl, rfl⟩)
  go_ret
  exact ⟨rfl, rfl⟩
theorem write_odd (b n : Nat) (q : Option Addr) (i : Int) (p : Option Addr) (m c : Nat) (w : World) (hc : w.cell? ⟨b, 0, none⟩ = some (.slice q n n)) (h2 : w.cell? ⟨b, 2, none⟩ = some (.bool true)) (hi : 0 ≤ i) (hi2 : i < n) (hm : ((m : Int) != 64) = true) :
    Calls Tryz.prog 34 #[.pointer (some ⟨b, 0, none⟩), .int .i64 i, .slice p m c] w fun e w' => e = .returned (.int .i64 1) ∧ w = w' := by
  go_enter Tryz.func34, Tryz.ntmps34
  go_wp2_with (go_at_call 78; refine (has_yes b n _ i _ hi hi2 hc).mono ?_; rintro e w' ⟨rfl, rfl⟩)
  go_ret
  exact ⟨rfl, rfl⟩
theorem write_fails (b n : Nat) (q : Option Addr) (i : Int) (p : Option Addr) (c : Nat) (w w1 : World) (hc : w.cell? ⟨b, 0, none⟩ = some (.slice q n n)) (h2 : w.cell? ⟨b, 2, none⟩ = some (.bool true)) (hi : 0 ≤ i) (hi2 : i < n)
    (hf : Hid (Calls Tryz.prog 79 #[.pointer (some ⟨b, 0, none⟩)] w fun e w' => e = .returned (.bool true) ∧ w1 = w')) :
    Calls Tryz.prog 34 #[.pointer (some ⟨b, 0, none⟩), .int .i64 i, .slice p 64 c] w fun e w' => e = .returned (.int .i64 2) ∧ w1 = w' := by
  go_enter Tryz.func34, Tryz.ntmps34
  go_wp2_with (first | (go_at_call 78; refine (has_yes b n _ i _ hi hi2 hc).mono ?_; rintro e w' ⟨rfl, rfl⟩) | (go_at_call 79; refine hf.out.mono ?_; rintro e w' ⟨rfl, rfl⟩))
  go_ret
  exact ⟨rfl, rfl⟩

theorem idx_keep {D : Dk} {w w' : World} {ad : Addr} {x : List UInt8} (hk : Keeps (fun k => k = D.b) w w') (hsrc : ∀ j u, (x.map bv)[j]? = some u → w.cell? (ad.add j) = some u) (hb : ad.block ≠ D.b) :
    ∀ j u, (x.map bv)[j]? = some u → w'.cell? (ad.add j) = some u := by
  intro j u hu
  have h1 := hsrc j u hu
  have hbk : (ad.add j).block = ad.block := by cases ad; unfold Addr.add; split <;> rfl
  rw [hk.cell (World.block_lt_of_cell? w _ h1) (by rw [hbk]; exact hb)]; exact h1

/-- Write, whatever comes -/
theorem write_any (D : Dk) (v : Value) (w : World) (i : Int) (sv : Value) (x : List UInt8) (h : DiskMem w D v) (hx : BytesAt w sv x) (hsep : ∀ k, sv.ownBlock = some k → k ≠ D.b) :
    Calls Tryz.prog 34 #[.pointer (some ⟨D.b, 0, none⟩), .int .i64 i, sv] w fun e w' => e = .returned (.int .i64 (D.write i x).1) ∧ After D v w (D.write i x).2 w' := by
  obtain ⟨p, c, rfl, -, -, hp⟩ := hx
  by_cases hon : D.on = false
  · have e1 : D.write i x = (2, D) := by simp [Dk.write, hon]
    rw [e1]
    refine (write_off D.b i _ w (by rw [h.c2, hon])).mono ?_
    rintro e w' ⟨rfl, rfl⟩
    exact ⟨rfl, After.refl h⟩
  have hon : D.on = true := by simpa using hon
  have h2 : w.cell? ⟨D.b, 2, none⟩ = some (.bool true) := by rw [h.c2, hon]
  by_cases hi : ¬ (0 ≤ i ∧ i < D.n)
  · have e1 : D.write i x = (1, D) := by unfold Dk.write; rw [if_neg (by simp [hon]), if_pos (.inl hi)]
    rw [e1]
    refine (write_out D.b D.n _ i p _ c w h.c0 h2 (Lib.hid hi)).mono ?_
    rintro e w' ⟨rfl, rfl⟩
    exact ⟨rfl, After.refl h⟩
  have hi : 0 ≤ i ∧ i < D.n := by simpa using hi
  by_cases h64 : x.length ≠ 64
  · have e1 : D.write i x = (1, D) := by simp [Dk.write, hon, h64]
    rw [e1]
    refine (write_odd D.b D.n _ i p _ c w h.c0 h2 hi.1 hi.2 (by rw [bne_iff_ne]; omega)).mono ?_
    rintro e w' ⟨rfl, rfl⟩
    exact ⟨rfl, After.refl h⟩
  have h64 : x.length = 64 := by simpa using h64
  obtain ⟨ab, ao, rfl, hsrc'⟩ := hp (by omega)
  have hb : (⟨ab, ao, none⟩ : Addr).block ≠ D.b := hsep ab rfl
  have hsrc : ∀ j u, (x.map bv)[j]? = some u → w.cell? ((⟨ab, ao, none⟩ : Addr).add j) = some u := fun j u hu => by rw [Addr.add_mid]; exact hsrc' j u hu
  obtain ⟨ad, had⟩ : ∃ ad : Addr, ad = ⟨ab, ao, none⟩ := ⟨_, rfl⟩
  rw [← had] at hb hsrc ⊢
  have hw : D.write i x = if D.fail.1 then (2, D.fail.2) else (0, D.fail.2.put i.toNat x) := by
    unfold Dk.write
    rw [if_neg (by simp [hon]), if_neg (by simp [h64]; omega)]
  obtain ⟨k, rfl⟩ := Int.eq_ofNat_of_zero_le hi.1
  have hk : k < D.n := by omega
  rw [h64]
  by_cases h0 : D.left = 0
  · have e1 : D.fail = (true, { D with on := false }) := by simp [Dk.fail, h0]
    rw [hw, e1]
    refine (write_fails D.b D.n _ k (some ad) c w _ h.c0 h2 hi.1 hi.2 (Lib.hid (fails_now D.b (.bool D.on) w (by rw [h.c3, h0]) h.c2 (h.fr 2)))).mono ?_
    rintro e w' ⟨rfl, rfl⟩
    exact ⟨rfl, fail_mem h false D.left h.l1 h.l2 _ (by simpa using heap_put h.hd 2 (.bool false)) ((Keeps.refl (fun k => k = D.b) w).setCell (p := ⟨D.b, 2, none⟩) (.inl rfl) _)⟩
  · have key : ∀ (l : Int) (w1 : World), Calls Tryz.prog 79 #[.pointer (some ⟨D.b, 0, none⟩)] w (fun e w' => e = .returned (.bool false) ∧ w1 = w') → D.fail = (false, { D with left := l }) →
        DiskMem w1 { D with left := l } v → Keeps (fun k => k = D.b) w w1 →
        Calls Tryz.prog 34 #[.pointer (some ⟨D.b, 0, none⟩), .int .i64 k, .slice (some ad) 64 c] w fun e w' => e = .returned (.int .i64 (D.write k x).1) ∧ After D v w (D.write k x).2 w' := by
      intro l w1 hf e1 hm hk1
      have hsrc1 := idx_keep hk1 hsrc hb
      rw [hw, e1]
      have hfin : ∀ e w', Wrote D.b D.bs D.n k D.st D.la D.order x l v w1 e w' → e = .returned (.int .i64 0) ∧ After D v w (({ D with left := l } : Dk).put k x) w' := by
        intro e w' hwr
        obtain ⟨he, v', hd, hkk, hft⟩ := hwr.after
        have hon' : (⟨D.b, D.bs, D.n, D.st, D.la, D.order, true, l⟩ : Dk) = { D with left := l } := by rw [← hon]
        rw [hon'] at hd hkk hft
        have hsz := hk1.size
        refine ⟨he, v', hd, (hk1.mono (G := foot D v) (fun k e => .inl (.inl e))).trans hkk, fun k e => ?_⟩
        rcases hft k e with e | e
        · exact .inl e
        · exact .inr (Nat.le_trans hsz e)
      have hm' : DiskMem w1 ⟨D.b, D.bs, D.n, D.st, D.la, D.order, true, l⟩ v := by rw [← hon]; exact hm
      by_cases hmem : k ∈ D.order
      · refine (put_old D.b D.bs D.n k D.st D.la D.order x l v ad c w w1 h.c0 h2 (Lib.hid hf) (Lib.hid hm') hk h.n2 hmem h64 hm'.c0 (Lib.hid hsrc1)).mono ?_
        intro e w' hwr; exact hfin e w' hwr
      · refine (put_new D.b D.bs D.n k D.st D.la D.order x l v ad c w w1 h.c0 h2 (Lib.hid hf) (Lib.hid hm') hk h.n2 (Lib.hid hmem) h64 hm'.c0 h.ne (fun e => h.ne e.symm) h.olen (Lib.hid hsrc1)).mono ?_
        intro e w' hwr; exact hfin e w' hwr
    by_cases h1 : 0 < D.left
    · have hk' : Keeps (fun k => k = D.b) w (w.setCell ⟨D.b, 3, none⟩ (.int .i64 (D.left - 1))) := (Keeps.refl (fun k => k = D.b) w).setCell (p := ⟨D.b, 3, none⟩) (.inl rfl) _
      refine key (D.left - 1) _ (fails_later D.b D.left w h1 h.l2 h.c3 (h.fr 3)) (by simp [Dk.fail, h0, h1]) ?_ hk'
      exact { h with
        hd := by simpa using heap_put h.hd 3 (.int .i64 (D.left - 1))
        secs := h.secs.keep hk' (fun e => h.ne e.symm)
        ow := hk'.ownsRow h.ow (fun k hk' e => h.vb (by rw [hk', e]))
        l1 := by show _ ≤ D.left - 1; omega
        l2 := by have := h.l2; show D.left - 1 ≤ _; omega }
    · exact key D.left w (fails_never D.b D.left w (by omega) h.c3) (by simp [Dk.fail, h0, h1]) h (Keeps.refl _ _)
end Go.Proofs.YtdannodhlaaoiaaGreatDoor
