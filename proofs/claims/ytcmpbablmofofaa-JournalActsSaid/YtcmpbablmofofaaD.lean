/- Sectors in memory, and a disk. -/
import Derived.Test.YtcmpbablmofofaaBY
namespace Go.Proofs.Ytcmpbablmofofaa
open Go.RowKit

def upd {α : Type} (f : Nat → α) (i : Nat) (x : α) : Nat → α := fun k => if k = i then x else f k
theorem upd_same {α : Type} (f : Nat → α) (i : Nat) (x : α) : upd f i x i = x := by simp [upd]
theorem upd_other {α : Type} (f : Nat → α) (i k : Nat) (x : α) (h : k ≠ i) : upd f i x k = f k := by simp [upd, h]
/-- the sectors in their block: what stays, what was written last, which wait -/
structure Secs (w : World) (bs n : Nat) (st la : Nat → List UInt8) (wa : Nat → Bool) : Prop where
  blk : World.blockAt w bs 89 (n * 129)
  lst : ∀ i, i < n → (st i).length = 64
  lla : ∀ i, i < n → (la i).length = 64
  rst : ∀ i, i < n → w.rangeAt bs (i * 129) ((st i).map bv)
  rla : ∀ i, i < n → w.rangeAt bs (i * 129 + 64) ((la i).map bv)
  rwa : ∀ i, i < n → w.cell? ⟨bs, i * 129 + 128, none⟩ = some (.bool (wa i))

section
variable {w : World} {bs n : Nat} {st la : Nat → List UInt8} {wa : Nat → Bool}
theorem Secs.keep (h : Secs w bs n st la wa) {F : Nat → Prop} {w' : World} (k : Keeps F w w') (hF : ¬ F bs) : Secs w' bs n st la wa :=
  ⟨h.blk.keep k hF, h.lst, h.lla, fun i hi => k.rangeAt (h.rst i hi) hF, fun i hi => k.rangeAt (h.rla i hi) hF,
   fun i hi => by rw [k.cell (p := ⟨bs, _, none⟩) h.blk.lt hF]; exact h.rwa i hi⟩
theorem Secs.putLa (h : Secs w bs n st la wa) (i : Nat) (hi : i < n) (x : List UInt8) (hx : x.length = 64) : Secs (w.setCells bs (i * 129 + 64) (x.map bv)) bs n st (upd la i x) wa := by
  refine ⟨World.blockAt.setCells bs _ _ _ h.blk, h.lst, fun k hk => ?_, fun k hk => ?_, fun k hk => ?_, fun k hk => ?_⟩
  · by_cases e : k = i
    · subst e; rw [upd_same]; exact hx
    · rw [upd_other _ _ _ _ e]; exact h.lla k hk
  · exact World.rangeAt_setCells_apart (h.rst k hk) bs _ _ (by have := h.lst k hk; simp [hx, this] <;> omega)
  · by_cases e : k = i
    · subst e; rw [upd_same]; exact World.rangeAt_setCells_same _ _ _ _ (h.blk.there _ _ (by simp [hx]; omega))
    · rw [upd_other _ _ _ _ e]; exact World.rangeAt_setCells_apart (h.rla k hk) bs _ _ (by have := h.lla k hk; simp [hx, this] <;> omega)
  · rw [World.cell?_setCells_out bs _ _ _ _ (fun _ _ => by simp [hx] <;> omega)]; exact h.rwa k hk
theorem Secs.putSt (h : Secs w bs n st la wa) (i : Nat) (hi : i < n) (x : List UInt8) (hx : x.length = 64) : Secs (w.setCells bs (i * 129) (x.map bv)) bs n (upd st i x) la wa := by
  refine ⟨World.blockAt.setCells bs _ _ _ h.blk, fun k hk => ?_, h.lla, fun k hk => ?_, fun k hk => ?_, fun k hk => ?_⟩
  · by_cases e : k = i
    · subst e; rw [upd_same]; exact hx
    · rw [upd_other _ _ _ _ e]; exact h.lst k hk
  · by_cases e : k = i
    · subst e; rw [upd_same]; exact World.rangeAt_setCells_same _ _ _ _ (h.blk.there _ _ (by simp [hx]; omega))
    · rw [upd_other _ _ _ _ e]; exact World.rangeAt_setCells_apart (h.rst k hk) bs _ _ (by have := h.lst k hk; simp [hx, this] <;> omega)
  · exact World.rangeAt_setCells_apart (h.rla k hk) bs _ _ (by have := h.lla k hk; simp [hx, this] <;> omega)
  · rw [World.cell?_setCells_out bs _ _ _ _ (fun _ _ => by simp [hx] <;> omega)]; exact h.rwa k hk
theorem rangeAt_setCell_apart {w : World} {g o : Nat} {cs : List Value} (h : w.rangeAt g o cs) (p : Addr) (v : Value) (hap : g ≠ p.block ∨ p.off < o ∨ o + cs.length ≤ p.off) : (w.setCell p v).rangeAt g o cs := fun j u hu => by
  have hj : j < cs.length := (List.getElem?_eq_some_iff.1 hu).1
  rw [World.cell?_setCell_other _ _ _ _ (by intro e; subst e; simp at hap; omega)]; exact h j u hu
theorem Secs.putWa (h : Secs w bs n st la wa) (i : Nat) (hi : i < n) (x : Bool) : Secs (w.setCell ⟨bs, i * 129 + 128, none⟩ (.bool x)) bs n st la (upd wa i x) := by
  refine ⟨h.blk.setCell _ _, h.lst, h.lla, fun k hk => ?_, fun k hk => ?_, fun k hk => ?_⟩
  · exact rangeAt_setCell_apart (h.rst k hk) _ _ (by have := h.lst k hk; simp [this] <;> omega)
  · exact rangeAt_setCell_apart (h.rla k hk) _ _ (by have := h.lla k hk; simp [this] <;> omega)
  · by_cases e : k = i
    · subst e; rw [upd_same]; exact World.cell?_setCell_same _ _ _ (h.rwa k hk)
    · rw [upd_other _ _ _ _ e, World.cell?_setCell_other _ _ _ _ (by simp <;> omega)]; exact h.rwa k hk
end

/-- what a disk is -/
structure Dk where
  b : Nat
  bs : Nat
  n : Nat
  st : Nat → List UInt8
  la : Nat → List UInt8
  order : List Nat
  on : Bool
  left : Int

def iv (i : Nat) : Value := .int .i64 i

structure DiskMem (w : World) (D : Dk) (v : Value) : Prop where
  n1 : 1 ≤ D.n
  n2 : D.n ≤ 1024
  ne : D.b ≠ D.bs
  hd : w.heap[D.b]? = some (.cells #[.slice (some ⟨D.bs, 0, none⟩) D.n D.n, v, .bool D.on, .int .i64 D.left] 84 (0, 0))
  secs : Secs w D.bs D.n D.st D.la (fun i => decide (i ∈ D.order))
  ow : w.ownsRow 0 3 1 v D.order.length (D.order.map iv)
  vb : v.ownBlock ≠ some D.b
  vs : v.ownBlock ≠ some D.bs
  olt : ∀ i ∈ D.order, i < D.n
  nodup : D.order.Nodup
  l1 : -9223372036854775808 ≤ D.left
  l2 : D.left ≤ 9223372036854775807
  sync : ∀ i, i < D.n → i ∉ D.order → D.la i = D.st i

/-- the blocks of a disk -/
def foot (D : Dk) (v : Value) (k : Nat) : Prop := k = D.b ∨ k = D.bs ∨ v.ownBlock = some k

theorem DiskMem.lt {w : World} {D : Dk} {v : Value} (h : DiskMem w D v) : ∀ k, foot D v k → k < w.heap.size := by
  rintro k (rfl | rfl | hk)
  · exact lt_of_block h.hd
  · exact h.secs.blk.lt
  · exact (h.ow.lt k hk).2

theorem DiskMem.keep {w w' : World} {D : Dk} {v : Value} (h : DiskMem w D v) {F : Nat → Prop} (k : Keeps F w w') (hF : ∀ i, foot D v i → ¬ F i) : DiskMem w' D v :=
  { h with
    hd := by rw [k.block _ (h.lt _ (.inl rfl)) (hF _ (.inl rfl))]; exact h.hd
    secs := h.secs.keep k (hF _ (.inr (.inl rfl)))
    ow := k.ownsRow h.ow (fun i hi => hF i (.inr (.inr hi))) }

theorem DiskMem.olen {w : World} {D : Dk} {v : Value} (h : DiskMem w D v) : D.order.length ≤ 1024 := by
  have := h.nodup.length_le_of_subset (l₂ := List.range D.n) (fun i hi => by simp; exact h.olt i hi)
  simp at this; have := h.n2; omega
theorem DiskMem.c0 {w : World} {D : Dk} {v : Value} (h : DiskMem w D v) : w.cell? ⟨D.b, 0, none⟩ = some (.slice (some ⟨D.bs, 0, none⟩) D.n D.n) := by simp [World.cell?, h.hd]
theorem DiskMem.c1 {w : World} {D : Dk} {v : Value} (h : DiskMem w D v) : w.cell? ⟨D.b, 1, none⟩ = some v := by simp [World.cell?, h.hd]
theorem DiskMem.c2 {w : World} {D : Dk} {v : Value} (h : DiskMem w D v) : w.cell? ⟨D.b, 2, none⟩ = some (.bool D.on) := by simp [World.cell?, h.hd]
theorem DiskMem.c3 {w : World} {D : Dk} {v : Value} (h : DiskMem w D v) : w.cell? ⟨D.b, 3, none⟩ = some (.int .i64 D.left) := by simp [World.cell?, h.hd]
theorem DiskMem.fr {w : World} {D : Dk} {v : Value} (h : DiskMem w D v) (o : Nat) : w.frozen? ⟨D.b, o, none⟩ = false := by simp [World.frozen?, h.hd]


/-! what each call makes of a disk -/
def Dk.fail (D : Dk) : Bool × Dk := if D.left = 0 then (true, { D with on := false }) else if 0 < D.left then (false, { D with left := D.left - 1 }) else (false, D)
def Dk.put (D : Dk) (i : Nat) (x : List UInt8) : Dk := { D with la := upd D.la i x, order := if i ∈ D.order then D.order else D.order ++ [i] }
def Dk.write (D : Dk) (i : Int) (x : List UInt8) : Int × Dk :=
  if D.on = false then (2, D) else if ¬ (0 ≤ i ∧ i < D.n) ∨ x.length ≠ 64 then (1, D) else if D.fail.1 then (2, D.fail.2) else (0, D.fail.2.put i.toNat x)
def Dk.settled (D : Dk) (f : Nat → Bool) (k : Nat) : List UInt8 := if k ∈ D.order ∧ f (D.order.idxOf k) = true then D.la k else D.st k
def Dk.settle (D : Dk) (f : Nat → Bool) : Dk := { D with st := D.settled f, la := D.settled f, order := [] }
def Dk.flush (D : Dk) : Int × Dk := if D.on = false then (2, D) else if D.fail.1 then (2, D.fail.2) else (0, D.fail.2.settle fun _ => true)
def Dk.crash (D : Dk) (kept : List Bool) : Dk := { D.settle (fun k => kept.getD k false) with on := true, left := -1 }
def Dk.read (D : Dk) (i : Int) : Int := if D.on = false then 2 else if ¬ (0 ≤ i ∧ i < D.n) then 1 else 0

/-- behind a call on a disk -/
def After (D : Dk) (v : Value) (w : World) (D' : Dk) (w' : World) : Prop :=
  ∃ v', DiskMem w' D' v' ∧ Keeps (foot D v) w w' ∧ ∀ k, foot D' v' k → foot D v k ∨ w.heap.size ≤ k

theorem After.refl {D : Dk} {v : Value} {w : World} (h : DiskMem w D v) : After D v w D w := ⟨v, h, Keeps.refl _ _, fun _ h => .inl h⟩

/-- power goes, or a step is counted -/
theorem fail_mem {w : World} {D : Dk} {v : Value} (h : DiskMem w D v) (on : Bool) (l : Int) (h1 : -9223372036854775808 ≤ l) (h2 : l ≤ 9223372036854775807) (w' : World)
    (hw : w'.heap[D.b]? = some (.cells #[.slice (some ⟨D.bs, 0, none⟩) D.n D.n, v, .bool on, .int .i64 l] 84 (0, 0))) (hk : Keeps (fun k => k = D.b) w w') :
    After D v w { D with on := on, left := l } w' :=
  ⟨v, { h with
    hd := hw
    secs := h.secs.keep hk (fun e => h.ne e.symm)
    ow := hk.ownsRow h.ow (fun k hk' e => h.vb (by rw [hk', e]))
    l1 := h1
    l2 := h2 }, hk.mono (fun k e => .inl (.inl e)), fun k e => .inl e⟩
end Go.Proofs.Ytcmpbablmofofaa
