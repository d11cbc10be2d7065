/- DiskKept: the walk. -/
import Derived.Test.YtoigepaanhjnfaaL
import Derived.Maps.OwnSet
namespace Go.Proofs.Ytoigepaanhjnfaa
open Go.RowKit
open Go.Maps

theorem full_int (n : Int) (h0 : 0 ≤ n) (h1 : n < 256) (w : World) : Calls Try.prog 22 #[.int .u8 n] w (New64 (UInt8.ofNat n.toNat) w) := by
  have := full_any (UInt8.ofNat n.toNat) w
  have e : ((UInt8.ofNat n.toNat).toNat : Int) = n := by simp; omega
  rwa [e] at this

/-- which sector -/
def kd (zs : List Int) (j : Nat) : Nat := (zs.getD j 0 % 32).toNat
theorem kd_lt (zs : List Int) (j : Nat) : kd zs j < 32 := by unfold kd; omega
theorem kd_wrap (x : Int) (h0 : -9223372036854775808 ≤ x) (h1 : x ≤ 9223372036854775807) : wrap64 ((IntKind.u64.wrap x).tmod 32) = ((x % 32).toNat : Int) := by
  have e : IntKind.u64.wrap x = x % 18446744073709551616 := by simp [IntKind.wrap, IntKind.signed, IntKind.bits]
  rw [e]
  have h2 : (x % 18446744073709551616).tmod 32 = (x % 18446744073709551616) % 32 := Int.tmod_eq_emod_of_nonneg (by omega)
  rw [h2]
  unfold wrap64
  omega

/-- the disk behind i writes -/
def Dn (b bs : Nat) (zs : List Int) : Nat → Dk
  | 0 => fresh b bs 32
  | i + 1 => (Dn b bs zs i).put (kd zs i) (rep64 (UInt8.ofNat (i + 1)))
/-- what was written last -/
def lastN (zs : List Int) : Nat → Nat → UInt8
  | 0 => fun _ => 0
  | i + 1 => upd (lastN zs i) (kd zs i) (UInt8.ofNat (i + 1))
theorem Dn_facts (b bs : Nat) (zs : List Int) : ∀ i, (Dn b bs zs i).b = b ∧ (Dn b bs zs i).bs = bs ∧ (Dn b bs zs i).n = 32 ∧ (Dn b bs zs i).on = true ∧ (Dn b bs zs i).left = -1 ∧ (∀ k, (Dn b bs zs i).st k = rep64 0) ∧
    (∀ k ∈ (Dn b bs zs i).order, (Dn b bs zs i).la k = rep64 (lastN zs i k)) ∧ (∀ k ∈ (Dn b bs zs i).order, k < 32)
  | 0 => ⟨rfl, rfl, rfl, rfl, rfl, fun _ => rfl, by simp [Dn, fresh], by simp [Dn, fresh]⟩
  | i + 1 => by
    obtain ⟨h1, h2, h3, h4, h5, h6, h7, h8⟩ := Dn_facts b bs zs i
    refine ⟨h1, h2, h3, h4, h5, h6, fun k hk => ?_, fun k hk => ?_⟩
    · by_cases e : k = kd zs i
      · subst e; show upd _ _ _ _ = rep64 (upd _ _ _ _); rw [upd_same, upd_same]
      · show upd _ _ _ _ = rep64 (upd _ _ _ _); rw [upd_other _ _ _ _ e, upd_other _ _ _ _ e]
        refine h7 k ?_
        have hk' : k ∈ (if kd zs i ∈ (Dn b bs zs i).order then (Dn b bs zs i).order else (Dn b bs zs i).order ++ [kd zs i]) := hk
        split at hk'
        · exact hk'
        · rcases List.mem_append.1 hk' with h | h
          · exact h
          · simp at h; exact absurd h e
    · have hk' : k ∈ (if kd zs i ∈ (Dn b bs zs i).order then (Dn b bs zs i).order else (Dn b bs zs i).order ++ [kd zs i]) := hk
      split at hk'
      · exact h8 k hk'
      · rcases List.mem_append.1 hk' with h | h
        · exact h8 k h
        · simp at h; subst h; exact kd_lt zs i
theorem Dn_write (b bs : Nat) (zs : List Int) (i : Nat) : (Dn b bs zs i).write (kd zs i) (rep64 (UInt8.ofNat (i + 1))) = (0, Dn b bs zs (i + 1)) := by
  obtain ⟨h1, h2, h3, h4, h5, h6, h7, h8⟩ := Dn_facts b bs zs i
  exact Dk.write_on _ _ _ h4 (by omega) (by rw [h3]; exact kd_lt zs i) (rep64_len _)

/-- the map of what was written last -/
structure MapIs (w : World) (mb N : Nat) (D : DataW Unit) (order : List Nat) (last : Nat → UInt8) : Prop where
  own : w.ownsMap Try.prog 3 (plainElem Try.prog 5) mb N D
  isMap : IsMap D
  has : ∀ k : Nat, k < 32 → Maps.has D (.int .i64 k) = decide (k ∈ order)
  val : ∀ k : Nat, k < 32 → k ∈ order → D.atKey (.int .i64 k) (.lit (.int .u8 0)) = .lit (.int .u8 (last k).toNat)
theorem MapIs.keep {w w' : World} {mb N : Nat} {D : DataW Unit} {order : List Nat} {last : Nat → UInt8} (h : MapIs w mb N D order last) {F : Nat → Prop} (k : Keeps F w w') (hF : ¬ F mb) : MapIs w' mb N D order last := by
  obtain ⟨es, clock, hb, r⟩ := h.own
  exact ⟨⟨es, clock, by rw [k.block mb (lt_of_block hb) hF]; exact hb, r⟩, h.isMap, h.has, h.val⟩

def K1F (B mb : Nat) (vo : Value) (k : Nat) : Prop := B ≤ k ∧ k ≠ mb ∧ vo.ownBlock ≠ some k

structure K1 (zs : List Int) (w : World) (b bs mb i : Nat) (vo : Value) (wr : World) : Prop where
  disk : OwnDisk (K1F w.heap.size mb vo) (Dn b bs zs i) wr
  map : ∃ D, MapIs wr mb i D (Dn b bs zs i).order (lastN zs i)
  ord : wr.ownsRow 0 3 1 vo (Dn b bs zs i).order.length ((Dn b bs zs i).order.map iv)
  mb1 : w.heap.size ≤ mb
  vo1 : ∀ k, vo.ownBlock = some k → w.heap.size ≤ k
  vom : vo.ownBlock ≠ some mb
  keeps : Keeps (fun _ => False) w wr

section
variable {zs : List Int} {w : World} {b bs mb i : Nat} {vo : Value} {wr : World}
theorem K1.dlt (h : K1 zs w b bs mb i vo wr) : b < wr.heap.size := by have := h.disk.lt.1; rwa [(Dn_facts b bs zs i).1] at this
theorem K1.mlt (h : K1 zs w b bs mb i vo wr) : mb < wr.heap.size := by obtain ⟨D, hm⟩ := h.map; exact hm.own.lt
theorem K1.hF (h : K1 zs w b bs mb i vo wr) {w' : World} (hs : wr.heap.size ≤ w'.heap.size) : ∀ k, w'.heap.size ≤ k → K1F w.heap.size mb vo k := fun k hk => by
  have h1 := h.mlt
  have h2 := h.keeps.size
  refine ⟨by omega, by omega, fun e => ?_⟩
  have := (h.ord.lt k e).2; omega

/-- behind the write -/
structure K2 (zs : List Int) (w : World) (b bs mb i : Nat) (vo : Value) (wr : World) : Prop where
  disk : OwnDisk (K1F w.heap.size mb vo) (Dn b bs zs (i + 1)) wr
  map : ∃ D, MapIs wr mb i D (Dn b bs zs i).order (lastN zs i)
  ord : wr.ownsRow 0 3 1 vo (Dn b bs zs i).order.length ((Dn b bs zs i).order.map iv)
  mb1 : w.heap.size ≤ mb
  vo1 : ∀ k, vo.ownBlock = some k → w.heap.size ≤ k
  vom : vo.ownBlock ≠ some mb
  keeps : Keeps (fun _ => False) w wr
theorem K1.wrote (h : K1 zs w b bs mb i vo wr) {w1 w2 : World} (k1 : Keeps (fun _ => False) wr w1) (k2 : Keeps (K1F w.heap.size mb vo) w1 w2) (hd : OwnDisk (K1F w.heap.size mb vo) (Dn b bs zs (i + 1)) w2) : K2 zs w b bs mb i vo w2 := by
  obtain ⟨D, hm⟩ := h.map
  refine ⟨hd, ⟨D, (hm.keep k1 id).keep k2 (fun e => e.2.1 rfl)⟩, k2.ownsRow (k1.ownsRow h.ord (fun _ _ => id)) (fun k hk e => e.2.2 hk), h.mb1, h.vo1, h.vom, ?_⟩
  exact (h.keeps.trans k1).trans' k2 (fun k e => .inr e.1)
theorem K2.mlt (h : K2 zs w b bs mb i vo wr) : mb < wr.heap.size := by obtain ⟨D, hm⟩ := h.map; exact hm.own.lt

theorem map_put {D : DataW Unit} {order : List Nat} {last : Nat → UInt8} (hi : IsMap D) (hh : ∀ k : Nat, k < 32 → Maps.has D (.int .i64 k) = decide (k ∈ order))
    (hv : ∀ k : Nat, k < 32 → k ∈ order → D.atKey (.int .i64 k) (.lit (.int .u8 0)) = .lit (.int .u8 (last k).toNat)) (k : Nat) (hk : k < 32) (x : UInt8) (order' : List Nat) (ho : ∀ j, j ∈ order' ↔ j ∈ order ∨ j = k) :
    IsMap (D.put (.int .i64 k) (.lit (.int .u8 x.toNat))) ∧ (∀ j : Nat, j < 32 → Maps.has (D.put (.int .i64 k) (.lit (.int .u8 x.toNat))) (.int .i64 j) = decide (j ∈ order')) ∧
    (∀ j : Nat, j < 32 → j ∈ order' → (D.put (.int .i64 k) (.lit (.int .u8 x.toNat))).atKey (.int .i64 j) (.lit (.int .u8 0)) = .lit (.int .u8 (upd last k x j).toNat)) := by
  have hkey : ∀ j : Nat, j < 32 → WideAt.IsKeyLit (.int .i64 j) := fun j hj =>
    (int_keyed (P := Try.prog) (k := 3) Try.underlying3).key (keyOf_int_mk Try.underlying3 (by simp [Lit.wf, IntKind.min, IntKind.max, IntKind.signed, IntKind.bits]; omega))
  refine ⟨hi.put _ _, fun j hj => ?_, fun j hj hm => ?_⟩
  · by_cases e : j = k
    · subst e; rw [has_put_same hi (hkey j hj)]; simp [ho]
    · rw [has_put_other (by intro h; injection h with _ h; exact e (by omega)), hh j hj]; simp [ho, e]
  · by_cases e : j = k
    · subst e; rw [atKey_put_same hi (hkey j hj), upd_same]
    · rw [atKey_put_other (by intro h; injection h with _ h; exact e (by omega)), upd_other _ _ _ _ e]
      exact hv j hj (((ho j).1 hm).resolve_right e)

theorem Dn_order (b bs : Nat) (zs : List Int) (i j : Nat) : j ∈ (Dn b bs zs (i + 1)).order ↔ j ∈ (Dn b bs zs i).order ∨ j = kd zs i := by
  show j ∈ (if kd zs i ∈ (Dn b bs zs i).order then (Dn b bs zs i).order else (Dn b bs zs i).order ++ [kd zs i]) ↔ _
  by_cases h : kd zs i ∈ (Dn b bs zs i).order
  · rw [if_pos h]; exact ⟨.inl, fun e => e.elim id (fun e => e ▸ h)⟩
  · rw [if_neg h]; simp

/-- the sector was written ahead: the map alone is written -/
theorem K2.old (h : K2 zs w b bs mb i vo wr) (hk : kd zs i ∈ (Dn b bs zs i).order) {w1 : World} (D : DataW Unit) (hm : MapIs wr mb i D (Dn b bs zs i).order (lastN zs i))
    (hown : w1.ownsMap Try.prog 3 (plainElem Try.prog 5) mb (i + 1) (D.put (.int .i64 (kd zs i)) (.lit (.int .u8 (UInt8.ofNat (i + 1)).toNat)))) (hg : wr.grownBy w1 (some mb)) :
    K1 zs w b bs mb (i + 1) vo w1 := by
  have k1 : Keeps (fun k => k = mb) wr w1 := Keeps.grown (Keeps.refl _ _) hg (fun k e => .inl (by injection e with e; exact e.symm))
  obtain ⟨m1, m2, m3⟩ := map_put hm.isMap hm.has hm.val (kd zs i) (kd_lt zs i) (UInt8.ofNat (i + 1)) _ (Dn_order b bs zs i)
  have eo : (Dn b bs zs (i + 1)).order = (Dn b bs zs i).order := if_pos hk
  refine ⟨h.disk.keep k1 (fun j _ e => e.2.1), ⟨_, hown, m1, m2, m3⟩, ?_, h.mb1, h.vo1, h.vom, h.keeps.trans' k1 (fun k e => .inr (by subst e; exact h.mb1))⟩
  rw [eo]; exact k1.ownsRow h.ord (fun k hk' e => h.vom (by rw [hk', e]))

/-- a new one: the order grows, then the map -/
theorem K2.new (h : K2 zs w b bs mb i vo wr) (hk : kd zs i ∉ (Dn b bs zs i).order) {ob : Obj} {w1 w2 : World} {p : Option Addr} {c : Nat} (D : DataW Unit) (hm : MapIs wr mb i D (Dn b bs zs i).order (lastN zs i))
    (ho : w1.ownsRow 0 3 1 (.slice p ((Dn b bs zs i).order.length + 1) c) ((Dn b bs zs i).order.length + 1) ((Dn b bs zs i).order.map iv ++ [.int .i64 (kd zs i)])) (hg1 : (wr.alloc ob).grownBy w1 vo.ownBlock)
    (hs : ∀ k, (Value.slice p ((Dn b bs zs i).order.length + 1) c).ownBlock = some k → vo.ownBlock = some k ∨ (wr.alloc ob).heap.size ≤ k)
    (hown : w2.ownsMap Try.prog 3 (plainElem Try.prog 5) mb (i + 1) (D.put (.int .i64 (kd zs i)) (.lit (.int .u8 (UInt8.ofNat (i + 1)).toNat)))) (hg : w1.grownBy w2 (some mb)) :
    K1 zs w b bs mb (i + 1) (.slice p ((Dn b bs zs i).order.length + 1) c) w2 := by
  have k0 : Keeps (fun k => vo.ownBlock = some k) wr w1 := Keeps.grown ((Keeps.refl (fun k => vo.ownBlock = some k) wr).alloc ob) hg1 (fun k e => .inl e)
  have k1 : Keeps (fun k => k = mb) w1 w2 := Keeps.grown (Keeps.refl _ _) hg (fun k e => .inl (by injection e with e; exact e.symm))
  have hs' : ∀ k, (Value.slice p ((Dn b bs zs i).order.length + 1) c).ownBlock = some k → vo.ownBlock = some k ∨ wr.heap.size ≤ k := fun k e => (hs k e).imp id (fun e => by simp at e; omega)
  have hml := h.mlt
  have hsz := h.keeps.size
  obtain ⟨m1, m2, m3⟩ := map_put hm.isMap hm.has hm.val (kd zs i) (kd_lt zs i) (UInt8.ofNat (i + 1)) _ (Dn_order b bs zs i)
  have eo : (Dn b bs zs (i + 1)).order = (Dn b bs zs i).order ++ [kd zs i] := if_neg hk
  have hvm : (Value.slice p ((Dn b bs zs i).order.length + 1) c).ownBlock ≠ some mb := fun e => by
    rcases hs' mb e with e | e
    · exact h.vom e
    · omega
  refine ⟨?_, ⟨_, hown, m1, m2, m3⟩, ?_, h.mb1, fun k e => ?_, hvm, (h.keeps.trans' k0 (fun k e => .inr (h.vo1 k e))).trans' k1 (fun k e => .inr (by subst e; exact h.mb1))⟩
  · have d1 : OwnDisk (fun k => K1F w.heap.size mb vo k ∧ (Value.slice p ((Dn b bs zs i).order.length + 1) c).ownBlock ≠ some k) (Dn b bs zs (i + 1)) wr := h.disk.turn (fun k hk e => ⟨e, fun e2 => by
      rcases hs' k e2 with e3 | e3
      · exact e.2.2 e3
      · omega⟩)
    have d2 := d1.keep k0 (fun k _ e e2 => e.1.2.2 e2)
    have d3 := d2.keep k1 (fun k _ e e2 => e.1.2.1 e2)
    exact d3.turn (fun k _ e => ⟨e.1.1, e.1.2.1, e.2⟩)
  · rw [eo]
    have := k1.ownsRow ho (fun k hk' e => hvm (by rw [hk', e]))
    simpa [iv] using this
  · rcases hs' k e with e | e
    · exact h.vo1 k e
    · omega
end

/-- a slice of ints reads as these -/
def IntsAt (w : World) (v : Value) (zs : List Int) : Prop :=
  ∃ p c, v = .slice p zs.length c ∧ zs.length ≤ 9223372036854775807 ∧ (∀ x ∈ zs, -9223372036854775808 ≤ x ∧ x ≤ 9223372036854775807) ∧ (0 < zs.length → ∃ b o, p = some ⟨b, o, none⟩ ∧ b < w.heap.size ∧ w.rangeAt b o (zs.map (.int .i64)))
theorem ints_at {w wr : World} {zs : List Int} {b o : Nat} (hr : w.rangeAt b o (zs.map (.int .i64))) (hz : ∀ x ∈ zs, -9223372036854775808 ≤ x ∧ x ≤ 9223372036854775807) (hk : Keeps (fun _ => False) w wr) (i : Nat) (hi : i < zs.length) :
    ∃ x, zs.getD i 0 = x ∧ wr.cell? ⟨b, o + i, none⟩ = some (.int .i64 x) ∧ -9223372036854775808 ≤ x ∧ x ≤ 9223372036854775807 := by
  refine ⟨zs[i], by simp [hi], (hk.rangeAt hr id) i _ (by simp [hi]), ?_⟩
  exact hz _ (List.getElem_mem hi)

theorem K1.start {zs : List Int} {w : World} {b bs : Nat} {w1 : World} (hd : OwnDisk (fun k => w.heap.size ≤ k) (fresh b bs 32) w1) (hk : Keeps (fun _ => False) w w1) :
    K1 zs w b bs w1.heap.size 0 (.slice none 0 0) (w1.alloc (.map #[] 0)) := by
  have k1 : Keeps (fun _ => False) w1 (w1.alloc (.map #[] 0)) := (Keeps.refl _ _).alloc _
  have hs := hk.size
  refine ⟨(hd.turn (fun k hk' e => ⟨e, by omega, by simp [Value.ownBlock]⟩)).keepF k1, ⟨.map [], World.ownsMap_made _ _ _ _, isMap_empty, fun k _ => by simp [Dn, fresh]; rfl, fun k _ h => by simp [Dn, fresh] at h⟩, World.ownsRow_nil _ _ _ _, hs, by simp [Value.ownBlock], by simp [Value.ownBlock], hk.trans k1⟩

theorem zeroU8 (w : World) : (zeroValue 5).run Try.prog w = .ok (.int .u8 0) w := by kernel_rfl
theorem keyK (k : Nat) (h : k < 32) : keyOf Try.prog 3 (.int .i64 k) = some (.int .i64 k) := keyOf_int_mk Try.underlying3 (by simp [Lit.wf, IntKind.min, IntKind.max, IntKind.signed, IntKind.bits]; omega)

theorem Dn_len (b bs : Nat) (zs : List Int) : ∀ i, (Dn b bs zs i).order.length ≤ i
  | 0 => Nat.le_refl _
  | i + 1 => by
    have := Dn_len b bs zs i
    show (if kd zs i ∈ (Dn b bs zs i).order then (Dn b bs zs i).order else (Dn b bs zs i).order ++ [kd zs i]).length ≤ i + 1
    split
    · omega
    · simp; omega

theorem ofNat_toNat (i : Nat) (h : i < 256) : ((UInt8.ofNat i).toNat : Int) = i := by simp; omega
theorem val_at (i : Nat) (h : i < 60) : plainElem (H := Unit) Try.prog 5 (.int .u8 (i + 1)) = some (.lit (.int .u8 (UInt8.ofNat (i + 1)).toNat), []) := by
  rw [ofNat_toNat (i + 1) (by omega)]
  exact plainElem_int Try.underlying5 (by simp [Lit.wf, IntKind.min, IntKind.max, IntKind.signed, IntKind.bits]; omega)

theorem own_write0 (F : Nat → Prop) (D D' : Dk) (b0 : Nat) (w : World) (i : Nat) (sv : Value) (x : List UInt8) (hb : D.b = b0) (hB : ∀ k, w.heap.size ≤ k → F k) (h : OwnDisk F D w) (hx : BytesAt w sv x) (hsep : ∀ k, sv.ownBlock = some k → k ≠ b0) (hD : D.write i x = (0, D')) :
    Calls Try.prog 14 #[.pointer (some ⟨b0, 0, none⟩), .int .i64 i, sv] w fun e w' => e = .returned (.int .i64 0) ∧ OwnDisk F D' w' ∧ Keeps F w w' := by
  subst hb
  have := own_write F D w i sv x hB h hx hsep
  rw [hD] at this; exact this

theorem own_waits0 (F : Nat → Prop) (D : Dk) (b0 : Nat) (w : World) (hb : D.b = b0) (h : OwnDisk F D w) : Calls Try.prog 18 #[.pointer (some ⟨b0, 0, none⟩)] w fun e w' => e = .returned (.int .i64 D.order.length) ∧ w = w' := by
  subst hb; exact own_waits F D w h
theorem own_crash0 (F : Nat → Prop) (D : Dk) (b0 : Nat) (w : World) (kv : Value) (kept : List Bool) (hb : D.b = b0) (hB : ∀ k, w.heap.size ≤ k → F k) (h : OwnDisk F D w) (hk : BoolsAt w kv kept) (hsep : 0 < kept.length → ∀ k, kv.ownBlock = some k → k ≠ D.bs) :
    Calls Try.prog 11 #[.pointer (some ⟨b0, 0, none⟩), kv] w fun e w' => e = .returned (.tuple #[]) ∧ OwnDisk F (D.crash kept) w' ∧ Keeps F w w' := by
  subst hb; exact own_crash F D w kv kept hB h hk hsep
theorem own_read0 (F : Nat → Prop) (D : Dk) (b0 : Nat) (w : World) (i : Nat) (hb : D.b = b0) (h : OwnDisk F D w) (hon : D.on = true) (hi : i < D.n) :
    Calls Try.prog 12 #[.pointer (some ⟨b0, 0, none⟩), .int .i64 i] w (ReadOk D w i) := by
  subst hb; exact own_read_yes F D w i h hon hi
theorem bools_keep {w w' : World} {kv : Value} {kept : List Bool} (h : BoolsAt w kv kept) (k : Keeps (fun _ => False) w w') : BoolsAt w' kv kept := by
  obtain ⟨p, c, rfl, hm, hp⟩ := h
  exact ⟨p, c, rfl, hm, fun h0 => by obtain ⟨b, o, e, hr⟩ := hp h0; exact ⟨b, o, e, k.rangeAt hr id⟩⟩
theorem OwnDisk.all {F : Nat → Prop} {D : Dk} {w : World} (h : OwnDisk F D w) : F D.b ∧ F D.bs := by obtain ⟨v, hm, hf⟩ := h; exact ⟨hf _ (.inl rfl), hf _ (.inr (.inl rfl))⟩
theorem OwnDisk.ge {B mb : Nat} {vo : Value} {D : Dk} {w : World} (h : OwnDisk (K1F B mb vo) D w) : B ≤ D.bs := h.all.2.1

structure K3 (zs : List Int) (w : World) (b bs mb i : Nat) (kept : List Bool) (vo : Value) (wr : World) : Prop where
  disk : OwnDisk (K1F w.heap.size mb vo) ((Dn b bs zs i).crash kept) wr
  map : ∃ D, MapIs wr mb i D (Dn b bs zs i).order (lastN zs i)
  ord : wr.ownsRow 0 3 1 vo (Dn b bs zs i).order.length ((Dn b bs zs i).order.map iv)
  nodup : (Dn b bs zs i).order.Nodup
  keeps : Keeps (fun _ => False) w wr
theorem OwnDisk.nodup {F : Nat → Prop} {D : Dk} {w : World} (h : OwnDisk F D w) : D.order.Nodup := by obtain ⟨v, hm, hf⟩ := h; exact hm.nodup
theorem K1.crashed {zs : List Int} {w : World} {b bs mb i : Nat} {vo : Value} {wr w' : World} {kept : List Bool} (h : K1 zs w b bs mb i vo wr) (hd : OwnDisk (K1F w.heap.size mb vo) ((Dn b bs zs i).crash kept) w') (k : Keeps (K1F w.heap.size mb vo) wr w') :
    K3 zs w b bs mb i kept vo w' := by
  obtain ⟨D, hm⟩ := h.map
  exact ⟨hd, ⟨D, hm.keep k (fun e => e.2.1 rfl)⟩, k.ownsRow h.ord (fun k hk e => e.2.2 hk), h.disk.nodup, h.keeps.trans' k (fun k e => .inr e.1)⟩
theorem K3.keep {zs : List Int} {w : World} {b bs mb i : Nat} {vo : Value} {wr w' : World} {kept : List Bool} (h : K3 zs w b bs mb i kept vo wr) (k : Keeps (fun _ => False) wr w') : K3 zs w b bs mb i kept vo w' := by
  obtain ⟨D, hm⟩ := h.map
  exact ⟨h.disk.keepF k, ⟨D, hm.keep k id⟩, k.ownsRow h.ord (fun _ _ => id), h.nodup, h.keeps.trans k⟩
theorem K3.mem {zs : List Int} {w : World} {b bs mb i j : Nat} {vo : Value} {wr : World} {kept : List Bool} (h : K3 zs w b bs mb i kept vo wr) (hj : j < (Dn b bs zs i).order.length) :
    (Dn b bs zs i).order.getD j 0 ∈ (Dn b bs zs i).order ∧ (Dn b bs zs i).order.getD j 0 < 32 := by
  have hm : (Dn b bs zs i).order.getD j 0 ∈ (Dn b bs zs i).order := List.mem_of_mem_drop (idx_k (i := (Dn b bs zs i).order.getD j 0) h.nodup hj rfl).2.2.1
  exact ⟨hm, (Dn_facts b bs zs i).2.2.2.2.2.2.2 _ hm⟩
theorem K3.cell {zs : List Int} {w : World} {b bs mb i j m : Nat} {q : Option Addr} {wr : World} {kept : List Bool} (h : K3 zs w b bs mb i kept (.slice q (Dn b bs zs i).order.length m) wr) (hj : j < (Dn b bs zs i).order.length) :
    ∃ g, q = some ⟨g, 0, none⟩ ∧ wr.cell? ⟨g, j, none⟩ = some (.int .i64 ((Dn b bs zs i).order.getD j 0 : Nat)) := by
  have ho := h.ord
  rcases ho.2 with ⟨hv, h0⟩ | ⟨g, cap, cur, hv, _⟩
  · omega
  · injection hv with e1 e2 e3
    subst e1
    refine ⟨g, rfl, ?_⟩
    rw [World.ownsRow.cellAt ho j (by omega)]
    simp [hj, iv]
theorem K3.la {zs : List Int} {w : World} {b bs mb i j : Nat} {vo : Value} {wr : World} {kept : List Bool} (h : K3 zs w b bs mb i kept vo wr) (hj : j < (Dn b bs zs i).order.length) :
    ((Dn b bs zs i).crash kept).la ((Dn b bs zs i).order.getD j 0) = rep64 (if kept.getD j false then lastN zs i ((Dn b bs zs i).order.getD j 0) else 0) := by
  obtain ⟨h1, h2, h3, h4, h5, h6, h7, h8⟩ := Dn_facts b bs zs i
  have hk := idx_k (i := (Dn b bs zs i).order.getD j 0) h.nodup hj rfl
  have hm : (Dn b bs zs i).order.getD j 0 ∈ (Dn b bs zs i).order := List.mem_of_mem_drop hk.2.2.1
  show (Dn b bs zs i).settled (fun k => kept.getD k false) ((Dn b bs zs i).order.getD j 0) = _
  unfold Dk.settled
  rw [hk.1]
  by_cases e : kept.getD j false = true
  · rw [if_pos ⟨hm, e⟩, if_pos e]; exact h7 _ hm
  · rw [if_neg (fun h => e h.2), if_neg e]; exact h6 _

set_option maxRecDepth 100000 in
set_option maxHeartbeats 1000000 in
theorem kept_loop (zs : List Int) (sv kv : Value) (kept : List Bool) (w : World) (hz : IntsAt w sv zs) (hkv : BoolsAt w kv kept) (hkb : Hid (0 < kept.length → ∀ k, kv.ownBlock = some k → k < w.heap.size)) :
    Calls Try.prog 4 #[sv, kv] w fun e w' => e = .returned (.bool true) ∧ Below w.heap.size w w' := by
  obtain ⟨p, c, rfl, hzl, hzr, hzp⟩ := hz
  have hmm := @run_makeMap Try.prog
  have hzr' := Lib.hid hzr; clear hzr
  have hzp' := Lib.hid hzp; clear hzp
  obtain ⟨i0, hi0, hz0, hz1, hz2⟩ := info_parts intInfo
  go_enter Try.func4, Try.ntmps4
  go_wp2_with fail
  refine (own_new 32 _ (by omega) (by omega)).mono ?_
  rintro e w1 ⟨b, bs, rfl, hD1, hk1⟩
  have hK0 := Lib.hid (K1.start (zs := zs) hD1 hk1); clear hD1 hk1
  go_wp2_with fail
  go_loopw [8, 9] (fun vo jv wr => ∃ i : Nat, i ≤ zs.length ∧ i ≤ 60 ∧ jv = .int .i64 i ∧ (∃ q m, vo = .slice q (Dn b bs zs i).order.length m) ∧ Hid (K1 zs w b bs w1.heap.size i vo wr)) (fun _ jv _ => 60 - (intOf jv).toNat)
  case atStart => exact ⟨0, by omega, by omega, rfl, ⟨none, 0, rfl⟩, hK0⟩
  case round =>
    obtain ⟨i, hi1, hi2, rfl, ⟨q, m, rfl⟩, hK⟩ := hrel
    by_cases hlt : i < zs.length ∧ i < 60
    · obtain ⟨hl1, hl2⟩ := hlt
      obtain ⟨g, o, rfl, hgl, hr⟩ := hzp'.out (by omega)
      obtain ⟨x, hx, hxc, hx0, hx1⟩ := ints_at hr hzr'.out hK.out.keeps i hl1
      have hkd : kd zs i = (x % 32).toNat := by unfold kd; rw [hx]
      have hk32 := kd_lt zs i
      have hkw := kd_wrap x hx0 hx1
      rw [← hkd] at hkw
      have hx' := Lib.hid hx; clear hx hr
      have hkd' := Lib.hid hkd; clear hkd
      obtain ⟨k, hk⟩ : ∃ k, k = kd zs i := ⟨_, rfl⟩
      rw [← hk] at hkw hk32
      have hk' := Lib.hid hk; clear hk
      go_wp2_with fail
      refine (full_int _ (by omega) (by omega) _).mono ?_
      rintro e w2 ⟨rfl, hk2, hr2, hl2⟩
      rw [show ((i : Int) + 1).toNat = i + 1 by omega] at hr2
      have hk2' := Lib.hid hk2; clear hk2
      go_wp2_with fail
      refine (own_write0 (K1F w.heap.size w1.heap.size _) (Dn b bs zs i) (Dn b bs zs (i + 1)) b w2 k _ (rep64 (UInt8.ofNat (i + 1))) (Dn_facts b bs zs i).1 (hK.out.hF hk2'.out.size) (hK.out.disk.keepF hk2'.out) ⟨_, 64, by rw [rep64_len], fun _ => ⟨_, 0, rfl, hr2⟩⟩ (fun j hj => by simp only [Value.ownBlock, Option.some.injEq] at hj; have := hK.out.dlt; omega) (by rw [hk'.out]; exact Dn_write b bs zs i)).mono ?_
      rintro e w3 ⟨rfl, hD3, hk3⟩
      have hK2 := Lib.hid (hK.out.wrote hk2'.out hk3 hD3)
      clear hD3 hk3 hr2 hl2 hK hk2'
      obtain ⟨D, hm⟩ := hK2.out.map
      have hown := hm.own
      have hhas := hm.has k hk32
      have hm' := Lib.hid hm; clear hm
      by_cases hmem : kd zs i ∈ (Dn b bs zs i).order
      · have hd : decide (k ∈ (Dn b bs zs i).order) = true := by rw [hk'.out]; exact decide_eq_true hmem
        rw [hd] at hhas; clear hd
        have hmem' := Lib.hid hmem; clear hmem
        go_wp2_with (first | (at_lookup; refine wpList_lookup_own_ok_int _ rfl (.tmp 48) (.tmp 49) 53 rfl 3 5 .u8 (int_keyed Try.underlying3) Try.underlying53 Try.underlying5 (zeroU8 _) w1.heap.size i D rfl hown (.int .i64 k) (.int .i64 k) rfl (keyK k hk32) ?_; intro c hat hwc; have hat' := Lib.hid hat; clear hat) | (at_mapUpdate; refine wpList_mapUpdate_own _ rfl (.tmp 59) (.tmp 60) (.tmp 63) 53 rfl 3 5 (int_keyed Try.underlying3) Try.underlying53 _ w1.heap.size i D rfl hown (by unfold maxLen; omega) _ _ (.int .i64 k) rfl rfl (keyK k hk32) _ [] (val_at i hl2) ?_; intro w4 hown4 hg4))
        have eo : (Dn b bs zs (i + 1)).order = (Dn b bs zs i).order := if_pos hmem'.out
        exact ⟨⟨i + 1, by omega, by omega, by go_num, ⟨q, m, by rw [eo]⟩, hK2.out.old hmem'.out D hm'.out (by rw [← hk'.out]; exact hown4) hg4⟩, by simp [intOf]; omega⟩
      · have hd : decide (k ∈ (Dn b bs zs i).order) = false := by rw [hk'.out]; exact decide_eq_false hmem
        rw [hd] at hhas; clear hd
        have hmem' := Lib.hid hmem; clear hmem
        have hol := Dn_len b bs zs i
        go_wp2_with (first | (at_lookup; refine wpList_lookup_own_ok_int _ rfl (.tmp 48) (.tmp 49) 53 rfl 3 5 .u8 (int_keyed Try.underlying3) Try.underlying53 Try.underlying5 (zeroU8 _) w1.heap.size i D rfl hown (.int .i64 k) (.int .i64 k) rfl (keyK k hk32) ?_; intro c hat hwc; have hat' := Lib.hid hat; clear hat) | ((with_reducible refine at_slot 58 ?_); refine wpList_append_sep rfl (.tmp 55) (.tmp 57) 48 rfl 3 i0 (.int .i64 0) 1 8 Try.underlying48 hi0 hz0 hz1 hz2 rfl (by decide) _ _ _ rfl (World.ownsRow.alloc hK2.out.ord _) ⟨w3.heap.size, 0, none⟩ 1 1 [.int .i64 k] rfl rfl (cells_one (by simp) _ _) ?d1 ?d2 ?d3 ?_; rotate_right; intro p' c' w4 ho4 hg4 hs4; have hown5 := World.ownsMap.kept (World.ownsMap.alloc hown (.cells #[.int .i64 k] 3)) hg4 (fun e => hK2.out.vom e.symm)) | (at_mapUpdate; refine wpList_mapUpdate_own _ rfl (.tmp 59) (.tmp 60) (.tmp 63) 53 rfl 3 5 (int_keyed Try.underlying3) Try.underlying53 _ w1.heap.size i D rfl hown5 (by unfold maxLen; omega) _ _ (.int .i64 k) rfl rfl (keyK k hk32) _ [] (val_at i hl2) ?_; intro w5 hown6 hg6))
        case d1 => simp; rfl
        case d2 => unfold maxLen; omega
        case d3 => omega
        have eo : (Dn b bs zs (i + 1)).order = (Dn b bs zs i).order ++ [kd zs i] := if_neg hmem'.out
        refine ⟨⟨i + 1, by omega, by omega, by go_num, ⟨p', c', by rw [eo]; simp⟩, hK2.out.new hmem'.out D hm'.out (by rw [← hk'.out]; exact ho4) hg4 hs4.out (by rw [← hk'.out]; exact hown6) hg6⟩, by simp [intOf]; omega⟩
    · obtain ⟨pk, ck, rfl, hkl, hkp⟩ := hkv
      have hkp' := Lib.hid hkp; clear hkp
      obtain ⟨L, hL⟩ : ∃ L, L = (Dn b bs zs i).order.length := ⟨_, rfl⟩
      rw [← hL]
      have hLi := Dn_len b bs zs i
      rw [← hL] at hLi
      have hL' := Lib.hid hL; clear hL
      have hx : (i < zs.length ∧ 60 ≤ i) ∨ zs.length ≤ i := by omega
      clear hlt
      rcases hx with ⟨hl1, hl2⟩ | hl1
      all_goals
        go_wp2_with fail
        refine (own_waits0 _ (Dn b bs zs i) b wr (Dn_facts b bs zs i).1 hK.out.disk).mono ?_
        rintro e w2 ⟨rfl, rfl⟩
        rw [← hL'.out]
        go_wp2_with fail
        refine (own_crash0 (K1F w.heap.size w1.heap.size _) (Dn b bs zs i) b wr _ kept (Dn_facts b bs zs i).1 (hK.out.hF (Nat.le_refl _)) hK.out.disk (bools_keep ⟨pk, ck, rfl, hkl, hkp'.out⟩ hK.out.keeps) (fun h0 k hk => by have := hkb.out h0 k hk; have := hK.out.disk.ge; omega)).mono ?_
        rintro e w3 ⟨rfl, hD3, hk3⟩
        have hK3 := Lib.hid (hK.out.crashed hD3 hk3); clear hD3 hk3 hK
        go_wp2_with fail
        go_loopw [13] (fun jv wr => ∃ j : Nat, j ≤ L ∧ jv = .int .i64 j ∧ Hid (K3 zs w b bs w1.heap.size i kept (.slice q (Dn b bs zs i).order.length m) wr)) (fun jv _ => L - (intOf jv).toNat)
        case atStart => exact ⟨0, by omega, rfl, hK3⟩
        case round =>
          clear hK3
          obtain ⟨j, hj, rfl, hK⟩ := hrel
          by_cases hlt : j < L
          · obtain ⟨g2, rfl, hc2⟩ := hK.out.cell (by rw [← hL'.out]; exact hlt)
            have hkm := hK.out.mem (by rw [← hL'.out]; exact hlt)
            have hla := hK.out.la (by rw [← hL'.out]; exact hlt)
            obtain ⟨k, hkd⟩ : ∃ k, k = (Dn b bs zs i).order.getD j 0 := ⟨_, rfl⟩
            rw [← hkd] at hc2 hla hkm
            obtain ⟨hkm, hk32⟩ := hkm
            have hkd' := Lib.hid hkd; clear hkd
            have hla' := Lib.hid hla; clear hla
            have hkm' := Lib.hid hkm; clear hkm
            go_wp2_with fail
            refine (own_read0 _ ((Dn b bs zs i).crash kept) b wr k (Dn_facts b bs zs i).1 hK.out.disk rfl (by show k < (Dn b bs zs i).n; rw [(Dn_facts b bs zs i).2.2.1]; exact hk32)).mono ?_
            rintro e w4 ⟨rfl, hw4⟩
            have hk4 : Keeps (fun _ => False) wr w4 := by rw [hw4]; exact (Keeps.refl _ _).alloc _
            have hr4 : w4.rangeAt wr.heap.size 0 ((((Dn b bs zs i).crash kept).la k).map bv) := by rw [hw4]; intro j u hu; rw [← Addr.add_mid]; exact cells_new rfl _ _ j u hu
            rw [hla'.out] at hr4
            clear hw4
            have hK4 := Lib.hid (hK.out.keep hk4); clear hK hk4
            obtain ⟨g3, hg3, hc4⟩ := hK4.out.cell (by rw [← hL'.out]; exact hlt)
            obtain rfl : g2 = g3 := by injection hg3 with h; injection h
            clear hg3 hc2
            rw [← hkd'.out] at hc4
            by_cases hkj : kept.getD j false = true
            · rw [if_pos hkj] at hr4
              have hjl : j < kept.length := by
                rcases Nat.lt_or_ge j kept.length with h | h
                · exact h
                · simp [List.getElem?_eq_none h] at hkj
              obtain ⟨kb, ko, rfl, hkr⟩ := hkp'.out (by omega)
              have hkc : w4.cell? ⟨kb, ko + j, none⟩ = some (.bool true) := (hK4.out.keeps.rangeAt hkr id) j _ (by simp [hjl] at hkj ⊢; exact hkj)
              obtain ⟨D, hm⟩ := hK4.out.map
              have hval := Lib.hid (hm.val k hk32 hkm'.out)
              have hown := hm.own
              clear hm hkj hkr
              obtain ⟨x, hx⟩ : ∃ x, x = lastN zs i k := ⟨_, rfl⟩
              rw [← hx] at hr4 hval
              clear hx
              go_wp2_with (first | (at_lookup; refine wpList_lookup_own_int _ rfl (.tmp 97) (.tmp 101) 53 rfl 3 5 .u8 (int_keyed Try.underlying3) Try.underlying53 Try.underlying5 (zeroU8 _) w1.heap.size i D rfl hown (.int .i64 k) (.int .i64 k) rfl (keyK k hk32) ?_; intro c' hat hwc; obtain rfl : c' = (x.toNat : Int) := by (rw [hval.out] at hat; injection hat with hat; injection hat with _ hat; exact hat.symm)))
              have hcv := conv64S (F := K1F w.heap.size w1.heap.size (.slice (some ⟨g2, 0, none⟩) (Dn b bs zs i).order.length m)) (D := (Dn b bs zs i).crash kept) (W0 := w4) wr.heap.size 64 (rep64 x) (rep64_len _)
              have hS4 := Lib.hid (⟨hK4.out.disk.drew, by simpa using hr4, (Keeps.refl _ _).drew⟩ : WS (K1F w.heap.size w1.heap.size (.slice (some ⟨g2, 0, none⟩) (Dn b bs zs i).order.length m)) ((Dn b bs zs i).crash kept) w4 wr.heap.size (rep64 x) w4.drew)
              clear hr4
              refine wp_region_noPanic ?_
              refine wp_region_held_drew (S := (fun W => WS (K1F w.heap.size w1.heap.size (.slice (some ⟨g2, 0, none⟩) (Dn b bs zs i).order.length m)) ((Dn b bs zs i).crash kept) w4 wr.heap.size (rep64 x) W)) (by kernel_rfl) (hS4.out) (fun hHeld => ?_)
              refine takeL 0 (v := ?_) rfl (by kernel_rfl) (by kernel_rfl) (by kernel_rfl) (fun _ _ _ h => h) (Or.inl ⟨by rfl, ?_⟩) (by assumption) ?_
              rotate_left
              · (intro wS hSw; go_simp; try with_reducible rfl)
              try simp only [Act.put, List.setIfInBounds_toArray, List.set_cons_zero, List.set_cons_succ]
              refine takeL 1 (v := ?_) rfl (by kernel_rfl) (by kernel_rfl) (by kernel_rfl) (fun _ _ _ h => h) (Or.inl ⟨by rfl, ?_⟩) (by assumption) ?_
              rotate_left
              · (intro wS hSw; go_simp; try with_reducible rfl)
              try simp only [Act.put, List.setIfInBounds_toArray, List.set_cons_zero, List.set_cons_succ]
              refine takeL 2 (v := ?_) rfl (by kernel_rfl) (by kernel_rfl) (by kernel_rfl) (fun _ _ _ h => h) (Or.inl ⟨by rfl, ?_⟩) (by assumption) ?_
              rotate_left
              · (intro wS hSw; go_simp; try with_reducible rfl)
              try simp only [Act.put, List.setIfInBounds_toArray, List.set_cons_zero, List.set_cons_succ]
              refine takeL 3 (v := ?_) rfl (by kernel_rfl) (by kernel_rfl) (by kernel_rfl) (fun _ _ _ h => h) (Or.inl ⟨by rfl, ?_⟩) (by assumption) ?_
              rotate_left
              · (intro wS hSw; go_simp; try with_reducible rfl)
              try simp only [Act.put, List.setIfInBounds_toArray, List.set_cons_zero, List.set_cons_succ]
              refine takeL 4 (v := ?_) rfl (by kernel_rfl) (by kernel_rfl) (by kernel_rfl) (fun _ _ _ h => h) (Or.inl ⟨by rfl, ?_⟩) (by assumption) ?_
              rotate_left
              · (intro wS hSw; go_simp; try with_reducible rfl)
              try simp only [Act.put, List.setIfInBounds_toArray, List.set_cons_zero, List.set_cons_succ]
              refine takeL 5 (v := ?_) rfl (by kernel_rfl) (by kernel_rfl) (by kernel_rfl) (fun _ _ _ h => h) (Or.inl ⟨by rfl, ?_⟩) (by assumption) ?_
              rotate_left
              · (intro wS hSw; go_simp; try with_reducible rfl)
              try simp only [Act.put, List.setIfInBounds_toArray, List.set_cons_zero, List.set_cons_succ]
              refine stepL 6 rfl (by kernel_rfl) (fun K hK => ?_)
              go_simp
              (refine (full_any x _).mono ?_; rintro e w8 ⟨rfl, hk8, hr8, hl8⟩; have hcv2 := conv64 w4.heap.size 64 (rep64 x) (rep64_len _) w8 hr8)
              go_wp2_with fail
              refine hK.out _ _ (WS.next hHeld hk8) (fun hHeld => ?_)
              clear hK K
              try simp only [Act.put, List.setIfInBounds_toArray, List.set_cons_zero, List.set_cons_succ]
              refine stepL 7 rfl (by kernel_rfl) (fun K hK => ?_)
              go_simp
              refine hK.out _ _ (hHeld) (fun hHeld => ?_)
              clear hK K
              try simp only [Act.put, List.setIfInBounds_toArray, List.set_cons_zero, List.set_cons_succ]
              refine takeL 8 (v := ?_) rfl (by kernel_rfl) (by kernel_rfl) (by kernel_rfl) (fun _ _ _ h => h) (Or.inl ⟨by rfl, ?_⟩) (by assumption) ?_
              rotate_left
              · (intro wS hSw; go_simp; try with_reducible rfl)
              try simp only [Act.put, List.setIfInBounds_toArray, List.set_cons_zero, List.set_cons_succ]
              refine takeL 9 (v := ?_) rfl (by kernel_rfl) (by kernel_rfl) (by kernel_rfl) (fun _ _ _ h => h) (Or.inl ⟨by rfl, ?_⟩) (by assumption) ?_
              rotate_left
              · (intro wS hSw; go_simp; try with_reducible rfl)
              try simp only [Act.put, List.setIfInBounds_toArray, List.set_cons_zero, List.set_cons_succ]
              refine wpAnyH_done (by kernel_rfl) (NoPanic.normal ?_) _
              have hK8 := Lib.hid (hK4.out.keep hHeld.2.2)
              clear hcv
              go_wp2_with fail
              exact ⟨⟨j + 1, by omega, by go_num, hK8⟩, by simp [intOf]; omega⟩
            · rw [if_neg hkj] at hr4
              have hkj2 : kept.length ≤ j ∨ j < kept.length := by omega
              rcases hkj2 with hjl | hjl
              · clear hkj
                go_wp2_with fail
                have hcv := conv64S (F := K1F w.heap.size w1.heap.size (.slice (some ⟨g2, 0, none⟩) (Dn b bs zs i).order.length m)) (D := (Dn b bs zs i).crash kept) (W0 := w4) wr.heap.size 64 (rep64 0) (rep64_len _)
                have hS4 := Lib.hid (⟨hK4.out.disk.drew, by simpa using hr4, (Keeps.refl _ _).drew⟩ : WS (K1F w.heap.size w1.heap.size (.slice (some ⟨g2, 0, none⟩) (Dn b bs zs i).order.length m)) ((Dn b bs zs i).crash kept) w4 wr.heap.size (rep64 0) w4.drew)
                clear hr4
                refine wp_region_noPanic ?_
                refine wp_region_held_drew (S := (fun W => WS (K1F w.heap.size w1.heap.size (.slice (some ⟨g2, 0, none⟩) (Dn b bs zs i).order.length m)) ((Dn b bs zs i).crash kept) w4 wr.heap.size (rep64 0) W)) (by kernel_rfl) (hS4.out) (fun hHeld => ?_)
                refine takeL 0 (v := ?_) rfl (by kernel_rfl) (by kernel_rfl) (by kernel_rfl) (fun _ _ _ h => h) (Or.inl ⟨by rfl, ?_⟩) (by assumption) ?_
                rotate_left
                · (intro wS hSw; go_simp; try with_reducible rfl)
                try simp only [Act.put, List.setIfInBounds_toArray, List.set_cons_zero, List.set_cons_succ]
                refine takeL 1 (v := ?_) rfl (by kernel_rfl) (by kernel_rfl) (by kernel_rfl) (fun _ _ _ h => h) (Or.inl ⟨by rfl, ?_⟩) (by assumption) ?_
                rotate_left
                · (intro wS hSw; go_simp; try with_reducible rfl)
                try simp only [Act.put, List.setIfInBounds_toArray, List.set_cons_zero, List.set_cons_succ]
                refine takeL 2 (v := ?_) rfl (by kernel_rfl) (by kernel_rfl) (by kernel_rfl) (fun _ _ _ h => h) (Or.inl ⟨by rfl, ?_⟩) (by assumption) ?_
                rotate_left
                · (intro wS hSw; go_simp; try with_reducible rfl)
                try simp only [Act.put, List.setIfInBounds_toArray, List.set_cons_zero, List.set_cons_succ]
                refine takeL 3 (v := ?_) rfl (by kernel_rfl) (by kernel_rfl) (by kernel_rfl) (fun _ _ _ h => h) (Or.inl ⟨by rfl, ?_⟩) (by assumption) ?_
                rotate_left
                · (intro wS hSw; go_simp; try with_reducible rfl)
                try simp only [Act.put, List.setIfInBounds_toArray, List.set_cons_zero, List.set_cons_succ]
                refine takeL 4 (v := ?_) rfl (by kernel_rfl) (by kernel_rfl) (by kernel_rfl) (fun _ _ _ h => h) (Or.inl ⟨by rfl, ?_⟩) (by assumption) ?_
                rotate_left
                · (intro wS hSw; go_simp; try with_reducible rfl)
                try simp only [Act.put, List.setIfInBounds_toArray, List.set_cons_zero, List.set_cons_succ]
                refine takeL 5 (v := ?_) rfl (by kernel_rfl) (by kernel_rfl) (by kernel_rfl) (fun _ _ _ h => h) (Or.inl ⟨by rfl, ?_⟩) (by assumption) ?_
                rotate_left
                · (intro wS hSw; go_simp; try with_reducible rfl)
                try simp only [Act.put, List.setIfInBounds_toArray, List.set_cons_zero, List.set_cons_succ]
                refine stepL 6 rfl (by kernel_rfl) (fun K hK => ?_)
                go_simp
                (refine (full_any 0 _).mono ?_; rintro e w8 ⟨rfl, hk8, hr8, hl8⟩; have hcv2 := conv64 w4.heap.size 64 (rep64 0) (rep64_len _) w8 hr8)
                go_wp2_with fail
                refine hK.out _ _ (WS.next hHeld hk8) (fun hHeld => ?_)
                clear hK K
                try simp only [Act.put, List.setIfInBounds_toArray, List.set_cons_zero, List.set_cons_succ]
                refine stepL 7 rfl (by kernel_rfl) (fun K hK => ?_)
                go_simp
                refine hK.out _ _ (hHeld) (fun hHeld => ?_)
                clear hK K
                try simp only [Act.put, List.setIfInBounds_toArray, List.set_cons_zero, List.set_cons_succ]
                refine takeL 8 (v := ?_) rfl (by kernel_rfl) (by kernel_rfl) (by kernel_rfl) (fun _ _ _ h => h) (Or.inl ⟨by rfl, ?_⟩) (by assumption) ?_
                rotate_left
                · (intro wS hSw; go_simp; try with_reducible rfl)
                try simp only [Act.put, List.setIfInBounds_toArray, List.set_cons_zero, List.set_cons_succ]
                refine takeL 9 (v := ?_) rfl (by kernel_rfl) (by kernel_rfl) (by kernel_rfl) (fun _ _ _ h => h) (Or.inl ⟨by rfl, ?_⟩) (by assumption) ?_
                rotate_left
                · (intro wS hSw; go_simp; try with_reducible rfl)
                try simp only [Act.put, List.setIfInBounds_toArray, List.set_cons_zero, List.set_cons_succ]
                refine wpAnyH_done (by kernel_rfl) (NoPanic.normal ?_) _
                have hK8 := Lib.hid (hK4.out.keep hHeld.2.2)
                clear hcv
                go_wp2_with fail
                exact ⟨⟨j + 1, by omega, by go_num, hK8⟩, by simp [intOf]; omega⟩
              · obtain ⟨kb, ko, rfl, hkr⟩ := hkp'.out (by omega)
                have hkc : w4.cell? ⟨kb, ko + j, none⟩ = some (.bool false) := (hK4.out.keeps.rangeAt hkr id) j _ (by simp [hjl] at hkj ⊢; exact hkj)
                clear hkj hkr
                go_wp2_with fail
                have hcv := conv64S (F := K1F w.heap.size w1.heap.size (.slice (some ⟨g2, 0, none⟩) (Dn b bs zs i).order.length m)) (D := (Dn b bs zs i).crash kept) (W0 := w4) wr.heap.size 64 (rep64 0) (rep64_len _)
                have hS4 := Lib.hid (⟨hK4.out.disk.drew, by simpa using hr4, (Keeps.refl _ _).drew⟩ : WS (K1F w.heap.size w1.heap.size (.slice (some ⟨g2, 0, none⟩) (Dn b bs zs i).order.length m)) ((Dn b bs zs i).crash kept) w4 wr.heap.size (rep64 0) w4.drew)
                clear hr4
                refine wp_region_noPanic ?_
                refine wp_region_held_drew (S := (fun W => WS (K1F w.heap.size w1.heap.size (.slice (some ⟨g2, 0, none⟩) (Dn b bs zs i).order.length m)) ((Dn b bs zs i).crash kept) w4 wr.heap.size (rep64 0) W)) (by kernel_rfl) (hS4.out) (fun hHeld => ?_)
                refine takeL 0 (v := ?_) rfl (by kernel_rfl) (by kernel_rfl) (by kernel_rfl) (fun _ _ _ h => h) (Or.inl ⟨by rfl, ?_⟩) (by assumption) ?_
                rotate_left
                · (intro wS hSw; go_simp; try with_reducible rfl)
                try simp only [Act.put, List.setIfInBounds_toArray, List.set_cons_zero, List.set_cons_succ]
                refine takeL 1 (v := ?_) rfl (by kernel_rfl) (by kernel_rfl) (by kernel_rfl) (fun _ _ _ h => h) (Or.inl ⟨by rfl, ?_⟩) (by assumption) ?_
                rotate_left
                · (intro wS hSw; go_simp; try with_reducible rfl)
                try simp only [Act.put, List.setIfInBounds_toArray, List.set_cons_zero, List.set_cons_succ]
                refine takeL 2 (v := ?_) rfl (by kernel_rfl) (by kernel_rfl) (by kernel_rfl) (fun _ _ _ h => h) (Or.inl ⟨by rfl, ?_⟩) (by assumption) ?_
                rotate_left
                · (intro wS hSw; go_simp; try with_reducible rfl)
                try simp only [Act.put, List.setIfInBounds_toArray, List.set_cons_zero, List.set_cons_succ]
                refine takeL 3 (v := ?_) rfl (by kernel_rfl) (by kernel_rfl) (by kernel_rfl) (fun _ _ _ h => h) (Or.inl ⟨by rfl, ?_⟩) (by assumption) ?_
                rotate_left
                · (intro wS hSw; go_simp; try with_reducible rfl)
                try simp only [Act.put, List.setIfInBounds_toArray, List.set_cons_zero, List.set_cons_succ]
                refine takeL 4 (v := ?_) rfl (by kernel_rfl) (by kernel_rfl) (by kernel_rfl) (fun _ _ _ h => h) (Or.inl ⟨by rfl, ?_⟩) (by assumption) ?_
                rotate_left
                · (intro wS hSw; go_simp; try with_reducible rfl)
                try simp only [Act.put, List.setIfInBounds_toArray, List.set_cons_zero, List.set_cons_succ]
                refine takeL 5 (v := ?_) rfl (by kernel_rfl) (by kernel_rfl) (by kernel_rfl) (fun _ _ _ h => h) (Or.inl ⟨by rfl, ?_⟩) (by assumption) ?_
                rotate_left
                · (intro wS hSw; go_simp; try with_reducible rfl)
                try simp only [Act.put, List.setIfInBounds_toArray, List.set_cons_zero, List.set_cons_succ]
                refine stepL 6 rfl (by kernel_rfl) (fun K hK => ?_)
                go_simp
                (refine (full_any 0 _).mono ?_; rintro e w8 ⟨rfl, hk8, hr8, hl8⟩; have hcv2 := conv64 w4.heap.size 64 (rep64 0) (rep64_len _) w8 hr8)
                go_wp2_with fail
                refine hK.out _ _ (WS.next hHeld hk8) (fun hHeld => ?_)
                clear hK K
                try simp only [Act.put, List.setIfInBounds_toArray, List.set_cons_zero, List.set_cons_succ]
                refine stepL 7 rfl (by kernel_rfl) (fun K hK => ?_)
                go_simp
                refine hK.out _ _ (hHeld) (fun hHeld => ?_)
                clear hK K
                try simp only [Act.put, List.setIfInBounds_toArray, List.set_cons_zero, List.set_cons_succ]
                refine takeL 8 (v := ?_) rfl (by kernel_rfl) (by kernel_rfl) (by kernel_rfl) (fun _ _ _ h => h) (Or.inl ⟨by rfl, ?_⟩) (by assumption) ?_
                rotate_left
                · (intro wS hSw; go_simp; try with_reducible rfl)
                try simp only [Act.put, List.setIfInBounds_toArray, List.set_cons_zero, List.set_cons_succ]
                refine takeL 9 (v := ?_) rfl (by kernel_rfl) (by kernel_rfl) (by kernel_rfl) (fun _ _ _ h => h) (Or.inl ⟨by rfl, ?_⟩) (by assumption) ?_
                rotate_left
                · (intro wS hSw; go_simp; try with_reducible rfl)
                try simp only [Act.put, List.setIfInBounds_toArray, List.set_cons_zero, List.set_cons_succ]
                refine wpAnyH_done (by kernel_rfl) (NoPanic.normal ?_) _
                have hK8 := Lib.hid (hK4.out.keep hHeld.2.2)
                clear hcv
                go_wp2_with fail
                exact ⟨⟨j + 1, by omega, by go_num, hK8⟩, by simp [intOf]; omega⟩
          · go_wp2_with fail
            refine (waits_ok _).mono ?_
            rintro e w5 ⟨rfl, hk5⟩
            have hfin := Lib.hid (Keeps.below (hK.out.keeps.trans hk5) (Nat.le_refl _) (fun k e => e.elim)); clear hk5 hK
            go_wp2_with fail
            go_ret
            exact ⟨rfl, hfin.out⟩
end Go.Proofs.Ytoigepaanhjnfaa
