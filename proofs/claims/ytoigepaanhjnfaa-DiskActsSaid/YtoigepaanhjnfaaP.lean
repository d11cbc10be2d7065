/- The document's answer for a disk (waystoneref01), in memory; its calls. -/
import Derived.Test.YtoigepaanhjnfaaM
import Derived.Maps.StringElems
import Derived.Deep.RegionHeld3
import Derived.StillTailTactics
namespace Go.Proofs.Ytoigepaanhjnfaa
open Go.RowKit
open Go.Maps

def strv (l : List UInt8) : Value := .string ⟨l.toArray⟩
theorem str_eq {s : ByteArray} {l : List UInt8} (h : s.data.toList = l) : s = ⟨l.toArray⟩ := by
  obtain ⟨⟨k⟩⟩ := s
  subst h; rfl

theorem lit_inj {a b : List UInt8} (h : (DataW.lit (.string a) : DataW Unit) = .lit (.string b)) : a = b := by injection h with h; injection h
structure MapS (w : World) (mb N : Nat) (Dm : DataW Unit) (n : Nat) (order : List Nat) (la : Nat → List UInt8) : Prop where
  own : w.ownsMap Try.prog 3 (plainElem Try.prog 9) mb N Dm
  isMap : IsMap Dm
  n1 : n ≤ 1024
  has : ∀ i : Nat, i < n → Maps.has Dm (.int .i64 i) = decide (i ∈ order)
  val : ∀ i : Nat, i < n → i ∈ order → Dm.atKey (.int .i64 i) (.lit (.string [])) = .lit (.string (la i))

theorem keyI (k : Nat) (h : k ≤ 1024) : keyOf Try.prog 3 (.int .i64 k) = some (.int .i64 k) := keyOf_int_mk Try.underlying3 (by simp [Lit.wf, IntKind.min, IntKind.max, IntKind.signed, IntKind.bits]; omega)
theorem zeroStr (w : World) : (zeroValue 9).run Try.prog w = .ok (strv []) w := by kernel_rfl
theorem plain_nil : plainElem (H := Unit) Try.prog 9 (strv []) = some (.lit (.string []), []) := plainElem_string Try.underlying9 (by decide)
theorem plain_str (l : List UInt8) (h : l.length ≤ maxLen) : plainElem (H := Unit) Try.prog 9 (strv l) = some (.lit (.string l), []) := plainElem_string Try.underlying9 (by simpa [ByteArray.size] using h)

section
variable {w : World} {mb N : Nat} {Dm : DataW Unit} {n : Nat} {order : List Nat} {la : Nat → List UInt8}
theorem MapS.keep (h : MapS w mb N Dm n order la) {F : Nat → Prop} {w' : World} (k : Keeps F w w') (hF : ¬ F mb) : MapS w' mb N Dm n order la := by
  obtain ⟨es, clock, hb, r⟩ := h.own
  exact ⟨⟨es, clock, by rw [k.block mb (lt_of_block hb) hF]; exact hb, r⟩, h.isMap, h.n1, h.has, h.val⟩
theorem MapS.look_ok (h : MapS w mb N Dm n order la) (i : Nat) (hi : i < n) :
    (Instr.lookup 49 (.map (some mb)) (.int .i64 i) true).run Try.prog w = .ok (.tuple #[strv (if i ∈ order then la i else []), .bool (decide (i ∈ order))]) w := by
  obtain ⟨v, ps, hrun, hv⟩ := h.own.look_ok (int_keyed Try.underlying3) Try.underlying49 (zeroStr w) plain_nil (keyI i (by have := h.n1; omega))
  obtain ⟨s, rfl, hs, _⟩ := plainElem_string_inv Try.underlying9 hv
  rw [hrun, h.has i hi]
  have e : s = ⟨(if i ∈ order then la i else []).toArray⟩ := by
    simp only [Prod.mk.injEq] at hs
    by_cases hm : i ∈ order
    · rw [if_pos hm]
      rw [h.val i hi hm] at hs
      have := hs.1
      obtain this := lit_inj this
      exact str_eq this.symm
    · rw [if_neg hm]
      rw [atKey_of_not_has (by rw [h.has i hi, decide_eq_false hm])] at hs
      have := hs.1
      obtain this := lit_inj this
      exact str_eq this.symm
  rw [e]; rfl
theorem MapS.look (h : MapS w mb N Dm n order la) (i : Nat) (hi : i < n) (hm : i ∈ order) :
    (Instr.lookup 49 (.map (some mb)) (.int .i64 i) false).run Try.prog w = .ok (strv (la i)) w := by
  obtain ⟨v, ps, hrun, hv⟩ := h.own.lookup (int_keyed Try.underlying3) Try.underlying49 (zeroStr w) plain_nil (keyI i (by have := h.n1; omega))
  obtain ⟨s, rfl, hs, _⟩ := plainElem_string_inv Try.underlying9 hv
  rw [hrun]
  simp only [Prod.mk.injEq] at hs
  rw [h.val i hi hm] at hs
  have := hs.1
  obtain this := lit_inj this
  rw [str_eq this.symm]; rfl
theorem MapS.put (h : MapS w mb N Dm n order la) (i : Nat) (hi : i < n) (x : List UInt8) {w' : World} {order' : List Nat} (ho : ∀ j, j ∈ order' ↔ j ∈ order ∨ j = i)
    (hown : w'.ownsMap Try.prog 3 (plainElem Try.prog 9) mb (N + 1) (Dm.put (.int .i64 i) (.lit (.string x)))) : MapS w' mb (N + 1) (Dm.put (.int .i64 i) (.lit (.string x))) n order' (upd la i x) := by
  have hn := h.n1
  have hkey : ∀ j : Nat, j < n → WideAt.IsKeyLit (.int .i64 j) := fun j hj => (int_keyed (P := Try.prog) (k := 3) Try.underlying3).key (keyI j (by omega))
  refine ⟨hown, h.isMap.put _ _, h.n1, fun j hj => ?_, fun j hj hm => ?_⟩
  · by_cases e : j = i
    · subst e; rw [has_put_same h.isMap (hkey j hj)]; simp [ho]
    · rw [has_put_other (by intro h; injection h with _ h; exact e (by omega)), h.has j hj]; simp [ho, e]
  · by_cases e : j = i
    · subst e; rw [atKey_put_same h.isMap (hkey j hj), upd_same]
    · rw [atKey_put_other (by intro h; injection h with _ h; exact e (by omega)), upd_other _ _ _ _ e]
      exact h.val j hj (((ho j).1 hm).resolve_right e)
end

/-- the document's disk -/
structure RefMem (w : World) (D : Dk) (N rb : Nat) (sv ov : Value) (mb : Nat) (ar : Int) : Prop where
  n1 : 1 ≤ D.n
  n2 : D.n ≤ 1024
  hd : w.heap[rb]? = some (.cells #[sv, ov, .map (some mb), .bool (!D.on), .int .i64 ar] 51 (0, 0))
  st : w.ownsRow 0 9 1 sv D.n ((List.range D.n).map fun i => strv (D.st i))
  ord : w.ownsRow 0 3 1 ov D.order.length (D.order.map iv)
  map : ∃ Dm, MapS w mb N Dm D.n D.order D.la
  svr : sv.ownBlock ≠ some rb
  ovr : ov.ownBlock ≠ some rb
  mr : mb ≠ rb
  sov : ∀ k, sv.ownBlock = some k → ov.ownBlock ≠ some k
  smb : sv.ownBlock ≠ some mb
  omb : ov.ownBlock ≠ some mb
  olt : ∀ i ∈ D.order, i < D.n
  nodup : D.order.Nodup
  sync : ∀ i, i < D.n → i ∉ D.order → D.la i = D.st i
  llen : ∀ i, i < D.n → (D.la i).length = 64
  slen : ∀ i, i < D.n → (D.st i).length = 64
  aon : D.on = true → (ar = D.left ∧ 0 ≤ D.left ∨ ar = -1 ∧ D.left < 0)
  aoff : D.on = false → ar = -1
  a1 : -1 ≤ ar
  a2 : ar ≤ 9223372036854775807

def rfoot (rb : Nat) (sv ov : Value) (mb : Nat) (k : Nat) : Prop := k = rb ∨ sv.ownBlock = some k ∨ ov.ownBlock = some k ∨ k = mb

section
variable {w : World} {D : Dk} {N rb : Nat} {sv ov : Value} {mb : Nat} {ar : Int}
theorem RefMem.c0 (h : RefMem w D N rb sv ov mb ar) : w.cell? ⟨rb, 0, none⟩ = some sv := by simp [World.cell?, h.hd]
theorem RefMem.c1 (h : RefMem w D N rb sv ov mb ar) : w.cell? ⟨rb, 1, none⟩ = some ov := by simp [World.cell?, h.hd]
theorem RefMem.c2 (h : RefMem w D N rb sv ov mb ar) : w.cell? ⟨rb, 2, none⟩ = some (.map (some mb)) := by simp [World.cell?, h.hd]
theorem RefMem.c3 (h : RefMem w D N rb sv ov mb ar) : w.cell? ⟨rb, 3, none⟩ = some (.bool (!D.on)) := by simp [World.cell?, h.hd]
theorem RefMem.c4 (h : RefMem w D N rb sv ov mb ar) : w.cell? ⟨rb, 4, none⟩ = some (.int .i64 ar) := by simp [World.cell?, h.hd]
theorem RefMem.fr (h : RefMem w D N rb sv ov mb ar) (o : Nat) : w.frozen? ⟨rb, o, none⟩ = false := by simp [World.frozen?, h.hd]
theorem RefMem.lt (h : RefMem w D N rb sv ov mb ar) : ∀ k, rfoot rb sv ov mb k → k < w.heap.size := by
  rintro k (rfl | hk | hk | rfl)
  · exact lt_of_block h.hd
  · exact (h.st.lt k hk).2
  · exact (h.ord.lt k hk).2
  · obtain ⟨Dm, hm⟩ := h.map; exact hm.own.lt
theorem RefMem.keep (h : RefMem w D N rb sv ov mb ar) {F : Nat → Prop} {w' : World} (k : Keeps F w w') (hF : ∀ i, rfoot rb sv ov mb i → ¬ F i) : RefMem w' D N rb sv ov mb ar :=
  { h with
    hd := by rw [k.block _ (h.lt _ (.inl rfl)) (hF _ (.inl rfl))]; exact h.hd
    st := k.ownsRow h.st (fun i hi => hF i (.inr (.inl hi)))
    ord := k.ownsRow h.ord (fun i hi => hF i (.inr (.inr (.inl hi))))
    map := by obtain ⟨Dm, hm⟩ := h.map; exact ⟨Dm, hm.keep k (hF mb (.inr (.inr (.inr rfl))))⟩ }
theorem RefMem.olen (h : RefMem w D N rb sv ov mb ar) : D.order.length ≤ 1024 := by
  have := h.nodup.length_le_of_subset (l₂ := List.range D.n) (fun i hi => by simp; exact h.olt i hi)
  simp at this; have := h.n2; omega
theorem RefMem.sslice (h : RefMem w D N rb sv ov mb ar) : ∃ sg cap, sv = .slice (some ⟨sg, 0, none⟩) D.n cap := by
  rcases h.st.2 with ⟨_, h0⟩ | ⟨g, cap, cur, hv, _⟩
  · have := h.n1; omega
  · exact ⟨g, cap, hv⟩
theorem RefMem.scell {sg n cap : Nat} (h : RefMem w D N rb (.slice (some ⟨sg, 0, none⟩) n cap) ov mb ar) (hn : n = D.n) (i : Nat) (hi : i < D.n) : w.cell? ⟨sg, i, none⟩ = some (strv (D.st i)) := by
  subst hn
  rw [World.ownsRow.cellAt h.st i (by omega)]
  simp [hi]
end
end Go.Proofs.Ytoigepaanhjnfaa
