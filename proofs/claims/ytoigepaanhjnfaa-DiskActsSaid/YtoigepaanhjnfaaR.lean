/- The document's disk: Write that waits, Read. -/
import Derived.Test.YtoigepaanhjnfaaQ
namespace Go.Proofs.Ytoigepaanhjnfaa
open Go.RowKit
open Go.Maps

def RPut (N : Nat) (D : Dk) (rb : Nat) (sv ov : Value) (mb i : Nat) (x : List UInt8) (w : World) (e : Ending) (w' : World) : Prop :=
  e = .returned (.int .i64 0) ∧ RAfter (N + 1) D rb sv ov mb w (D.put i x) w'

section
variable {w w1 w2 w3 : World} {D : Dk} {N rb : Nat} {sv ov : Value} {mb : Nat} {ar : Int} {i : Nat} {x : List UInt8}
theorem put_order (D : Dk) (i j : Nat) (x : List UInt8) : j ∈ (D.put i x).order ↔ j ∈ D.order ∨ j = i := by
  show j ∈ (if i ∈ D.order then D.order else D.order ++ [i]) ↔ _
  by_cases h : i ∈ D.order
  · rw [if_pos h]; exact ⟨.inl, fun e => e.elim id (fun e => e ▸ h)⟩
  · rw [if_neg h]; simp
theorem put_nodup (h : D.order.Nodup) (i : Nat) (x : List UInt8) : (D.put i x).order.Nodup := by
  show (if i ∈ D.order then D.order else D.order ++ [i]).Nodup
  by_cases hm : i ∈ D.order
  · rw [if_pos hm]; exact h
  · rw [if_neg hm]; exact List.nodup_append.2 ⟨h, by simp, by simp; exact fun a ha e => hm (e ▸ ha)⟩

theorem rput_old_end (h : RefMem w D N rb sv ov mb ar) (hi : i < D.n) (hm : i ∈ D.order) (hx : x.length = 64) (Dm : DataW Unit) (hmap : MapS w mb N Dm D.n D.order D.la)
    (hown : w1.ownsMap Try.prog 3 (plainElem Try.prog 9) mb (N + 1) (Dm.put (.int .i64 i) (.lit (.string x)))) (hg : w.grownBy w1 (some mb)) : RPut N D rb sv ov mb i x w (.returned (.int .i64 0)) w1 := by
  have k : Keeps (fun k => k = mb) w w1 := Keeps.grown (Keeps.refl _ _) hg (fun k e => .inl (by injection e with e; exact e.symm))
  have eo : (D.put i x).order = D.order := if_pos hm
  refine ⟨rfl, sv, ov, mb, ar, ?_, k.mono (fun k e => .inl (.inr (.inr (.inr e)))), fun k e => .inl e⟩
  exact { h with
    hd := by rw [k.block rb (lt_of_block h.hd) (fun e => h.mr e.symm)]; exact h.hd
    st := k.ownsRow h.st (fun k e1 e2 => h.smb (by rw [e1, e2]))
    ord := by rw [eo]; exact k.ownsRow h.ord (fun k e1 e2 => h.omb (by rw [e1, e2]))
    map := ⟨_, hmap.put i hi x (fun j => put_order D i j x) hown⟩
    olt := by rw [eo]; exact h.olt
    nodup := put_nodup h.nodup i x
    sync := fun j hj hn => by
      show upd D.la i x j = D.st j
      rw [upd_other _ _ _ _ (fun e => hn (by rw [eo, e]; exact hm))]; exact h.sync j hj (by rw [← eo]; exact hn)
    llen := fun j hj => by
      show (upd D.la i x j).length = 64
      by_cases e : j = i
      · subst e; rw [upd_same]; exact hx
      · rw [upd_other _ _ _ _ e]; exact h.llen j hj }

theorem rput_new_keep (h : RefMem w D N rb sv ov mb ar) {ob : Obj} (hg1 : (w.alloc ob).grownBy w1 ov.ownBlock) : Keeps (fun k => ov.ownBlock = some k) w w1 :=
  Keeps.grown ((Keeps.refl (fun k => ov.ownBlock = some k) w).alloc ob) hg1 (fun k e => .inl e)
theorem rput_new_mid (h : RefMem w D N rb sv ov mb ar) {ob : Obj} (hg1 : (w.alloc ob).grownBy w1 ov.ownBlock) :
    w1.cell? ⟨rb, 1, none⟩ = some ov ∧ w1.frozen? ⟨rb, 1, none⟩ = false ∧ w1.cell? ⟨rb, 2, none⟩ = some (.map (some mb)) := by
  have k := rput_new_keep h hg1
  have hb := lt_of_block h.hd
  exact ⟨by rw [k.cell (p := ⟨rb, 1, none⟩) hb h.ovr]; exact h.c1, by rw [k.frozen (p := ⟨rb, 1, none⟩) hb h.ovr]; exact h.fr 1, by rw [k.cell (p := ⟨rb, 2, none⟩) hb h.ovr]; exact h.c2⟩
theorem rput_new_own (h : RefMem w D N rb sv ov mb ar) {ob : Obj} (hg1 : (w.alloc ob).grownBy w1 ov.ownBlock) (u : Value) (Dm : DataW Unit) (hmap : MapS w mb N Dm D.n D.order D.la) :
    (w1.setCell ⟨rb, 1, none⟩ u).ownsMap Try.prog 3 (plainElem Try.prog 9) mb N Dm :=
  ((hmap.keep (rput_new_keep h hg1) h.omb).keep ((Keeps.refl (fun k => k = rb) w1).setCell (p := ⟨rb, 1, none⟩) (.inl rfl) u) h.mr).own

theorem rput_new_end (h : RefMem w D N rb sv ov mb ar) (hi : i < D.n) (hm : i ∉ D.order) (hx : x.length = 64) (Dm : DataW Unit) (hmap : MapS w mb N Dm D.n D.order D.la) {ob : Obj} {p : Option Addr} {c : Nat}
    (ho : w1.ownsRow 0 3 1 (.slice p (D.order.length + 1) c) (D.order.length + 1) (D.order.map iv ++ [.int .i64 i])) (hg1 : (w.alloc ob).grownBy w1 ov.ownBlock)
    (hs : ∀ k, (Value.slice p (D.order.length + 1) c).ownBlock = some k → ov.ownBlock = some k ∨ (w.alloc ob).heap.size ≤ k)
    (hown : w2.ownsMap Try.prog 3 (plainElem Try.prog 9) mb (N + 1) (Dm.put (.int .i64 i) (.lit (.string x)))) (hg : (w1.setCell ⟨rb, 1, none⟩ (.slice p (D.order.length + 1) c)).grownBy w2 (some mb)) :
    RPut N D rb sv ov mb i x w (.returned (.int .i64 0)) w2 := by
  have k0 := rput_new_keep h hg1
  have k1 : Keeps (fun k => k = rb) w1 (w1.setCell ⟨rb, 1, none⟩ (.slice p (D.order.length + 1) c)) := (Keeps.refl (fun k => k = rb) w1).setCell (p := ⟨rb, 1, none⟩) (.inl rfl) _
  have k2 : Keeps (fun k => k = mb) (w1.setCell ⟨rb, 1, none⟩ (.slice p (D.order.length + 1) c)) w2 := Keeps.grown (Keeps.refl _ _) hg (fun k e => .inl (by injection e with e; exact e.symm))
  have hs' : ∀ k, (Value.slice p (D.order.length + 1) c).ownBlock = some k → ov.ownBlock = some k ∨ w.heap.size ≤ k := fun k e => (hs k e).imp id (fun e => by simp at e; omega)
  have eo : (D.put i x).order = D.order ++ [i] := if_neg hm
  have lrb := h.lt rb (.inl rfl)
  have lmb := h.lt mb (.inr (.inr (.inr rfl)))
  have hvr : (Value.slice p (D.order.length + 1) c).ownBlock ≠ some rb := fun e => by rcases hs' rb e with e | e; exact h.ovr e; omega
  have hvm : (Value.slice p (D.order.length + 1) c).ownBlock ≠ some mb := fun e => by rcases hs' mb e with e | e; exact h.omb e; omega
  have hd1 : w1.heap[rb]? = w.heap[rb]? := k0.block rb lrb h.ovr
  refine ⟨rfl, sv, .slice p (D.order.length + 1) c, mb, ar, ?_, ?_, ?_⟩
  · exact { h with
      hd := by
        rw [k2.block rb (by simpa using Nat.lt_of_lt_of_le lrb k0.size) (fun e => h.mr e.symm)]
        have := heap_put (hd1.trans h.hd) 1 (.slice p (D.order.length + 1) c)
        simpa [Dk.put] using this
      st := k2.ownsRow (k1.ownsRow (k0.ownsRow h.st (fun k e1 e2 => h.sov k e1 e2)) (fun k e1 e2 => h.svr (by rw [e1, e2]))) (fun k e1 e2 => h.smb (by rw [e1, e2]))
      ord := by
        rw [eo]
        have := k2.ownsRow (k1.ownsRow ho (fun k e1 e2 => hvr (by rw [e1, e2]))) (fun k e1 e2 => hvm (by rw [e1, e2]))
        simpa [iv] using this
      map := ⟨_, (((hmap.keep k0 h.omb).keep k1 h.mr)).put i hi x (fun j => put_order D i j x) hown⟩
      ovr := hvr
      sov := fun k e1 e2 => by rcases hs' k e2 with e | e; exact h.sov k e1 e; have := h.lt k (.inr (.inl e1)); omega
      omb := hvm
      olt := by
        rw [eo]; intro j hj
        rcases List.mem_append.1 hj with hj | hj
        · exact h.olt j hj
        · simp at hj; subst hj; exact hi
      nodup := put_nodup h.nodup i x
      sync := fun j hj hn => by
        rw [eo] at hn; simp only [List.mem_append, List.mem_singleton, not_or] at hn
        show upd D.la i x j = D.st j
        rw [upd_other _ _ _ _ hn.2]; exact h.sync j hj hn.1
      llen := fun j hj => by
        show (upd D.la i x j).length = 64
        by_cases e : j = i
        · subst e; rw [upd_same]; exact hx
        · rw [upd_other _ _ _ _ e]; exact h.llen j hj }
  · exact ((k0.mono (G := rfoot rb sv ov mb) (fun k e => .inl (.inr (.inr (.inl e))))).trans' k1 (fun k e => .inl (.inl e))).trans' k2 (fun k e => .inl (.inr (.inr (.inr e))))
  · rintro k (e | e | e | e)
    · exact .inl (.inl e)
    · exact .inl (.inr (.inl e))
    · exact (hs' k e).imp (fun e => .inr (.inr (.inl e))) id
    · exact .inl (.inr (.inr (.inr e)))
end

set_option maxRecDepth 100000 in
set_option maxHeartbeats 1000000 in
theorem rput_old (w w1 : World) (D : Dk) (N rb : Nat) (sv ov : Value) (mb : Nat) (ar : Int) (i : Nat) (s : ByteArray) (q : Option Addr) (m c : Nat) (h : Hid (RefMem w1 D N rb sv ov mb ar)) (hN : N < 1000) (h00 : w.cell? ⟨rb, 0, none⟩ = some (.slice q m c)) (h03 : w.cell? ⟨rb, 3, none⟩ = some (.bool false))
    (hi : i < m) (hid : Hid (i < D.n)) (hm : Hid (i ∈ D.order)) (hs : ((s.size : Int) != 64) = false) (hf : Hid (Calls Try.prog 49 #[.pointer (some ⟨rb, 0, none⟩)] w fun e w' => e = .returned (.bool false) ∧ w1 = w'))
    (hc2 : w1.cell? ⟨rb, 2, none⟩ = some (.map (some mb))) (Dm : DataW Unit) (hmap : Hid (MapS w1 mb N Dm D.n D.order D.la)) (hx : Hid (s.data.toList.length = 64)) :
    Calls Try.prog 23 #[.pointer (some ⟨rb, 0, none⟩), .int .i64 i, .string s] w (RPut N D rb sv ov mb i s.data.toList w1) := by
  have hl := hmap.out.look_ok i hid.out
  rw [if_pos hm.out, decide_eq_true hm.out] at hl
  have hown := hmap.out.own
  go_enter Try.func23, Try.ntmps23
  go_wp2_with (first | (go_at_call 49; refine hf.out.mono ?_; rintro e w' ⟨rfl, rfl⟩) | (at_mapUpdate; refine wpList_mapUpdate_own _ rfl (.tmp 55) (.tmp 56) (.tmp 57) 49 rfl 3 9 (int_keyed Try.underlying3) Try.underlying49 _ mb N Dm rfl hown (by unfold maxLen; omega) _ _ (.int .i64 i) rfl rfl (keyI i (by have := h.out.n2; have := hid.out; omega)) _ [] (plainElem_string Try.underlying9 (by unfold maxLen; simp at hs; omega)) ?_; intro w4 hown4 hg4))
  go_ret
  exact rput_old_end h.out hid.out hm.out hx.out Dm hmap.out hown4 hg4

set_option maxRecDepth 100000 in
set_option maxHeartbeats 1000000 in
theorem rput_new (w w1 : World) (D : Dk) (N rb : Nat) (sv ov : Value) (mb : Nat) (ar : Int) (i : Nat) (s : ByteArray) (q : Option Addr) (m c : Nat) (h : Hid (RefMem w1 D N rb sv ov mb ar)) (hN : N < 1000) (h00 : w.cell? ⟨rb, 0, none⟩ = some (.slice q m c)) (h03 : w.cell? ⟨rb, 3, none⟩ = some (.bool false))
    (hi : i < m) (hid : Hid (i < D.n)) (hm : Hid (i ∉ D.order)) (hs : ((s.size : Int) != 64) = false) (hf : Hid (Calls Try.prog 49 #[.pointer (some ⟨rb, 0, none⟩)] w fun e w' => e = .returned (.bool false) ∧ w1 = w'))
    (hc1 : w1.cell? ⟨rb, 1, none⟩ = some ov) (hc2 : w1.cell? ⟨rb, 2, none⟩ = some (.map (some mb))) (Dm : DataW Unit) (hmap : Hid (MapS w1 mb N Dm D.n D.order D.la)) (hx : Hid (s.data.toList.length = 64)) :
    Calls Try.prog 23 #[.pointer (some ⟨rb, 0, none⟩), .int .i64 i, .string s] w (RPut N D rb sv ov mb i s.data.toList w1) := by
  have hl := hmap.out.look_ok i hid.out
  rw [if_neg hm.out, decide_eq_false hm.out] at hl
  have hol := h.out.olen
  obtain ⟨i0, hi0, hz0, hz1, hz2⟩ := info_parts intInfo
  go_enter Try.func23, Try.ntmps23
  go_wp2_with (first | (go_at_call 49; refine hf.out.mono ?_; rintro e w' ⟨rfl, rfl⟩) | ((with_reducible refine at_slot 49 ?_); refine wpList_append_sep rfl (.tmp 46) (.tmp 48) 48 rfl 3 i0 (.int .i64 0) 1 8 Try.underlying48 hi0 hz0 hz1 hz2 rfl (by decide) _ _ _ rfl (World.ownsRow.alloc h.out.ord _) ⟨w1.heap.size, 0, none⟩ 1 1 [.int .i64 i] rfl rfl (cells_one (by simp) _ _) ?d1 ?d2 ?d3 ?_; rotate_right; intro p' c' w2 ho2 hg2 hs2; obtain ⟨m1, m2, m3⟩ := rput_new_mid h.out hg2) | (at_mapUpdate; refine wpList_mapUpdate_own _ rfl (.tmp 55) (.tmp 56) (.tmp 57) 49 rfl 3 9 (int_keyed Try.underlying3) Try.underlying49 _ mb N Dm rfl (rput_new_own h.out hg2 _ Dm hmap.out) (by unfold maxLen; omega) _ _ (.int .i64 i) rfl rfl (keyI i (by have := h.out.n2; have := hid.out; omega)) _ [] (plainElem_string Try.underlying9 (by unfold maxLen; simp at hs; omega)) ?_; intro w4 hown4 hg4))
  case d1 => simp; rfl
  case d2 => unfold maxLen; omega
  case d3 => omega
  go_ret
  exact rput_new_end h.out hid.out hm.out hx.out Dm hmap.out ho2 hg2 hs2.out hown4 hg4
end Go.Proofs.Ytoigepaanhjnfaa
