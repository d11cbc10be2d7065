/- clones, hold. -/
import Derived.Test.YtcmpbablmofofaaJP
set_option linter.unusedVariables false
set_option linter.unusedSimpArgs false
namespace Go.Proofs.Ytcmpbablmofofaa
open Go.RowKit
section
variable [Inhabited BaseN]

/-- lists of bytes, of whatever memory -/
def EntsAt (w : World) (ev : Value) (L : List (List UInt8)) : Prop := ∃ vs : List Value, vs.length = L.length ∧ RowsAt 1 vv w ev vs ∧ ∀ (i : Nat) (v : Value) (l : List UInt8), vs[i]? = some v → L[i]? = some l → BytesAt w v l
end
theorem OwnE.at {w0 w : World} {ev : Value} {L : List (List UInt8)} (h : OwnE w0 w ev L) : EntsAt w ev L := by
  obtain ⟨vs, h1, h2, h3⟩ := h
  exact ⟨vs, h1, h2.at vv_len, fun i v l a b => (h3 i v l a b).bytes⟩
theorem EntsAt.keep {w w' : World} {ev : Value} {L : List (List UInt8)} (h : EntsAt w ev L) (k : Keeps (fun _ => False) w w') : EntsAt w' ev L := by
  obtain ⟨vs, h1, h2, h3⟩ := h
  exact ⟨vs, h1, h2.keep k, fun i v l a b => (h3 i v l a b).keep k⟩
theorem EntsAt.slice {w : World} {ev : Value} {L : List (List UInt8)} (h : EntsAt w ev L) : ∃ p c, ev = .slice p L.length c := by
  obtain ⟨vs, h1, h2, -⟩ := h
  obtain ⟨p, c, e⟩ := h2.slice
  exact ⟨p, c, by rw [← h1]; exact e⟩
/-- the k-th of them, in its cell -/
theorem EntsAt.get {w : World} {p : Option Addr} {n c : Nat} {L : List (List UInt8)} (h : EntsAt w (.slice p n c) L) {k : Nat} {l : List UInt8} (hl : L[k]? = some l) : ∃ g o q d, p = some ⟨g, o, none⟩ ∧ w.cell? ⟨g, o + k, none⟩ = some (.slice q l.length d) ∧ BytesAt w (.slice q l.length d) l := by
  obtain ⟨vs, h1, h2, h3⟩ := h
  have hk := (List.getElem?_eq_some_iff.1 hl).1
  obtain ⟨v, hv⟩ : ∃ v, vs[k]? = some v := ⟨_, List.getElem?_eq_getElem (by omega)⟩
  obtain ⟨g, o, hp, hr⟩ := h2.open (by omega)
  have hb := h3 k v l hv hl
  obtain ⟨q, d, rfl, -⟩ := id hb
  have h4 := hr k _ hv 0 _ rfl
  rw [Nat.mul_one, Nat.add_zero] at h4
  exact ⟨g, o, q, d, hp, h4, hb⟩
/-- entries whose blocks' types are known -/
def EntsT (w : World) (ev : Value) (L : List (List UInt8)) : Prop := ∃ vs : List Value, vs.length = L.length ∧ RowsAt 1 vv w ev vs ∧ (0 < vs.length → ∀ k, ev.ownBlock = some k → ∃ cs r, w.heap[k]? = some (.cells cs 27 r)) ∧
  ∀ (i : Nat) (v : Value) (l : List UInt8), vs[i]? = some v → L[i]? = some l → BytesAt w v l ∧ (0 < l.length → ∀ k, v.ownBlock = some k → ∃ cs r, w.heap[k]? = some (.cells cs 5 r))
theorem EntsT.at {w : World} {ev : Value} {L : List (List UInt8)} (h : EntsT w ev L) : EntsAt w ev L := by
  obtain ⟨vs, h1, h2, -, h4⟩ := h
  exact ⟨vs, h1, h2, fun i v l a b => (h4 i v l a b).1⟩
theorem EntsT.slice {w : World} {ev : Value} {L : List (List UInt8)} (h : EntsT w ev L) : ∃ p c, ev = .slice p L.length c := h.at.slice
theorem OwnE.t {w0 w : World} {ev : Value} {L : List (List UInt8)} (h : OwnE w0 w ev L) : EntsT w ev L := by
  obtain ⟨vs, h1, h2, h3⟩ := h
  exact ⟨vs, h1, h2.at vv_len, fun _ k e => h2.ty e, fun i v l a b => ⟨(h3 i v l a b).bytes, fun _ k e => (h3 i v l a b).ty e⟩⟩
theorem EntsT.keepF {F : Nat → Prop} {w w' : World} {ev : Value} {L : List (List UInt8)} (h : EntsT w ev L) (k : Keeps F w w') (hF : ∀ i, F i → ¬ ∃ cs t r, w.heap[i]? = some (.cells cs t r) ∧ (t = 27 ∨ t = 5)) : EntsT w' ev L := by
  obtain ⟨vs, h1, h2, h3, h4⟩ := h
  have a1 : 0 < vs.length → ∀ i, ev.ownBlock = some i → ¬ F i := fun h0 i e f => by
    obtain ⟨cs, r, e2⟩ := h3 h0 i e
    exact hF i f ⟨cs, _, r, e2, .inl rfl⟩
  refine ⟨vs, h1, h2.keepF k a1, fun h0 i e => ?_, fun i v l a b => ?_⟩
  · obtain ⟨cs, r, e2⟩ := h3 h0 i e
    exact ⟨cs, r, by rw [k.block i (lt_of_block e2) (a1 h0 i e)]; exact e2⟩
  · obtain ⟨b1, b2⟩ := h4 i v l a b
    have a2 : 0 < l.length → ∀ i, v.ownBlock = some i → ¬ F i := fun h0 i e f => by
      obtain ⟨cs, r, e2⟩ := b2 h0 i e
      exact hF i f ⟨cs, _, r, e2, .inr rfl⟩
    refine ⟨b1.keepF k a2, fun h0 j e => ?_⟩
    obtain ⟨cs, r, e2⟩ := b2 h0 j e
    exact ⟨cs, r, by rw [k.block j (lt_of_block e2) (a2 h0 j e)]; exact e2⟩
theorem EntsT.keep {w w' : World} {ev : Value} {L : List (List UInt8)} (h : EntsT w ev L) (k : Keeps (fun _ => False) w w') : EntsT w' ev L := h.keepF k (fun i f => f.elim)
section
variable [Inhabited BaseN]
theorem EntsT.keepD {w w' : World} {ev : Value} {L : List (List UInt8)} (h : EntsT w ev L) (k : KeepD w w') : EntsT w' ev L := h.keepF k (fun i ⟨_, cs, t, r, a, b⟩ ⟨cs2, t2, r2, c, d⟩ => by
  rw [a] at c
  injection c with c
  injection c with _ c _
  subst c
  revert b d
  rintro (rfl | rfl | rfl) (d | d) <;> revert d <;> decide)
end
theorem load_bytesv (w : World) (b o : Nat) (v : Value) (h : w.cell? ⟨b, o, none⟩ = some v) : (loadVar 27 ⟨b, o, none⟩).run Try.prog w = .ok v w := by simp [go_sem, h]
set_option maxRecDepth 100000 in
set_option maxHeartbeats 4000000 in
theorem clones_any (v : Value) (L : List (List UInt8)) (w : World) (hv : Hid (EntsAt w v L)) (hL : L.length ≤ 1000000) (hl : Hid (∀ l ∈ L, 1 ≤ l.length ∧ l.length ≤ 1000000)) :
    Calls Try.prog 65 #[v] w (EntsRes L w) := by
  obtain ⟨p, c, rfl⟩ := hv.out.slice
  obtain ⟨i0, hi0, hi1, hi2, hi3⟩ := bytesAll
  go_enter Try.func65, Try.ntmps65
  go_wp2_with fail
  go_loopw [8, 3] (fun iv lv wr => ∃ (k : Nat) (pl : Option Addr) (cl : Nat), k ≤ L.length ∧ iv = .int .i64 k ∧ lv = .slice pl k cl ∧ Hid (OwnE w wr lv (L.take k)) ∧ Hid (Keeps (fun _ => False) w wr)) (fun iv _ _ => L.length - (intOf iv).toNat)
  case atStart => exact ⟨0, none, 0, by omega, rfl, rfl, Lib.hid (OwnE.nil _ _ (Nat.le_refl _)), Lib.hid (Keeps.refl _ _)⟩
  case round =>
    obtain ⟨k, pl, cl, hk, rfl, rfl, hE, hK⟩ := hrel
    by_cases hlk : k < L.length
    · obtain ⟨l, hx⟩ : ∃ x, L[k]? = some x := ⟨_, List.getElem?_eq_getElem hlk⟩
      obtain ⟨g, o, q, d, rfl, hc0, hb0⟩ := hv.out.get hx
      have hc1 : wr.cell? ⟨g, o + k, none⟩ = some (.slice q l.length d) := (hK.out.cell (p := ⟨g, o + k, none⟩) (World.block_lt_of_cell? w _ hc0) id).trans hc0
      have hb1 := Lib.hid (hb0.keep hK.out)
      obtain ⟨s1, s2⟩ := hl.out l (List.mem_of_getElem? hx)
      have hC := Lib.hid (bytesClone_any _ l wr hb1.out (by omega) s2)
      have hst : Hid (L.take (k + 1) = L.take k ++ [l]) := Lib.hid (by
        obtain ⟨h2, e⟩ := List.getElem?_eq_some_iff.1 hx
        rw [List.take_succ_eq_append_getElem h2, e])
      have m1 : (0 : Int) ≤ (k : Int) := by omega
      have m2 : (k : Int) < (L.length : Int) := by omega
      clear hc0 hb0 hb1 hx
      go_wp2_with fail
      refine hC.out.mono ?_
      rintro e w2 ⟨v2, rfl, hO2, k2⟩
      obtain ⟨pv, cv, rfl⟩ := hO2.slice
      have hO2' := Lib.hid (hO2.older (w0 := w) hK.out.size)
      have hE2 := Lib.hid (hE.out.keep k2)
      have hK2 := Lib.hid (hK.out.trans k2)
      clear k2 hO2 hE hK hC hc1
      obtain ⟨vs, hvs, hOv, hvb⟩ := hE2.out
      have hvs2 : vs.length = k := by rw [hvs, List.length_take]; omega
      have hvs' := Lib.hid hvs
      have hvs2' := Lib.hid hvs2
      have hOv' := Lib.hid hOv
      have hvb' := Lib.hid hvb
      clear hvs hOv hvb hvs2
      have hOk := Lib.hid (hOv'.out.keep ((Keeps.refl (fun _ => False) _).alloc (.cells #[.slice pv l.length cv] 27)) (fun _ _ f => f))
      go_wp2_with ((with_reducible refine at_slot 16 ?_); go_must (refine wpList_append_r rfl (.tmp 12) (.tmp 15) 63 27 rfl i0 _ 24 Try.underlying63 hi0 hi1 hi2 hi3 rfl (by decide) (by decide) vv_len w _ k vs hvs2'.out rfl hOk.out _ rfl (.slice pv l.length cv) (cells_new rfl [.slice pv l.length cv] _) vv_one (by omega) ?_); intro q8 d8 w8 hO8 hg8)
      have ka := (Keeps.refl (fun _ => False) w2).alloc (.cells #[.slice pv l.length cv] 27)
      have hE8 := OwnE.snoc hvs'.out hOk.out (fun i u z a b => (hvb'.out i u z a b).keep ka (fun _ _ f => f)) (hO2'.out.keep ka (fun _ _ f => f)) hO8.out hg8.out
      have hK8 := OwnR.keeps hOk.out (hK2.out.alloc (.cells #[.slice pv l.length cv] 27)) hg8.out
      exact ⟨⟨k + 1, q8, d8, by omega, by go_num, rfl, Lib.hid (by rw [hst.out]; exact hE8), Lib.hid hK8⟩, by simp [intOf]; omega⟩
    · obtain rfl : k = L.length := by omega
      rw [List.take_length] at hE
      go_wp2_with fail
      go_ret
      exact ⟨pl, cl, rfl, hE.out, hK.out⟩
end Go.Proofs.Ytcmpbablmofofaa
