/- The disk, kept apart by the types of its blocks; sectors written one behind the other, plain. -/
import Derived.Test.YtcmpbablmofofaaJK
import Derived.Test.YtcmpbablmofofaaRW
set_option linter.unusedVariables false
set_option linter.unusedSimpArgs false
namespace Go.Proofs.Ytcmpbablmofofaa
open Go.RowKit

/-- a block behind which all of a disk lies: one number for the whole of a law -/
structure BaseN where
  n : Nat
def base0 [Inhabited BaseN] : Nat := (default : BaseN).n
section
variable [Inhabited BaseN]
/-- blocks of a disk, by their types, from base0 on -/
def DTy (w : World) (k : Nat) : Prop := base0 ≤ k ∧ ∃ cs t r, w.heap[k]? = some (.cells cs t r) ∧ (t = 84 ∨ t = 89 ∨ t = 3)
def KeepD (w w' : World) : Prop := Keeps (DTy w) w w'
theorem KeepD.refl (w : World) : KeepD w w := Keeps.refl _ _
theorem KeepD.trans {a b c : World} (h : KeepD a b) (k : KeepD b c) : KeepD a c := Keeps.trans' h k (fun i hi => by
  by_cases hl : i < a.heap.size
  · by_cases hd : DTy a i
    · exact .inl hd
    · have e := h.block i hl hd
      obtain ⟨hb0, cs, t, r, h1, h2⟩ := hi
      rw [e] at h1
      exact .inl ⟨hb0, cs, t, r, h1, h2⟩
  · exact .inr (by omega))
theorem KeepD.of {a b : World} (h : Keeps (fun _ => False) a b) : KeepD a b := Keeps.mono h (fun i f => f.elim)
theorem KeepD.thenK {a b c : World} (h : KeepD a b) (k : Keeps (fun _ => False) b c) : KeepD a c := Keeps.trans' h k (fun i f => f.elim)
def DkAt (D : Dk) (w : World) : Prop := ∃ v, DiskMem w D v ∧ ∀ k, foot D v k → base0 ≤ k
theorem DkAt.keep {D : Dk} {w w' : World} (h : DkAt D w) (k : Keeps (fun _ => False) w w') : DkAt D w' := by
  obtain ⟨v, h, hb⟩ := h
  exact ⟨v, h.keepF k, hb⟩
theorem foot_ty {D : Dk} {v : Value} {w : World} (h : DiskMem w D v) (hb : ∀ k, foot D v k → base0 ≤ k) : ∀ k, foot D v k → DTy w k := by
  intro k hk0
  refine ⟨hb k hk0, ?_⟩
  revert hk0; revert k
  rintro k (rfl | rfl | hk)
  · exact ⟨_, _, _, h.hd, .inl rfl⟩
  · obtain ⟨C, h1, -⟩ := h.secs.blk
    exact ⟨_, _, _, h1, .inr (.inl rfl)⟩
  · rcases h.ow.2 with ⟨e1, -⟩ | ⟨g, cap, cur, e1, -, hg, -⟩
    · rw [e1] at hk; simp [Value.ownBlock] at hk
    · rw [e1] at hk
      simp only [Value.ownBlock, Option.some.injEq] at hk
      subst hk
      exact ⟨_, _, _, hg, .inr (.inr rfl)⟩
theorem DkAt.of {D D' : Dk} {v : Value} {w w' : World} (h : DiskMem w D v) (hb : ∀ k, foot D v k → base0 ≤ k) (ha : After D v w D' w') : DkAt D' w' ∧ KeepD w w' := by
  obtain ⟨v', h1, h2, h3⟩ := ha
  have e1 := hb D.b (.inl rfl)
  have e2 := h.lt D.b (.inl rfl)
  exact ⟨⟨v', h1, fun k hk => (h3 k hk).elim (hb k) (fun hle => by omega)⟩, h2.mono (fun i hi => .inl (foot_ty h hb i hi))⟩
end
/-- bytes lie apart from a disk's own block -/
theorem bytes_ne {D : Dk} {v sv : Value} {w : World} {x : List UInt8} (h : DiskMem w D v) (hx : BytesAt w sv x) (h0 : 0 < x.length) : ∀ k, sv.ownBlock = some k → k ≠ D.b := fun k e e2 => by
  obtain ⟨p, c, rfl, -, -, hr⟩ := hx
  obtain ⟨b, o, rfl, hr2⟩ := hr h0
  simp only [Value.ownBlock, Option.some.injEq] at e
  obtain ⟨y, hy⟩ : ∃ y, x[0]? = some y := ⟨_, List.getElem?_eq_getElem h0⟩
  have h1 := hr2 0 (bv y) (by rw [List.getElem?_map, hy]; rfl)
  rw [e, e2, Nat.add_zero] at h1
  have h2 := h.hd
  have hv := h.ow.2
  unfold World.cell? at h1
  simp only [h2] at h1
  have h3 : (#[Value.slice (some ⟨D.bs, 0, none⟩) D.n D.n, v, .bool D.on, .int .i64 D.left] : Array Value)[o]? = some (bv y) := h1
  have h4 : o < 4 := by have := (Array.getElem?_eq_some_iff.1 h3).1; simpa using this
  have h5 : o = 0 ∨ o = 1 ∨ o = 2 ∨ o = 3 := by omega
  rcases h5 with e5 | e5 | e5 | e5
  · rw [e5] at h3; simp [bv] at h3
  · rw [e5] at h3
    have h6 : v = bv y := by simpa using h3
    rw [h6] at hv
    rcases hv with ⟨e1, -⟩ | ⟨g, cap, cur, e1, -⟩
    · simp [bv] at e1
    · simp [bv] at e1
  · rw [e5] at h3; simp [bv] at h3
  · rw [e5] at h3; simp [bv] at h3
section
variable [Inhabited BaseN]
theorem dk_write (D : Dk) (w : World) (i : Int) (sv : Value) (x : List UInt8) (h : DkAt D w) (hx : BytesAt w sv x) (h0 : 0 < x.length) :
    Calls Try.prog 14 #[.pointer (some ⟨D.b, 0, none⟩), .int .i64 i, sv] w fun e w' => e = .returned (.int .i64 (D.write i x).1) ∧ DkAt (D.write i x).2 w' ∧ KeepD w w' := by
  obtain ⟨v, hm, hbb⟩ := h
  exact (write_any D v w i sv x hm hx (bytes_ne hm hx h0)).mono fun e w' ⟨he, ha⟩ => ⟨he, DkAt.of hm hbb ha⟩
theorem dk_flush (D : Dk) (w : World) (h : DkAt D w) :
    Calls Try.prog 15 #[.pointer (some ⟨D.b, 0, none⟩)] w fun e w' => e = .returned (.int .i64 D.flush.1) ∧ DkAt D.flush.2 w' ∧ KeepD w w' := by
  obtain ⟨v, hm, hbb⟩ := h
  exact (flush_any D v w hm).mono fun e w' ⟨he, ha⟩ => ⟨he, DkAt.of hm hbb ha⟩
theorem DkAt.own {D : Dk} {w : World} (h : DkAt D w) : OwnDisk (fun _ => True) D w := by
  obtain ⟨v, hm, -⟩ := h
  exact ⟨v, hm, fun _ _ => trivial⟩
theorem DkAt.n1 {D : Dk} {w : World} (h : DkAt D w) : 1 ≤ D.n ∧ D.n ≤ 1024 := by obtain ⟨v, hm, -⟩ := h; exact ⟨hm.n1, hm.n2⟩
theorem BytesAt.keepD {w w' : World} {v : Value} {x : List UInt8} (h : BytesAt w v x) (k : KeepD w w') (hv : ∀ i, v.ownBlock = some i → ¬ DTy w i) : BytesAt w' v x := h.keepF k (fun _ i e => hv i e)
end
/-- what a disk keeps of itself -/
theorem Dk.fail_same (D : Dk) : D.fail.2.b = D.b ∧ D.fail.2.bs = D.bs ∧ D.fail.2.n = D.n ∧ D.fail.2.st = D.st ∧ D.fail.2.la = D.la ∧ D.fail.2.order = D.order := by
  unfold Dk.fail
  split
  · exact ⟨rfl, rfl, rfl, rfl, rfl, rfl⟩
  · split <;> exact ⟨rfl, rfl, rfl, rfl, rfl, rfl⟩
end Go.Proofs.Ytcmpbablmofofaa
