/- A region of two phases with a call in its first one; hold. -/
import Derived.Test.YtcmpbablmofofaaJQ
import Derived.Test.YtcmpbablmofofaaZPH
set_option linter.unusedVariables false
set_option linter.unusedSimpArgs false
namespace Go.Proofs.Ytcmpbablmofofaa
open Go.RowKit

section
variable {P : Program} {l : List Oper} {Q : Exit → Act → World → Prop} {md : Region.Mode} {S : World → Prop} {n : Nat}
theorem stepX (i : Nat) {fuel : Nat} {listed : Array Bool} {a : Act} {w : World} {o : Oper} (ho : l[i]? = some o) (hr : Region.ready md l.toArray listed = [i]) (hw : Region.wanted o (yielded l.toArray a.tmps) = true)
    (h : ∀ K' : Act → World → Prop, Shut (∀ a' w', ((i < n → S w → S w') ∧ wpX P md l.toArray Q n S fuel (listed.setIfInBounds i true) a' w') → K' a' w') → Oper.wp P o a w K' Q) :
    wpX P md l.toArray Q n S (fuel + 1) listed a w := by
  refine ⟨fun e => (by rw [hr] at e; cases e), fun j hj => ?_⟩
  rw [hr] at hj
  obtain rfl : j = i := by simpa using hj
  unfold wpOp
  have ho' : l.toArray[j]? = some o := by simpa using ho
  rw [ho']
  simp only [hw, if_true]
  exact .inl (h _ (fun _ _ h => h))
end
theorem allB {n : Nat} {L : Array Bool} (h : ((List.range n).all fun i => L.getD i true) = true) : ∀ i, i < n → L.getD i true = true := fun i hi => List.all_eq_true.1 h i (List.mem_range.2 hi)
section
variable [Inhabited BaseN]
/-- sectors that entries take -/
def usedOf (L : List (List UInt8)) : Nat := L.foldl (fun n l => n + takes l.length) 0
end
theorem usedOf_snoc (L : List (List UInt8)) (l : List UInt8) : usedOf (L ++ [l]) = usedOf L + takes l.length := by unfold usedOf; rw [List.foldl_append]; rfl
theorem usedOf_le (X : List (List UInt8)) (h : ∀ l ∈ X, l.length ≤ 10000) : usedOf X ≤ X.length * 1000 := by
  have key : ∀ (X : List (List UInt8)) (n : Nat), (∀ l ∈ X, l.length ≤ 10000) → X.foldl (fun n l => n + takes l.length) n ≤ n + X.length * 1000 := by
    intro X
    induction X with
    | nil => intro n _; simp
    | cons y X ih =>
      intro n h
      have h1 := ih (n + takes y.length) (fun z hz => h z (by simp [hz]))
      have h2 := h y (by simp)
      have h3 : takes y.length ≤ 1000 := by unfold takes; omega
      rw [List.foldl_cons, List.length_cons]; omega
  have := key X 0 h
  unfold usedOf; omega
theorem JHead.set3 {w : World} {jb db gen half : Nat} {ev : Value} {used : Nat} {ended : Bool} (h : JHead w jb db gen half ev used ended) (v : Value) : JHead (w.setCell ⟨jb, 3, none⟩ v) jb db gen half v used ended := ⟨by rw [heap_put h.hd]; rfl⟩
theorem JHead.set4 {w : World} {jb db gen half : Nat} {ev : Value} {used : Nat} {ended : Bool} (h : JHead w jb db gen half ev used ended) (n : Nat) : JHead (w.setCell ⟨jb, 4, none⟩ (.int .i64 n)) jb db gen half ev n ended := ⟨by rw [heap_put h.hd]; rfl⟩
set_option maxRecDepth 100000 in
set_option maxHeartbeats 4000000 in
theorem hold_any (jb db gen half : Nat) (ev0 : Value) (used0 : Nat) (ended : Bool) (v : Value) (L : List (List UInt8)) (w : World) (hJ : Hid (JHead w jb db gen half ev0 used0 ended)) (hv : Hid (EntsAt w v L)) (hL : L.length ≤ 1000) (hl : Hid (∀ l ∈ L, l.length ≤ 10000)) (hne : Hid (∀ g, v.ownBlock = some g → g ≠ jb)) :
    Calls Try.prog 56 #[.pointer (some ⟨jb, 0, none⟩), v] w fun e w' => e = .returned (.tuple #[]) ∧ JHead w' jb db gen half v (usedOf L) ended ∧ Keeps (fun i => i = jb) w w' := by
  obtain ⟨p, c, rfl⟩ := hv.out.slice
  have c3 := hJ.out.c3
  have c4 := hJ.out.c4
  have f3 := hJ.out.fr 3
  have f4 := hJ.out.fr 4
  go_enter Try.func56, Try.ntmps56
  go_wp2_with fail
  have hJ0 : Hid (JHead ((w.setCell ⟨jb, 3, none⟩ (.slice p L.length c)).setCell ⟨jb, 4, none⟩ (.int .i64 0)) jb db gen half (.slice p L.length c) 0 ended) := Lib.hid ((hJ.out.set3 _).set4 0)
  have hK0 : Hid (Keeps (fun i => i = jb) w ((w.setCell ⟨jb, 3, none⟩ (.slice p L.length c)).setCell ⟨jb, 4, none⟩ (.int .i64 0))) := Lib.hid (Keeps.setCell (F := fun i => i = jb) (Keeps.setCell (F := fun i => i = jb) (Keeps.refl _ _) (p := ⟨jb, 3, none⟩) (.inl rfl) _) (p := ⟨jb, 4, none⟩) (.inl rfl) _)
  generalize (w.setCell ⟨jb, 3, none⟩ (.slice p L.length c)).setCell ⟨jb, 4, none⟩ (.int .i64 0) = w1 at hJ0 hK0 ⊢
  clear c3 c4 f3 f4 hJ
  go_loopw [15] (fun iv wr => ∃ (k : Nat), k ≤ L.length ∧ iv = .int .i64 k ∧ Hid (JHead wr jb db gen half (.slice p L.length c) (usedOf (L.take k)) ended) ∧ Hid (Keeps (fun i => i = jb) w wr)) (fun iv _ => L.length - (intOf iv).toNat)
  case atStart => exact ⟨0, by omega, rfl, hJ0, hK0⟩
  case round =>
    obtain ⟨k, hk, rfl, hJk, hKk⟩ := hrel
    by_cases hlk : k < L.length
    · obtain ⟨l, hx⟩ : ∃ x, L[k]? = some x := ⟨_, List.getElem?_eq_getElem hlk⟩
      obtain ⟨g, o, q, d, rfl, hc0, hb0⟩ := hv.out.get hx
      have hgn : g ≠ jb := hne.out g rfl
      have hc1 : wr.cell? ⟨g, o + k, none⟩ = some (.slice q l.length d) := (hKk.out.cell (p := ⟨g, o + k, none⟩) (World.block_lt_of_cell? w _ hc0) hgn).trans hc0
      have s2 := hl.out l (List.mem_of_getElem? hx)
      obtain ⟨u, hu⟩ : ∃ u, usedOf (L.take k) = u := ⟨_, rfl⟩
      obtain ⟨T, hT⟩ : ∃ T, takes l.length = T := ⟨_, rfl⟩
      have hst : Hid (usedOf (L.take (k + 1)) = u + T) := Lib.hid (by
        obtain ⟨h2, e⟩ := List.getElem?_eq_some_iff.1 hx
        rw [List.take_succ_eq_append_getElem h2, e, usedOf_snoc, hu, hT])
      have hul : u ≤ k * 1000 := by
        rw [← hu]
        have h1 := usedOf_le (L.take k) (fun l hl2 => hl.out l (List.mem_of_mem_take hl2))
        rw [List.length_take] at h1
        have : min k L.length ≤ k := Nat.min_le_left _ _
        omega
      have hTl : T ≤ 1000 := by rw [← hT]; unfold takes; omega
      have hTk := Lib.hid (fun W => takes_any l.length (by omega) W)
      rw [hT] at hTk
      rw [hu] at hJk
      have c4 := hJk.out.c4
      have f4 := hJk.out.fr 4
      have hjl := Lib.hid (lt_of_block hJk.out.hd)
      have m1 : (0 : Int) ≤ (k : Int) := by omega
      have m2 : (k : Int) < (L.length : Int) := by omega
      have e7 : IntKind.i64.wrap ((u : Int) + (T : Int)) = ((u + T : Nat) : Int) := by rw [IntWalk.i64_in _ (by omega)]; omega
      clear hc0 hb0 hx hu hT
      go_upto_region 4 with fail
      clear hc1
      refine wp_region_noPanic ?_
      refine wp_region_phase (S := fun W => Keeps (fun _ => False) wr W) 8 (by kernel_rfl) ((Keeps.refl _ _).drew) (fun hHeld => ?_)
      refine tkx 0 rfl ?_
      refine tkx 1 rfl ?_
      refine tkx 2 rfl ?_
      refine tkxL 3 rfl (yieldsIf_load_cell (by rfl) 3 (.tmp 21) rfl jb 4 rfl _ (fun _ s => (s.cell (p := ⟨jb, 4, none⟩) hjl.out id).trans c4) (fun w s => load_int w _ _ _ s)) ?_
      refine tkx 4 rfl ?_
      refine tkx 5 rfl ?_
      refine stepX 6 rfl (by kernel_rfl) rfl (fun K hK => ?_)
      go_simp
      refine (hTk.out _).mono ?_
      rintro e w9 ⟨rfl, rfl⟩
      go_wp2_with fail
      refine hK _ _ ⟨fun _ h => h, ?_⟩
      clear hK K
      refine tkx 7 rfl ?_
      refine wpX_tail _ _ _ _ (allB (by kernel_rfl)) ?_
      have hJ1 : Hid (JHead wr.drew jb db gen half (.slice (some ⟨g, o, none⟩) L.length c) u ended) := Lib.hid (hJk.out.keep ((Keeps.refl (fun _ => False) _).drew) id)
      have hK1 : Hid (Keeps (fun i => i = jb) w wr.drew) := Lib.hid hKk.out.drew
      generalize wr.drew = W1 at hJ1 hK1 ⊢
      clear hHeld c4 f4
      have f4 := hJ1.out.fr 4
      have c4 := hJ1.out.c4
      have hHeld : (fun _ : World => True) W1 := trivial
      refine tk 8 rfl ?_
      refine tk 9 rfl ?_
      refine stepL 10 rfl (by kernel_rfl) (fun K hK => ?_)
      go_simp
      refine hK.out _ _ (trivial) (fun hHeld => ?_)
      clear hK K
      try simp only [Act.put, sA, sZ, sS]
      refine wpAnyH_done (by kernel_rfl) (NoPanic.normal ?_) _
      have hJ2 : Hid (JHead (W1.setCell ⟨jb, 4, none⟩ (.int .i64 ((u + T : Nat) : Int))) jb db gen half (.slice (some ⟨g, o, none⟩) L.length c) (u + T) ended) := Lib.hid (hJ1.out.set4 _)
      have hK2 : Hid (Keeps (fun i => i = jb) w (W1.setCell ⟨jb, 4, none⟩ (.int .i64 ((u + T : Nat) : Int)))) := Lib.hid (Keeps.setCell (F := fun i => i = jb) hK1.out (p := ⟨jb, 4, none⟩) (.inl rfl) _)
      have e8 : ((u : Int) + (T : Int)) = ((u + T : Nat) : Int) := by omega
      rw [e8]
      clear hJ1 hK1 f4 c4 hHeld e7 e8
      go_wp2_with fail
      exact ⟨⟨k + 1, by omega, by go_num, by rw [hst.out]; exact hJ2, hK2⟩, by simp [intOf]; omega⟩
    · obtain rfl : k = L.length := by omega
      rw [List.take_length] at hJk
      go_wp2_with fail
      go_end0
      exact ⟨rfl, hJk.out, hKk.out⟩
end Go.Proofs.Ytcmpbablmofofaa
