/- The halves; the newest slot. -/
import Derived.Test.YtcmpbablmofofaaJF
namespace Go.Proofs.Ytcmpbablmofofaa
open Go.RowKit

theorem halfSize_any (F : Nat → Prop) (D : Dk) (w : World) (h : OwnDisk F D w) (hn : D.n ≤ 1024) (h2 : 4 ≤ D.n) : Calls Try.prog 63 #[.pointer (some ⟨D.b, 0, none⟩)] w fun e w' => e = .returned (.int .i64 ((D.n - 2) / 2 : Nat)) ∧ w = w' := by
  have h' := Lib.hid h; clear h
  go_enter Try.func63, Try.ntmps63
  go_wp2_with (go_at_call 17; refine (own_size F D _ h'.out).mono ?_; rintro e w' ⟨rfl, rfl⟩)
  go_ret
  refine ⟨?_, rfl⟩
  show Ending.returned (.int .i64 (((D.n : Int) - 2) / 2)) = _
  rw [show ((D.n : Int) - 2) / 2 = (((D.n - 2) / 2 : Nat) : Int) by omega]
theorem halfStart_any (F : Nat → Prop) (D : Dk) (half : Nat) (hh : half ≤ 1) (w : World) (h : OwnDisk F D w) (hn : D.n ≤ 1024) (h2 : 4 ≤ D.n) : Calls Try.prog 69 #[.pointer (some ⟨D.b, 0, none⟩), .int .i64 half] w fun e w' => e = .returned (.int .i64 (2 + half * ((D.n - 2) / 2) : Nat)) ∧ w = w' := by
  have hs := halfSize_any F D w h hn h2
  obtain ⟨H, hH⟩ : ∃ H, H = (D.n - 2) / 2 := ⟨_, rfl⟩
  have hH2 : H ≤ 511 := by omega
  rw [← hH] at hs ⊢
  have hs' := Lib.hid hs; clear hs h hH
  have h01 : half = 0 ∨ half = 1 := by omega
  rcases h01 with rfl | rfl
  all_goals
    go_enter Try.func69, Try.ntmps69
    go_wp2_with (go_at_call 63; refine hs'.out.mono ?_; rintro e w' ⟨rfl, rfl⟩)
    go_ret
    exact ⟨by simp, rfl⟩

/-- the better of two slots -/
def pick (b s : Option (Nat × Nat)) : Option (Nat × Nat) :=
  match s, b with
  | none, b => b
  | some s, none => some s
  | some s, some b => if b.1 < s.1 then some s else some b
def newestOf (x y : List UInt8) : Option (Nat × Nat) := pick (slotOf x 0) (slotOf y 1)
def newV (o : Option (Nat × Nat)) : Value := .tuple #[.agg #[.int .u64 ((o.getD (0, 0)).1 : Nat), .int .i64 ((o.getD (0, 0)).2 : Nat)], .bool o.isSome, .int .i64 0]

def gv (o : Option (Nat × Nat)) : Value := .int .u64 ((o.getD (0, 0)).1 : Nat)
def hv (o : Option (Nat × Nat)) : Value := .int .i64 ((o.getD (0, 0)).2 : Nat)
/-- the loop's head in newest -/
structure NI (D : Dk) (w : World) (o : Option (Nat × Nat)) (W : World) : Prop where
  own : OwnDisk (fun k => k < w.heap.size) D W
  keeps : Keeps (fun _ => False) w W
  tv : TV w.heap.size (w.heap.size + 1) (.int .u64 0) (.int .i64 0) (gv o) (hv o) W
  g0 : W.frozen? ⟨w.heap.size + 1, 0, none⟩ = false
  g1 : W.frozen? ⟨w.heap.size + 1, 1, none⟩ = false
theorem NI.start {F : Nat → Prop} {D : Dk} {w : World} (h : OwnDisk F D w) : NI D w none ((w.alloc (.cells #[.int .u64 0, .int .i64 0] 93)).alloc (.cells #[.int .u64 0, .int .i64 0] 93)) := by
  have k : Keeps (fun _ => False) w ((w.alloc (.cells #[.int .u64 0, .int .i64 0] 93)).alloc (.cells #[.int .u64 0, .int .i64 0] 93)) := ((Keeps.refl _ _).alloc _).alloc _
  have h1 : ((w.alloc (.cells #[.int .u64 0, .int .i64 0] 93)).alloc (.cells #[.int .u64 0, .int .i64 0] 93)).heap[w.heap.size + 1]? = some (.cells #[.int .u64 0, .int .i64 0] 93 (0, 0)) := by
    have := heap_alloc_last (w.alloc (.cells #[.int .u64 0, .int .i64 0] 93)) (.cells #[.int .u64 0, .int .i64 0] 93)
    simpa using this
  have h2 : ((w.alloc (.cells #[.int .u64 0, .int .i64 0] 93)).alloc (.cells #[.int .u64 0, .int .i64 0] 93)).heap[w.heap.size]? = some (.cells #[.int .u64 0, .int .i64 0] 93 (0, 0)) := by
    have h3 := heap_alloc_last w (.cells #[.int .u64 0, .int .i64 0] 93)
    rw [← h3]
    exact ((Keeps.refl (fun _ => False) _).alloc _).block _ (lt_of_block h3) id
  exact ⟨(h.turn (fun k hk _ => hk)).keepF k, k, ⟨by unfold World.cell?; simp only [h1]; rfl, by unfold World.cell?; simp only [h1]; rfl, by unfold World.cell?; simp only [h2]; rfl, by unfold World.cell?; simp only [h2]; rfl, by unfold World.frozen?; simp only [h2]; rfl, by unfold World.frozen?; simp only [h2]; rfl⟩,
    by unfold World.frozen?; simp only [h1]; rfl, by unfold World.frozen?; simp only [h1]; rfl⟩
theorem NI.keep {D : Dk} {w W W' : World} {o : Option (Nat × Nat)} (h : NI D w o W) (k : Keeps (fun _ => False) W W') : NI D w o W' :=
  have l1 := World.block_lt_of_cell? W _ h.tv.s0
  ⟨h.own.keepF k, h.keeps.trans k, h.tv.keep k, by rw [k.frozen (p := ⟨w.heap.size + 1, 0, none⟩) l1 id]; exact h.g0, by rw [k.frozen (p := ⟨w.heap.size + 1, 1, none⟩) l1 id]; exact h.g1⟩
theorem NI.put {D : Dk} {w W W' : World} {o : Option (Nat × Nat)} (h : NI D w o W) (a b : Nat) (hW : W' = (W.setCell ⟨w.heap.size + 1, 0, none⟩ (.int .u64 a)).setCell ⟨w.heap.size + 1, 1, none⟩ (.int .i64 b)) : NI D w (some (a, b)) W' := by
  have hk : Keeps (fun k => k = w.heap.size + 1) W W' := by rw [hW]; exact ((Keeps.refl (fun k => k = w.heap.size + 1) W).setCell (p := ⟨w.heap.size + 1, 0, none⟩) (.inl rfl) _).setCell (p := ⟨w.heap.size + 1, 1, none⟩) (.inl rfl) _
  have l1 := World.block_lt_of_cell? W _ h.tv.s0
  have l2 := World.block_lt_of_cell? W _ h.tv.v0
  have h1 : (W.setCell ⟨w.heap.size + 1, 0, none⟩ (.int .u64 a)).cell? ⟨w.heap.size + 1, 1, none⟩ = some (hv o) := by rw [World.cell?_setCell_other _ _ _ _ (by simp)]; exact h.tv.s1
  have hne : ¬ (w.heap.size = w.heap.size + 1) := by omega
  refine ⟨h.own.keep hk (fun i _ hi e => by omega), h.keeps.trans' hk (fun i e => .inr (by omega)), ⟨?_, ?_, ?_, ?_, ?_, ?_⟩, ?_, ?_⟩
  · rw [hW, World.cell?_setCell_other _ _ _ _ (by simp)]; exact World.cell?_setCell_same _ _ _ h.tv.s0
  · rw [hW]; exact World.cell?_setCell_same _ _ _ h1
  · rw [hk.cell (p := ⟨w.heap.size, 0, none⟩) l2 hne]; exact h.tv.v0
  · rw [hk.cell (p := ⟨w.heap.size, 1, none⟩) l2 hne]; exact h.tv.v1
  · rw [hk.frozen (p := ⟨w.heap.size, 0, none⟩) l2 hne]; exact h.tv.f0
  · rw [hk.frozen (p := ⟨w.heap.size, 1, none⟩) l2 hne]; exact h.tv.f1
  · rw [hW, World.frozen?_setCell, World.frozen?_setCell]; exact h.g0
  · rw [hW, World.frozen?_setCell, World.frozen?_setCell]; exact h.g1
theorem RS.made {w w1 : World} {x : List UInt8} {t : TypeId} (h : w1 = w.alloc (.cells (x.map bv).toArray t)) : RS w.heap.size x w1 := by
  have hb : w1.heap[w.heap.size]? = some (.cells (x.map bv).toArray t (0, 0)) := by rw [h]; exact heap_alloc_last w _
  intro j u hu
  unfold World.cell?; simp only [hb]
  simpa using hu
theorem OwnDisk.la_len {F : Nat → Prop} {D : Dk} {W : World} (h : OwnDisk F D W) (i : Nat) (hi : i < D.n) : (D.la i).length = 64 := by
  obtain ⟨v, hm, hf⟩ := h
  exact hm.secs.lla i hi
def bestK (D : Dk) : Nat → Option (Nat × Nat)
  | 0 => none
  | k + 1 => pick (bestK D k) (slotOf (D.la k) k)

set_option maxRecDepth 100000 in
set_option maxHeartbeats 4000000 in
theorem newest_any (F : Nat → Prop) (D : Dk) (w : World) (h : OwnDisk F D w) (h2 : 4 ≤ D.n) (hon : D.on = true) : Calls Try.prog 50 #[.pointer (some ⟨D.b, 0, none⟩)] w fun e w' => e = .returned (newV (bestK D 2)) ∧ Keeps (fun _ => False) w w' := by
  have hN := Lib.hid (NI.start h)
  clear h
  go_enter Try.func50, Try.ntmps50
  go_wp2
  go_loopw [6, 13] (fun fv iv wr => ∃ k : Nat, k ≤ 2 ∧ iv = .int .i64 k ∧ fv = .bool (bestK D k).isSome ∧ Hid (NI D w (bestK D k) wr)) (fun _ iv _ => 2 - (intOf iv).toNat)
  case atStart => exact ⟨0, by omega, rfl, rfl, hN⟩
  case round =>
    clear hN
    obtain ⟨k, hk, rfl, rfl, hP⟩ := hrel
    by_cases hlt : k < 2
    · have hlen := hP.out.own.la_len k (by omega)
      have hlen' := Lib.hid hlen; clear hlen
      have hnext : bestK D (k + 1) = pick (bestK D k) (slotOf (D.la k) k) := rfl
      have hnext' := Lib.hid hnext; clear hnext
      obtain ⟨bo, hbo⟩ : ∃ bo, bo = bestK D k := ⟨_, rfl⟩
      rw [← hbo] at hP hnext' ⊢
      have hbo' := Lib.hid hbo; clear hbo
      obtain ⟨so, hso⟩ : ∃ so, so = slotOf (D.la k) k := ⟨_, rfl⟩
      rw [← hso] at hnext'
      have hso' := Lib.hid hso; clear hso
      cases so with
      | none =>
        have hsv : slotV none = .tuple #[.agg #[.int .u64 0, .int .i64 0], .bool false] := rfl
        go_wp2_with (first | (go_at_call 12; refine (own_read_yes _ D _ k hP.out.own hon (by omega)).mono ?_; rintro e w1 ⟨rfl, hw1⟩; have hR1 := Lib.hid (RS.made hw1); have hP1 := Lib.hid (hP.out.keep (Keeps.new hw1)); clear hw1) | (go_at_call 67; refine (readSlot_any (D.la k) k wr.heap.size hlen'.out _ hR1.out).mono ?_; rintro e w2 ⟨rfl, hk2⟩; rw [← hso'.out]; have hP2 := Lib.hid (hP1.out.keep hk2); clear hk2; obtain ⟨hq1, hq2, hq3, hq4, hq5, hq6⟩ := hP2.out.tv; have hq7 := hP2.out.g0; have hq8 := hP2.out.g1; have hq9 := World.block_lt_of_cell? w2 _ hq1; have hq10 := World.block_lt_of_cell? w2 _ hq3; rw [hsv]))
        have hn2 := hnext'.out
        have hP3 := Lib.hid (hP2.out.keep ((Keeps.refl _ _).alloc (.cells #[.int .u64 0, .int .i64 0] 93)))
        have e : bestK D (k + 1) = bo := by rw [hn2]; cases bo <;> rfl
        exact ⟨⟨k + 1, by omega, by go_num, by rw [e], by rw [e]; exact hP3⟩, by simp [intOf]; omega⟩
      | some s =>
        obtain ⟨sg, sh⟩ := s
        have hsv : slotV (some (sg, sh)) = .tuple #[.agg #[.int .u64 sg, .int .i64 sh], .bool true] := rfl
        cases bo with
        | none =>
          have hfo : (none : Option (Nat × Nat)).isSome = false := rfl
          go_wp2_with (first | (go_at_call 12; refine (own_read_yes _ D _ k hP.out.own hon (by omega)).mono ?_; rintro e w1 ⟨rfl, hw1⟩; have hR1 := Lib.hid (RS.made hw1); have hP1 := Lib.hid (hP.out.keep (Keeps.new hw1)); clear hw1) | (go_at_call 67; refine (readSlot_any (D.la k) k wr.heap.size hlen'.out _ hR1.out).mono ?_; rintro e w2 ⟨rfl, hk2⟩; rw [← hso'.out]; have hP2 := Lib.hid (hP1.out.keep hk2); clear hk2; obtain ⟨hq1, hq2, hq3, hq4, hq5, hq6⟩ := hP2.out.tv; have hq7 := hP2.out.g0; have hq8 := hP2.out.g1; have hq9 := World.block_lt_of_cell? w2 _ hq1; have hq10 := World.block_lt_of_cell? w2 _ hq3; rw [hsv]))
          have hn2 := hnext'.out
          have hP3 := Lib.hid ((hP2.out.put sg sh rfl).keep ((Keeps.refl _ _).alloc (.cells #[.int .u64 sg, .int .i64 sh] 93)))
          have e : bestK D (k + 1) = some (sg, sh) := by rw [hn2]; rfl
          exact ⟨⟨k + 1, by omega, by go_num, by rw [e]; rfl, by rw [e]; exact hP3⟩, by simp [intOf]; omega⟩
        | some b =>
          obtain ⟨bg, bh⟩ := b
          have hfo : (some (bg, bh)).isSome = true := rfl
          have hgv : gv (some (bg, bh)) = .int .u64 bg := rfl
          have hhv : hv (some (bg, bh)) = .int .i64 bh := rfl
          by_cases hbs : bg < sg
          · go_wp2_with (first | (go_at_call 12; refine (own_read_yes _ D _ k hP.out.own hon (by omega)).mono ?_; rintro e w1 ⟨rfl, hw1⟩; have hR1 := Lib.hid (RS.made hw1); have hP1 := Lib.hid (hP.out.keep (Keeps.new hw1)); clear hw1) | (go_at_call 67; refine (readSlot_any (D.la k) k wr.heap.size hlen'.out _ hR1.out).mono ?_; rintro e w2 ⟨rfl, hk2⟩; rw [← hso'.out]; have hP2 := Lib.hid (hP1.out.keep hk2); clear hk2; obtain ⟨hq1, hq2, hq3, hq4, hq5, hq6⟩ := hP2.out.tv; rw [hgv] at hq1; rw [hhv] at hq2; have hq7 := hP2.out.g0; have hq8 := hP2.out.g1; have hq9 := World.block_lt_of_cell? w2 _ hq1; have hq10 := World.block_lt_of_cell? w2 _ hq3; rw [hsv]))
            have hn2 := hnext'.out
            have hP3 := Lib.hid ((hP2.out.put sg sh rfl).keep ((Keeps.refl _ _).alloc (.cells #[.int .u64 sg, .int .i64 sh] 93)))
            have e : bestK D (k + 1) = some (sg, sh) := by rw [hn2]; show (if bg < sg then some (sg, sh) else some (bg, bh)) = _; rw [if_pos hbs]
            exact ⟨⟨k + 1, by omega, by go_num, by rw [e]; rfl, by rw [e]; exact hP3⟩, by simp [intOf]; omega⟩
          · go_wp2_with (first | (go_at_call 12; refine (own_read_yes _ D _ k hP.out.own hon (by omega)).mono ?_; rintro e w1 ⟨rfl, hw1⟩; have hR1 := Lib.hid (RS.made hw1); have hP1 := Lib.hid (hP.out.keep (Keeps.new hw1)); clear hw1) | (go_at_call 67; refine (readSlot_any (D.la k) k wr.heap.size hlen'.out _ hR1.out).mono ?_; rintro e w2 ⟨rfl, hk2⟩; rw [← hso'.out]; have hP2 := Lib.hid (hP1.out.keep hk2); clear hk2; obtain ⟨hq1, hq2, hq3, hq4, hq5, hq6⟩ := hP2.out.tv; rw [hgv] at hq1; rw [hhv] at hq2; have hq7 := hP2.out.g0; have hq8 := hP2.out.g1; have hq9 := World.block_lt_of_cell? w2 _ hq1; have hq10 := World.block_lt_of_cell? w2 _ hq3; rw [hsv]))
            have hn2 := hnext'.out
            have hP3 := Lib.hid (hP2.out.keep ((Keeps.refl _ _).alloc (.cells #[.int .u64 sg, .int .i64 sh] 93)))
            have e : bestK D (k + 1) = some (bg, bh) := by rw [hn2]; show (if bg < sg then some (sg, sh) else some (bg, bh)) = _; rw [if_neg hbs]
            exact ⟨⟨k + 1, by omega, by go_num, by rw [e]; rfl, by rw [e]; exact hP3⟩, by simp [intOf]; omega⟩
    · obtain rfl : k = 2 := by omega
      obtain ⟨og, hog⟩ : ∃ og : Nat, og = ((bestK D 2).getD (0, 0)).1 := ⟨_, rfl⟩
      obtain ⟨oh, hoh⟩ : ∃ oh : Nat, oh = ((bestK D 2).getD (0, 0)).2 := ⟨_, rfl⟩
      have hgv : gv (bestK D 2) = .int .u64 og := by rw [hog]; rfl
      have hhv : hv (bestK D 2) = .int .i64 oh := by rw [hoh]; rfl
      have hnv : newV (bestK D 2) = .tuple #[.agg #[.int .u64 og, .int .i64 oh], .bool (bestK D 2).isSome, .int .i64 0] := by rw [hog, hoh]; rfl
      have hnv' := Lib.hid hnv
      have hT := Lib.hid hP.out.tv
      have hK := Lib.hid hP.out.keeps
      obtain ⟨hq1, hq2, hq3, hq4, hq5, hq6⟩ := hP.out.tv
      rw [hgv] at hq1
      rw [hhv] at hq2
      clear hog hoh hgv hhv hnv
      go_wp2_with fail
      obtain ⟨Wc, hWc⟩ : ∃ Wc, Wc = (wr.setCell ⟨w.heap.size, 0, none⟩ (.int .u64 og)).setCell ⟨w.heap.size, 1, none⟩ (.int .i64 oh) := ⟨_, rfl⟩
      rw [← hWc]
      obtain ⟨c0, c1, hkc⟩ := hT.out.put (.int .u64 og) (.int .i64 oh) Wc hWc
      clear hWc hq1 hq2 hq3 hq4 hq5 hq6
      refine bodyPost_ret (v := .tuple #[.agg #[.int .u64 og, .int .i64 oh], .bool (bestK D 2).isSome, .int .i64 0]) (by simp [results, Try.results50, go_sem, c0, c1]) rfl ⟨by rw [hnv'.out], hK.out.trans' hkc (fun k e => .inr (by rw [e]; exact Nat.le_refl _))⟩
end Go.Proofs.Ytcmpbablmofofaa
