/- Of adv: the law's To: faces of the document as the code's. -/
import Derived.Test.YtialookpnoaogaaGreatAA18
import Derived.Test.YtialookpnoaogaaGreatAA21
import Derived.Test.YtialookpnoaogaaGreatAA20
import Derived.Test.YtialookpnoaogaaGreatAA24
import Derived.Test.YtialookpnoaogaaGreatAA15
import Derived.Test.YtialookpnoaogaaGreatAA25
import Derived.Test.YtialookpnoaogaaGreatAA23
import Derived.Test.YtialookpnoaogaaGreatAA19
import Derived.Test.YtialookpnoaogaaGreatAA22
set_option linter.unusedVariables false
set_option linter.unusedSimpArgs false
set_option linter.unusedVariables false
set_option linter.unusedSimpArgs false
namespace Go.Proofs.YtialookpnoaogaaGreat
open Go.RowKit

theorem peerAllH : ∃ i, Tryz.prog.info? 85 = some i ∧ i.zero = some (.agg #[.int .u32 0, .int .u32 0]) ∧ i.size = 2 ∧ i.bytes = 8 := by
  have h : (Tryz.prog.info? 85).map (fun i => (i.zero, i.size, i.bytes)) = some (some (.agg #[.int .u32 0, .int .u32 0]), 2, 8) := by kernel_rfl
  obtain ⟨i, hi, e⟩ := Option.map_eq_some_iff.1 h
  injection e with e1 e; injection e with e2 e3
  exact ⟨i, hi, e1, e2, e3⟩
theorem faceAllH : ∃ i, Tryz.prog.info? 64 = some i ∧ i.zero = some (.agg #[.string ⟨#[]⟩, .int .u32 0, .slice none 0 0]) ∧ i.size = 3 ∧ i.bytes = 48 := by
  have h : (Tryz.prog.info? 64).map (fun i => (i.zero, i.size, i.bytes)) = some (some (.agg #[.string ⟨#[]⟩, .int .u32 0, .slice none 0 0]), 3, 48) := by kernel_rfl
  obtain ⟨i, hi, e⟩ := Option.map_eq_some_iff.1 h
  injection e with e1 e; injection e with e2 e3
  exact ⟨i, hi, e1, e2, e3⟩
theorem faceInfoH : (Tryz.prog.info? 64).map (·.size) = some 3 := by kernel_rfl
theorem load_peersH (w : World) (b o : Nat) (v : Value) (h : w.cell? ⟨b, o, none⟩ = some v) : (loadVar 80 ⟨b, o, none⟩).run Tryz.prog w = .ok v w := by simp [go_sem, h]
theorem load_peers2H (w : World) (b o : Nat) (v : Value) (h : w.cell? ⟨b, o, none⟩ = some v) : (loadVar 62 ⟨b, o, none⟩).run Tryz.prog w = .ok v w := by simp [go_sem, h]
theorem peerVals_one (x : PeerD) : ∀ u ∈ peerVals x, u.oneCell' = true := by
  intro u hu
  simp only [peerVals, List.mem_cons, List.not_mem_nil, or_false] at hu
  rcases hu with rfl | rfl <;> rfl
/-- faces of the call's own, in memory -/
structure FaceS (w0 W : World) (v : Value) (fs : List FaceE) : Prop where
  own : OwnR 64 3 FaceE.vals w0 W v fs
  ok : ∀ f ∈ fs, RowsAt 2 peerVals W (.slice f.p f.full.length f.c) f.full ∧ (0 < f.full.length → ∀ i, (Value.slice f.p f.full.length f.c).ownBlock = some i → ¬ v.ownBlock = some i)
theorem FaceS.keep {w0 W W' : World} {v : Value} {fs : List FaceE} (h : FaceS w0 W v fs) (k : Keeps (fun _ => False) W W') : FaceS w0 W' v fs :=
  ⟨h.own.keep k (fun _ _ f => f), fun z hz => ⟨(h.ok z hz).1.keep k, (h.ok z hz).2⟩⟩
theorem FaceS.push {w0 W W2 : World} {v : Value} {fs : List FaceE} (h : FaceS w0 W v fs) {e : FaceE} (ho : RowsAt 2 peerVals W (.slice e.p e.full.length e.c) e.full) (ha : 0 < e.full.length → ∀ i, (Value.slice e.p e.full.length e.c).ownBlock = some i → ¬ v.ownBlock = some i) {p : Option Addr} {n c : Nat} (hO : OwnR 64 3 FaceE.vals w0 W2 (.slice p n c) (fs ++ [e])) (g : Grown W v p n c W2) : FaceS w0 W2 (.slice p n c) (fs ++ [e]) := by
  have key : ∀ f : FaceE, RowsAt 2 peerVals W (.slice f.p f.full.length f.c) f.full → (0 < f.full.length → ∀ i, (Value.slice f.p f.full.length f.c).ownBlock = some i → ¬ v.ownBlock = some i) → RowsAt 2 peerVals W2 (.slice f.p f.full.length f.c) f.full ∧ (0 < f.full.length → ∀ i, (Value.slice f.p f.full.length f.c).ownBlock = some i → ¬ (Value.slice p n c).ownBlock = some i) := fun f h1 h2 => by
    refine ⟨h1.keepF g.k (fun h0 i e1 e2 => h2 h0 i e1 e2), fun h0 i e1 e2 => ?_⟩
    have hi := h1.lt h0 (fun _ => Nat.succ_pos _) i e1
    rcases g.s i e2 with h | h
    · exact h2 h0 i e1 h
    · omega
  refine ⟨hO, fun z hz => ?_⟩
  rcases List.mem_append.1 hz with hz | hz
  · exact key z (h.ok z hz).1 (h.ok z hz).2
  · rw [List.mem_singleton] at hz
    subst hz
    exact key _ ho ha
theorem blk_threeH {w : World} {g : Nat} {t : TypeId} {p q r : Value} (h : BlkAt w g t [p, q, r]) (a b c : Value) : BlkAt (w.setCells g 0 [a, b, c]) g t [a, b, c] := ((h.set 0 a).set 1 b).set 2 c
section
variable {P : Program} {l : List Oper} {Q : Exit → Act → World → Prop} {md : Region.Mode} {S : World → Prop} {n : Nat}
/-- the one operation that comes up, in a region of two phases -/
theorem stepXH (i : Nat) {fuel : Nat} {listed : Array Bool} {a : Act} {w : World} {o : Oper} (ho : l[i]? = some o) (hr : Region.ready md l.toArray listed = [i]) (hw : Region.wanted o (yielded l.toArray a.tmps) = true)
    (h : ∀ K' : Act → World → Prop, Shut (∀ a' w', ((i < n → S w → S w') ∧ wpX P md l.toArray Q n S fuel (listed.setIfInBounds i true) a' w') → K' a' w') → Oper.wp P o a w K' Q) :
    wpX P md l.toArray Q n S (fuel + 1) listed a w := by
  refine ⟨fun e => (by rw [hr] at e; cases e), fun j hj => ?_⟩
  rw [hr] at hj
  obtain rfl : j = i := by simpa using hj
  unfold wpOp
  have ho' : l.toArray[j]? = some o := by simpa using ho
  rw [ho']
  simp only [hw, if_true]
  exact .inl (h _ (fun _ _ h => h))
end
def ToPost15 (fs : List FaceE) (w : World) (e : Ending) (w' : World) : Prop :=
  ∃ (gs : List FaceE) (p : Option Addr) (c : Nat), e = .returned (.slice p gs.length c) ∧ RowsAt 3 FaceE.vals w' (.slice p gs.length c) gs ∧ (∀ f ∈ gs, RowsAt 2 peerVals w' (.slice f.p f.full.length f.c) f.full) ∧ gs.map (fun f => (f.nm, f.dr, f.full)) = fs.map (fun f => (f.nm, f.dr, f.full)) ∧ Keeps (fun _ => False) w w'
set_option maxRecDepth 100000 in
set_option maxHeartbeats 16000000 in
theorem advTo_any (v : Value) (fs : List FaceE) (w : World) (hv : Hid (RowsAt 3 FaceE.vals w v fs)) (hl : fs.length ≤ 1000) (hfp : Hid (∀ f ∈ fs, RowsAt 2 peerVals w (.slice f.p f.full.length f.c) f.full)) (hfm : Hid (∀ f ∈ fs, f.full.length ≤ 100000000)) :
    Calls Tryz.prog 8 #[v] w (ToPost15 fs w) := by
  obtain ⟨p, c, rfl⟩ := hv.out.slice
  obtain ⟨i0, hi0, hi1, hi2, hi3⟩ := faceAllH
  obtain ⟨i1, hj0, hj1, hj2, hj3⟩ := peerAllH
  go_enter Tryz.func8, Tryz.ntmps8
  go_wp2_with fail
  go_loopw [4, 3] (fun iv ov wr => ∃ (k : Nat) (gs : List FaceE) (q : Option Addr) (d : Nat), k ≤ fs.length ∧ gs.length = k ∧ iv = .int .i64 k ∧ ov = .slice q k d ∧ Hid (FaceS w wr (.slice q k d) gs) ∧ Hid (gs.map (fun f => (f.nm, f.dr, f.full)) = (fs.take k).map (fun f => (f.nm, f.dr, f.full))) ∧ Hid (Keeps (fun _ => False) w wr)) (fun iv _ _ => fs.length - (intOf iv).toNat)
  case atStart => exact ⟨0, [], none, 0, by omega, rfl, rfl, rfl, Lib.hid ⟨OwnR.nil _ _ (Nat.le_refl _), fun z h => by cases h⟩, Lib.hid rfl, Lib.hid (Keeps.refl _ _)⟩
  case round =>
    obtain ⟨k, gs, q, d, hk, hgk, rfl, rfl, hO, hE, hK⟩ := hrel
    by_cases hkl : k < fs.length
    · obtain ⟨⟨nm, dr, fp2, fc2, full⟩, hx⟩ : ∃ x, fs[k]? = some x := ⟨_, List.getElem?_eq_getElem hkl⟩
      generalize hgz : wr = W3 at hO hK ⊢
      clear hgz
      obtain ⟨g, o, rfl, hrow0⟩ := hv.out.open (by omega)
      obtain ⟨N, hN⟩ : ∃ N : ByteArray, (⟨nm.toArray⟩ : ByteArray) = N := ⟨_, rfl⟩
      have hNs : strv nm = .string N := by rw [← hN]; rfl
      have hrow : Hid (w.rangeAt g (o + k * 3) [.string N, .int .u32 dr, .slice fp2 full.length fc2]) := Lib.hid (by rw [← hNs]; exact hrow0 k _ hx)
      have hful : Hid (RowsAt 2 peerVals w (.slice fp2 full.length fc2) full) := Lib.hid (hfp.out _ (List.mem_of_getElem? hx))
      have hfl : full.length ≤ 100000000 := hfm.out _ (List.mem_of_getElem? hx)
      have hgw : Hid (g < w.heap.size) := Lib.hid (World.block_lt_of_cell? _ _ (hrow.out 0 _ rfl))
      have hE2 : Hid (∀ a b, (gs ++ [(⟨nm, dr, a, b, full⟩ : FaceE)]).map (fun f => (f.nm, f.dr, f.full)) = (fs.take (k + 1)).map (fun f => (f.nm, f.dr, f.full))) := Lib.hid (fun a b => by rw [List.take_add_one, hx, List.map_append, List.map_append, hE.out]; rfl)
      have hfv : Hid (∀ a b, (FaceE.mk nm dr a b full).vals = [.string N, .int .u32 dr, .slice a full.length b]) := Lib.hid (fun a b => by rw [← hN]; rfl)
      have m1 : (0 : Int) ≤ (k : Int) := by omega
      have m2 : (k : Int) < (fs.length : Int) := by omega
      have hwW : Hid (w.heap.size ≤ W3.heap.size) := Lib.hid hK.out.size
      clear hrow0 hx hE hNs hN
      go_upto_region 5 with fail
      refine wp_region_noPanic ?_
      refine wp_region_held_drew (S := (fun W => Keeps (fun i => W3.heap.size ≤ i) W3 W)) (by kernel_rfl) (((Keeps.refl _ _).drew)) (fun hHeld => ?_)
      have hKd := Lib.hid ((Keeps.refl (fun _ => False) W3).drew)
      have hr3 := Lib.hid (hK.out.rangeAt hrow.out id)
      have hgn : Hid (¬ W3.heap.size ≤ g) := Lib.hid (by have := hgw.out; have := hwW.out; omega)
      generalize hgz : W3.drew = W4 at hHeld hKd ⊢
      clear hgz
      refine tk 0 rfl ?_
      refine tk 1 rfl ?_
      refine tk 2 rfl ?_
      refine tk 3 rfl ?_
      refine tkL 4 rfl (yieldsIf_load_cell (by rfl) 9 (.tmp 16) rfl g (o + k * 3) rfl (.string N) (fun _ s => s.rangeAt hr3.out hgn.out 0 _ rfl) (fun w s => load_str w _ _ _ s)) ?_
      refine tk 5 rfl ?_
      refine tk 6 rfl ?_
      refine tk 7 rfl ?_
      refine tk 8 rfl ?_
      refine tkL 9 rfl (yieldsIf_load_cell (by rfl) 40 (.tmp 21) rfl g (o + k * 3 + 1) rfl (.int .u32 dr) (fun _ s => s.rangeAt hr3.out hgn.out 1 _ rfl) (fun w s => load_u32 w _ _ _ s)) ?_
      refine tk 10 rfl ?_
      have hBn := Lib.hid (BlkAt.new W4 64 [.string ⟨#[]⟩, .int .u32 0, .slice none 0 0])
      have kA := (Keeps.refl (fun _ => False) W4).alloc (.cells #[.string ⟨#[]⟩, .int .u32 0, .slice none 0 0] 64)
      have hKA := Lib.hid (hKd.out.trans kA)
      obtain ⟨b5, hb5⟩ : ∃ b, W4.heap.size = b := ⟨_, rfl⟩
      have hb5w : Hid (W3.heap.size ≤ b5) := Lib.hid (by have := hKd.out.size; omega)
      clear kA
      refine stepL 11 rfl (by kernel_rfl) (fun K hK => ?_)
      go_simp
      refine hK.out _ _ ((hHeld.trans ((Keeps.refl _ _).alloc _))) (fun hHeld => ?_)
      clear hK K
      try simp only [Act.put, sA, sZ, sS]
      rw [hb5] at hBn
      have hth := Lib.hid (hBn.out.there 0 3 (Nat.le_refl _))
      refine stepL 12 rfl (by kernel_rfl) (fun K hK => ?_)
      rw [if_pos (by rfl)]
      (refine wp_store_mid 64 (.tmp 5) (.tmp 23) rfl b5 0 _ rfl rfl hth.out faceInfoH (by simp; exact ⟨rfl, rfl, rfl⟩) ?_)
      refine hK.out _ _ ((hHeld.trans (Keeps.setCells (F := fun i => W3.heap.size ≤ i) (.inl hb5w.out) _ _ _ (Keeps.refl _ _)))) (fun hHeld => ?_)
      clear hK K
      try simp only [Act.put, sA, sZ, sS]
      refine wpAnyH_done (by kernel_rfl) (NoPanic.normal ?_) _
      have hBs := Lib.hid (blk_threeH hBn.out (.string N) (.int .u32 dr) (.slice none 0 0))
      have hKs : Hid (Keeps (fun _ => False) W3 ((W4.alloc (.cells [.string ⟨#[]⟩, .int .u32 0, .slice none 0 0].toArray 64)).setCells b5 0 [.string N, .int .u32 dr, .slice none 0 0])) := Lib.hid (Keeps.trans' (G := fun i => i = b5) hKA.out (Keeps.setCells (F := fun i => i = b5) (.inl rfl) _ _ _ (Keeps.refl _ _)) (fun i e => .inr (by rw [e]; exact hb5w.out)))
      clear hHeld hBn hKA hth hr3 hKd hb5
      generalize hgz : (W4.alloc (.cells [.string ⟨#[]⟩, .int .u32 0, .slice none 0 0].toArray 64)).setCells b5 0 [.string N, .int .u32 dr, .slice none 0 0] = W5 at hBs hKs ⊢
      clear hgz
      have hb5l : Hid (b5 < W5.heap.size) := Lib.hid (lt_of_block hBs.out)
      have hK5 := Lib.hid (hK.out.trans hKs.out)
      go_wp2_with fail
      go_loopw [6] (fun jv ws => ∃ (j : Nat) (qf : Option Addr) (df : Nat), j ≤ full.length ∧ jv = .int .i64 j ∧ Hid (BlkAt ws b5 64 [.string N, .int .u32 dr, .slice qf j df]) ∧ Hid (OwnR 85 2 peerVals W5 ws (.slice qf j df) (full.take j)) ∧ Hid (Keeps (fun _ => False) W3 ws)) (fun jv _ => full.length - (intOf jv).toNat)
      case atStart => exact ⟨0, none, 0, by omega, rfl, hBs, Lib.hid (OwnR.nil _ _ (Nat.le_refl _)), hKs⟩
      case round =>
        obtain ⟨j, qf, df, hj, rfl, hB, hP, hKr⟩ := hrel
        have hr6 := (hK.out.trans hKr.out).rangeAt hrow.out id
        have r2 : wr.cell? ⟨g, o + k * 3 + 2, none⟩ = some (.slice fp2 full.length fc2) := hr6 2 _ rfl
        by_cases hjl : j < full.length
        · obtain ⟨⟨pid, pad⟩, hpx⟩ : ∃ x, full[j]? = some x := ⟨_, List.getElem?_eq_getElem hjl⟩
          obtain ⟨g3, o3, rfl, hrp⟩ := hful.out.open (by omega)
          have hrow3 := Lib.hid (hrp j _ hpx)
          have hta : Hid (full.take (j + 1) = full.take j ++ [⟨pid, pad⟩]) := Lib.hid (by rw [List.take_add_one, hpx]; rfl)
          have hlt : Hid ((full.take j).length = j) := Lib.hid (by rw [List.length_take]; omega)
          have n1 : (0 : Int) ≤ (j : Int) := by omega
          have n2 : (j : Int) < (full.length : Int) := by omega
          have hpo : Hid (∀ u ∈ peerVals ⟨pid, pad⟩, u.oneCell' = true) := Lib.hid (peerVals_one _)
          clear hpx hrp hr6
          go_upto_region 9 with fail
          clear r2
          refine wp_region_noPanic ?_
          refine wp_region_phase (S := fun W => Keeps (fun i => W5.heap.size ≤ i) wr W) 23 (by kernel_rfl) ((Keeps.refl _ _).drew) (fun hHeld => ?_)
          have hf : Hid (∀ W, Keeps (fun i => W5.heap.size ≤ i) wr W → W.cell? ⟨b5, 2, none⟩ = some (.slice qf j df) ∧ W.cell? ⟨g, o + k * 3 + 2, none⟩ = some (.slice (some ⟨g3, o3, none⟩) full.length fc2) ∧ W.cell? ⟨g3, o3 + j * 2, none⟩ = some (.int .u32 pid) ∧ W.cell? ⟨g3, o3 + j * 2 + 1, none⟩ = some (.int .u32 pad)) := Lib.hid (fun W s => by
            have h1 := hb5l.out
            have h2 : g3 < w.heap.size := World.block_lt_of_cell? _ _ (hrow3.out 0 _ rfl)
            have h3 := hgw.out
            have h4 := hK5.out.size
            have k1 := hK.out.trans hKr.out
            exact ⟨(hB.out.keep s (by omega)).cell 2 _ rfl, s.rangeAt (k1.rangeAt hrow.out id) (by omega) 2 _ rfl, s.rangeAt (k1.rangeAt hrow3.out id) (by omega) 0 _ rfl, s.rangeAt (k1.rangeAt hrow3.out id) (by omega) 1 _ rfl⟩)
          have hPd := Lib.hid (hP.out.keep (Keeps.refl (fun _ => False) wr).drew (fun _ _ f => f))
          have hKd := Lib.hid (hKr.out.trans (Keeps.refl (fun _ => False) wr).drew)
          have hBd := Lib.hid (hB.out.keep (Keeps.refl (fun _ => False) wr).drew id)
          have hk5s : Hid (W3.heap.size ≤ W5.heap.size) := Lib.hid hKs.out.size
          clear hP hKr hB
          generalize hgz : wr.drew = W6 at hHeld hPd hKd hBd ⊢
          clear hgz
          refine tkx 0 rfl ?_
          refine tkxL 1 rfl (yieldsIf_load_cell (by rfl) 62 (.tmp 34) rfl b5 2 rfl (.slice qf j df) (fun _ s => (hf.out _ s).1) (fun w s => load_peers2H w _ _ _ s)) ?_
          refine tkx 2 rfl ?_
          refine tkx 3 rfl ?_
          refine tkx 4 rfl ?_
          refine tkx 5 rfl ?_
          refine tkxL 6 rfl (yieldsIf_load_cell (by rfl) 80 (.tmp 39) rfl g (o + k * 3 + 2) rfl (.slice (some ⟨g3, o3, none⟩) full.length fc2) (fun _ s => (hf.out _ s).2.1) (fun w s => load_peersH w _ _ _ s)) ?_
          refine tkx 7 rfl ?_
          refine tkx 8 rfl ?_
          refine tkx 9 rfl ?_
          refine tkxL 10 rfl (yieldsIf_load_cell (by rfl) 40 (.tmp 43) rfl g3 (o3 + j * 2) rfl (.int .u32 pid) (fun _ s => (hf.out _ s).2.2.1) (fun w s => load_u32 w _ _ _ s)) ?_
          refine tkx 11 rfl ?_
          refine tkx 12 rfl ?_
          refine tkx 13 rfl ?_
          refine tkx 14 rfl ?_
          refine tkxL 15 rfl (yieldsIf_load_cell (by rfl) 80 (.tmp 48) rfl g (o + k * 3 + 2) rfl (.slice (some ⟨g3, o3, none⟩) full.length fc2) (fun _ s => (hf.out _ s).2.1) (fun w s => load_peersH w _ _ _ s)) ?_
          refine tkx 16 rfl ?_
          refine tkx 17 rfl ?_
          refine tkx 18 rfl ?_
          refine tkxL 19 rfl (yieldsIf_load_cell (by rfl) 40 (.tmp 52) rfl g3 (o3 + j * 2 + 1) rfl (.int .u32 pad) (fun _ s => (hf.out _ s).2.2.2) (fun w s => load_u32 w _ _ _ s)) ?_
          refine tkx 20 rfl ?_
          have kA := (Keeps.refl (fun _ => False) W6).alloc (.cells #[.int .u32 pid, .int .u32 pad] 85)
          have hPa := Lib.hid (hPd.out.keep kA (fun _ _ f => f))
          have hKa := Lib.hid (hKd.out.trans kA)
          have hBa := Lib.hid (hBd.out.keep kA id)
          have hba := Lib.hid (cells_new (w := W6) rfl (peerVals ⟨pid, pad⟩) 85)
          clear kA hPd hKd hBd
          refine stepXH 21 rfl (by kernel_rfl) rfl (fun K hK2 => ?_)
          go_simp
          refine hK2 _ _ ⟨fun _ s => s.trans ((Keeps.refl _ _).alloc _), ?_⟩
          clear hK2 K
          try simp only [Act.put, sA, sZ, sS]
          refine stepXH 22 rfl (by kernel_rfl) rfl (fun K hK2 => ?_)
          refine wp_append_r (.tmp 35) (.tmp 55) 62 85 rfl i1 _ 8 Tryz.underlying62 hj0 hj1 hj2 hj3 rfl (by decide) (by decide) (fun _ => rfl) W5 (.slice qf j df) j (full.take j) hlt.out rfl hPa.out _ rfl ⟨pid, pad⟩ hba.out hpo.out (by omega) ?_
          intro q8 d8 W8 hO8 hg8
          refine hK2 _ _ ⟨fun _ s => s.trans (hg8.k.mono (G := fun i => W5.heap.size ≤ i) (fun i e => .inl (hPa.out.2.1 i e))), ?_⟩
          clear hK2 K
          try simp only [Act.put, sA, sZ, sS]
          refine wpX_tail _ _ _ _ (allB (by kernel_rfl)) ?_
          have hK8 := Lib.hid (hKa.out.trans' hg8.k (fun i e => .inr (by have := hPa.out.2.1 i e; have := hk5s.out; omega)))
          have hB8 := Lib.hid (hBa.out.keep hg8.k (fun e => by have := hPa.out.2.1 b5 e; have := hb5l.out; omega))
          have hO8' := Lib.hid hO8
          have q1 := hB8.out.cell 2 _ rfl
          have q2 := hB8.out.frozen 2
          have hB9 := Lib.hid (hB8.out.set 2 (.slice q8 (j + 1) d8))
          have ks : Keeps (fun i => i = b5) W8 (W8.setCell ⟨b5, 2, none⟩ (.slice q8 (j + 1) d8)) := Keeps.setCell (F := fun i => i = b5) (Keeps.refl _ _) (.inl rfl) _
          have hP9 := Lib.hid (hO8.keep ks (fun i e e2 => by have := hO8.2.1 i e; have := hb5l.out; omega))
          have hK9 := Lib.hid (hK8.out.trans' ks (fun i e => .inr (by rw [e]; exact hb5w.out)))
          clear hg8 hO8 hK8 hB8 hPa hKa hBa hba hf ks hHeld
          have hHeld : (fun _ : World => True) W8 := trivial
          refine tk 23 rfl ?_
          refine stepL 24 rfl (by kernel_rfl) (fun K hK => ?_)
          go_simp
          refine hK.out _ _ (trivial) (fun hHeld => ?_)
          clear hK K
          try simp only [Act.put, sA, sZ, sS]
          refine wpAnyH_done (by kernel_rfl) (NoPanic.normal ?_) _
          go_wp2_with fail
          exact ⟨⟨j + 1, q8, d8, by omega, by go_num, hB9, Lib.hid (by rw [hta.out]; exact hP9.out), hK9⟩, by simp [intOf]; omega⟩
        · obtain rfl : j = full.length := by omega
          rw [List.take_length] at hP
          have hR : Hid (RowsAt 2 peerVals wr (.slice qf full.length df) full) := Lib.hid (hP.out.at (fun _ => rfl))
          have hO6 := Lib.hid (hO.out.keep hKr.out)
          have hK6 := Lib.hid (hK.out.trans hKr.out)
          have hPb : Hid (∀ i, (Value.slice qf full.length df).ownBlock = some i → ¬ (Value.slice q k d).ownBlock = some i) := Lib.hid (fun i e e2 => by
            have h1 := hP.out.2.1 i e
            obtain ⟨c1, r1, h⟩ := hO.out.own.type_ i e2
            have h2 := (Array.getElem?_eq_some_iff.1 h).1
            have h3 := hKs.out.size
            omega)
          generalize hgz : wr = W6 at hB hR hO6 hK6 r2 ⊢
          clear hgz hr6 hP hKr hjl hj hBs hKs hb5l hK5 hO hK
          have kA := (Keeps.refl (fun _ => False) W6).alloc (.cells #[.string N, .int .u32 dr, .slice qf full.length df] 64)
          have hOa := Lib.hid (hO6.out.keep kA)
          have hRa := Lib.hid (hR.out.keep kA)
          have hKa := Lib.hid (hK6.out.trans kA)
          have hOo := Lib.hid hOa.out.own
          have hcn : Hid (∀ j u, (FaceE.mk nm dr qf df full).vals[j]? = some u → (W6.alloc (.cells #[.string N, .int .u32 dr, .slice qf full.length df] 64)).cell? ((⟨W6.heap.size, 0, none⟩ : Addr).add j) = some u) := Lib.hid (by
            have h := cells_new (w := W6) rfl (FaceE.mk nm dr qf df full).vals 64
            rw [hfv.out] at h ⊢
            exact h)
          clear kA hO6 hR hK6
          go_wp2_with (first | ((with_reducible refine at_slot 59 ?_); refine wpList_load_mid rfl 64 (.tmp 5) rfl b5 0 rfl [.string N, .int .u32 dr, .slice qf full.length df] _ hB.out.range Tryz.underlying64 rfl faceInfoH ?_) | ((with_reducible refine at_slot 61 ?_); refine wpList_append_r rfl (.tmp 58) (.tmp 60) 32 64 rfl i0 _ 48 Tryz.underlying32 hi0 hi1 hi2 hi3 rfl (by decide) (by decide) face_len w (.slice q k d) k gs hgk rfl hOo.out _ rfl ⟨nm, dr, qf, df, full⟩ hcn.out (face_one _) (by omega) ?_; intro q8 d8 w8 hO8 hg8))
          have hpush := hOa.out.push (e := ⟨nm, dr, qf, df, full⟩) hRa.out (fun _ => hPb.out) hO8.out hg8.out
          exact ⟨⟨k + 1, gs ++ [⟨nm, dr, qf, df, full⟩], q8, d8, by omega, by simp; omega, by go_num, rfl, Lib.hid hpush, Lib.hid (hE2.out qf df), Lib.hid (hKa.out.trans' hg8.out.k (fun i e => .inr (hOo.out.2.1 i e)))⟩, by simp [intOf]; omega⟩
    · obtain rfl : k = fs.length := by omega
      have hE' := hE.out
      rw [List.take_length] at hE'
      have hE2 := Lib.hid hE'
      clear hE hE'
      go_wp2_with fail
      go_ret
      refine ⟨gs, q, d, by rw [hgk]; rfl, by rw [hgk]; exact hO.out.own.at face_len, fun f hf => (hO.out.ok f hf).1, hE2.out, hK.out⟩
end Go.Proofs.YtialookpnoaogaaGreat
/- Of adv: no two interfaces of a configuration without faults have the same address. -/
set_option linter.unusedVariables false
set_option linter.unusedSimpArgs false
namespace Go.Proofs.YtialookpnoaogaaGreat
open Go.RowKit

theorem net_of {ls : List LineD} (hr : rightC ls = true) (hc : checkC ls = []) {n : List UInt8} (hn : n ∈ namesA 2 ls) : ∃ a m, netL (valueR ls 2 n addressL) = some (a, m) := by
  unfold checkC at hc
  simp only [List.append_eq_nil_iff] at hc
  have h3 := hc.1.1.1.1.1.2
  unfold unsetC at h3
  rw [List.flatMap_eq_nil_iff] at h3
  obtain ⟨i, hi⟩ := List.mem_iff_getElem?.1 hn
  have h4 := h3 (n, valueR ls 2 n addressL) (List.mem_iff_getElem?.2 ⟨i, by
    rw [List.getElem?_zip_eq_some]
    refine ⟨hi, ?_⟩
    unfold valuesC
    rw [List.getElem?_map, hi]; rfl⟩)
  have h5 : ¬ valueR ls 2 n addressL = [] := fun e => by rw [if_pos e] at h4; cases h4
  rw [net_value] at h5 ⊢
  cases hs : setR ls 2 n addressL with
  | none => rw [hs] at h5; exact absurd rfl h5
  | some v =>
    obtain ⟨a, m, e⟩ := net_set hr hs
    exact ⟨a, m, e⟩
theorem addrs_unlike {ls : List LineD} (fs : List FaceE) (hr : rightC ls = true) (hc : checkC ls = []) : ((standsC ls fs).map (·.s.addr)).Nodup := by
  have e1 : (standsC ls fs).map (·.s.addr) = (namesA 2 ls).map (fun n => (setD ls n).addr) := by
    unfold standsC
    rw [List.map_map]; rfl
  have hov : overlapsC (namesA 2 ls) (valuesC ls (namesA 2 ls) addressL) = [] := by
    have h := hc
    unfold checkC at h
    simp only [List.append_eq_nil_iff] at h
    exact h.1.1.1.1.2
  unfold overlapsC at hov
  rw [List.flatMap_eq_nil_iff] at hov
  rw [e1, List.Nodup, List.pairwise_map, List.pairwise_iff_getElem]
  intro i j hi hj hij he
  have h1 := hov j (List.mem_range.2 hj)
  unfold overStep at h1
  split at h1
  · cases h1
  · rename_i h2
    apply h2
    rw [List.any_eq_true]
    obtain ⟨a, m, e2⟩ := net_of hr hc (List.getElem_mem hi)
    obtain ⟨b, k, e3⟩ := net_of hr hc (List.getElem_mem hj)
    refine ⟨valueR ls 2 (namesA 2 ls)[i] addressL, ?_, ?_⟩
    · refine List.mem_iff_getElem?.2 ⟨i, ?_⟩
      rw [List.getElem?_take, if_pos hij]
      unfold valuesC
      rw [List.getElem?_map, List.getElem?_eq_getElem hi]; rfl
    · have e4 : (valuesC ls (namesA 2 ls) addressL).getD j [] = valueR ls 2 (namesA 2 ls)[j] addressL := by
        unfold valuesC
        rw [List.getD_eq_getElem?_getD, List.getElem?_map, List.getElem?_eq_getElem hj]; rfl
      rw [e4]
      unfold meetL
      rw [e2, e3]
      have ha : (setD ls (namesA 2 ls)[i]).addr = a := by
        show ((netL (valueR ls 2 (namesA 2 ls)[i] addressL)).getD (0, 0)).1 = a
        rw [e2]; rfl
      have hb : (setD ls (namesA 2 ls)[j]).addr = b := by
        show ((netL (valueR ls 2 (namesA 2 ls)[j] addressL)).getD (0, 0)).1 = b
        rw [e3]; rfl
      rw [ha, hb] at he
      subst he
      simp
end Go.Proofs.YtialookpnoaogaaGreat
/- Of adv: All on both sides, told alike: plain, and the document's rule case. -/
set_option linter.unusedVariables false
set_option linter.unusedSimpArgs false
namespace Go.Proofs.YtialookpnoaogaaGreat
open Go.RowKit

def kF (f : FaceE) : List UInt8 × Nat × List PeerD := (f.nm, f.dr, f.full)
theorem kF_at {gs fs : List FaceE} (h : gs.map kF = fs.map kF) {i : Nat} {f : FaceE} (hf : fs[i]? = some f) : ∃ g, gs[i]? = some g ∧ kF g = kF f := by
  have h1 : (gs.map kF)[i]? = some (kF f) := by rw [h, List.getElem?_map, hf]; rfl
  rw [List.getElem?_map] at h1
  cases hg : gs[i]? with
  | none => rw [hg] at h1; cases h1
  | some g => rw [hg] at h1; injection h1 with h1; exact ⟨g, rfl, h1⟩
theorem faces_same {xs : List (List UInt8)} {gs fs : List FaceE} (h : gs.map kF = fs.map kF) (hg : FacesOk xs gs) : FacesOk xs fs := fun i f hf => by
  obtain ⟨g, h1, h2⟩ := kF_at h hf
  obtain ⟨a1, a2, a3⟩ := hg i g h1
  unfold kF at h2
  injection h2 with e1 e2
  injection e2 with e2 e3
  refine ⟨?_, by rw [← e1]; exact a2, by rw [← e3]; exact a3⟩
  rintro ⟨f2, hf2, e⟩
  apply a1
  obtain ⟨j, hj⟩ := List.mem_iff_getElem?.1 hf2
  have ht : (gs.take i).map kF = (fs.take i).map kF := by rw [List.map_take, List.map_take, h]
  obtain ⟨g2, k1, k2⟩ := kF_at ht hj
  unfold kF at k2
  injection k2 with k2 _
  exact ⟨g2, List.mem_of_getElem? k1, by rw [k2, e, e1]⟩
theorem face_same (n : List UInt8) : ∀ {gs fs : List FaceE}, gs.map kF = fs.map kF → kF (faceFor n gs) = kF (faceFor n fs)
  | [], [], _ => rfl
  | [], f :: fs, h => by simp at h
  | g :: gs, [], h => by simp at h
  | g :: gs, f :: fs, h => by
    rw [List.map_cons, List.map_cons] at h
    injection h with h1 h2
    have ih := face_same n h2
    have e1 : g.nm = f.nm := by unfold kF at h1; injection h1
    unfold faceFor at ih ⊢
    rw [List.find?_cons, List.find?_cons, e1]
    by_cases hn : f.nm = n
    · rw [decide_eq_true hn]
      exact h1
    · rw [decide_eq_false hn]
      exact ih
theorem told_same {me : Nat} {ls : List LineD} {gs fs : List FaceE} (h : gs.map kF = fs.map kF) (d : TellD) : IsTold me (linksC gs) (fullC gs) (standsC ls gs) d ↔ IsTold me (linksC fs) (fullC fs) (standsC ls fs) d := by
  have hs : ∀ n, (standOf ls gs n).s = (standOf ls fs n).s ∧ (standOf ls gs n).dr = (standOf ls fs n).dr ∧ (standOf ls gs n).n = (standOf ls fs n).n ∧ linksC gs (standOf ls gs n) = linksC fs (standOf ls fs n) ∧ fullC gs (standOf ls gs n) = fullC fs (standOf ls fs n) := fun n => by
    have h1 := face_same n h
    unfold kF at h1
    injection h1 with e1 e2
    injection e2 with e2 e3
    have hf : fullC gs (standOf ls gs n) = fullC fs (standOf ls fs n) := by rw [fullC_of, fullC_of, e3]
    refine ⟨rfl, e2, ?_, ?_, hf⟩
    · show (faceFor n gs).full.length = (faceFor n fs).full.length
      rw [e3]
    · unfold linksC
      rw [hf]
      show linksS (setD ls n) (faceFor n gs).dr _ = linksS (setD ls n) (faceFor n fs).dr _
      rw [e2]
  have ha : ∀ a, areaLinks (linksC gs) (standsC ls gs) a = areaLinks (linksC fs) (standsC ls fs) a := fun a => by
    unfold areaLinks standsC
    rw [List.filter_map, List.filter_map, List.flatMap_map, List.flatMap_map]
    have e1 : ((fun x : StandR => decide (x.s.area = a)) ∘ standOf ls gs) = ((fun x : StandR => decide (x.s.area = a)) ∘ standOf ls fs) := by funext n; rfl
    have e2 : (fun n => linksC gs (standOf ls gs n)) = (fun n => linksC fs (standOf ls fs n)) := by funext n; exact (hs n).2.2.2.1
    rw [e1, e2]
  have hr : ∀ a, routD me (linksC gs) (standsC ls gs) a = routD me (linksC fs) (standsC ls fs) a := fun a => by unfold routD; rw [ha]
  have hn : ∀ n, netD me (fullC gs) (standOf ls gs n) = netD me (fullC fs) (standOf ls fs n) := fun n => by
    unfold netD
    rw [(hs n).2.2.2.2]; rfl
  unfold IsTold
  constructor
  · rintro (⟨x, hx, rfl⟩ | ⟨x, hx, h1, rfl⟩)
    · obtain ⟨n, hn1, rfl⟩ := List.mem_map.1 hx
      exact .inl ⟨standOf ls fs n, List.mem_map.2 ⟨n, hn1, rfl⟩, hr _⟩
    · obtain ⟨n, hn1, rfl⟩ := List.mem_map.1 hx
      refine .inr ⟨standOf ls fs n, List.mem_map.2 ⟨n, hn1, rfl⟩, ?_, hn n⟩
      rw [← (hs n).1, ← (hs n).2.1, ← (hs n).2.2.1]; exact h1
  · rintro (⟨x, hx, rfl⟩ | ⟨x, hx, h1, rfl⟩)
    · obtain ⟨n, hn1, rfl⟩ := List.mem_map.1 hx
      exact .inl ⟨standOf ls gs n, List.mem_map.2 ⟨n, hn1, rfl⟩, (hr _).symm⟩
    · obtain ⟨n, hn1, rfl⟩ := List.mem_map.1 hx
      refine .inr ⟨standOf ls gs n, List.mem_map.2 ⟨n, hn1, rfl⟩, ?_, (hn n).symm⟩
      rw [(hs n).1, (hs n).2.1, (hs n).2.2.1]; exact h1
theorem docRow_len (me a : Nat) (ls : List LinkD) (out : List TellD) : (docRow me a ls out).length ≤ out.length + 1 := by
  unfold docRow
  split
  · rw [List.length_map]; omega
  · rw [List.length_append]; simp
theorem docAll_len (me : Nat) (lk : StandR → List LinkD) (pf : StandR → List PeerD) (xs : List StandR) : (docAll me lk pf xs).length ≤ 2 * xs.length := by
  have key : ∀ (xs : List StandR) (out : List TellD), (xs.foldl (docStep me lk pf) out).length ≤ out.length + 2 * xs.length := by
    intro xs
    induction xs with
    | nil => intro out; simp
    | cons x xs ih =>
      intro out
      rw [List.foldl_cons]
      have h1 := ih (docStep me lk pf out x)
      have h2 : (docStep me lk pf out x).length ≤ out.length + 2 := by
        unfold docStep
        rw [List.length_append]
        have := docRow_len me x.s.area (lk x) out
        split
        · simp; omega
        · simp; omega
      rw [List.length_cons]
      omega
  have := key xs []
  simpa [docAll] using this
theorem netIds_len (me : Nat) (ps : List PeerD) : (netIds me ps).length ≤ 1 + ps.length := by
  have key : ∀ (ps : List PeerD) (l : List Nat), (ps.foldl (fun l p => insN l p.id) l).length ≤ l.length + ps.length := by
    intro ps
    induction ps with
    | nil => intro l; simp
    | cons p ps ih =>
      intro l
      rw [List.foldl_cons, List.length_cons]
      have h1 := ih (insN l p.id)
      have h2 := insN_len l p.id
      omega
  exact key ps [me]
theorem nodup_of_map : ∀ {D : List TellD}, (D.map keyD).Nodup → D.Nodup
  | [], _ => List.nodup_nil
  | d :: D, h => by
    rw [List.map_cons, List.nodup_cons] at h
    rw [List.nodup_cons]
    exact ⟨fun hd => h.1 (List.mem_map.2 ⟨d, hd, rfl⟩), nodup_of_map h.2⟩
/-! what is told, in order -/
theorem ltD_tr {x y z : TellD} (h1 : ltD x y) (h2 : ltD y z) : ltD x z := by unfold ltD at *; omega
theorem ins_told : ∀ (T : List TellD) (d : TellD), T.Pairwise ltD → (∀ t ∈ T, keyD t ≠ keyD d) → ∃ T' : List TellD, T'.Pairwise ltD ∧ ∀ x, x ∈ T' ↔ x = d ∨ x ∈ T
  | [], d, _, _ => ⟨[d], by simp, fun x => by simp⟩
  | a :: T, d, h, hn => by
    rw [List.pairwise_cons] at h
    by_cases hl : ltD d a
    · refine ⟨d :: a :: T, ?_, fun x => by simp⟩
      rw [List.pairwise_cons, List.pairwise_cons]
      refine ⟨fun y hy => ?_, h⟩
      rcases List.mem_cons.1 hy with rfl | hy
      · exact hl
      · exact ltD_tr hl (h.1 y hy)
    · have hl2 : ltD a d := by
        have hk := hn a List.mem_cons_self
        unfold keyD at hk
        unfold ltD at hl ⊢
        simp only [ne_eq, Prod.mk.injEq, not_and] at hk
        by_cases e1 : a.area = d.area
        · by_cases e2 : a.type = d.type
          · have := hk e1 e2
            omega
          · omega
        · omega
      obtain ⟨T', h1, h2⟩ := ins_told T d h.2 (fun t ht => hn t (List.mem_cons_of_mem _ ht))
      refine ⟨a :: T', ?_, fun x => ?_⟩
      · rw [List.pairwise_cons]
        refine ⟨fun y hy => ?_, h1⟩
        rcases (h2 y).1 hy with rfl | hy
        · exact hl2
        · exact h.1 y hy
      · rw [List.mem_cons, h2, List.mem_cons]
        constructor
        · rintro (h | h | h)
          · exact .inr (.inl h)
          · exact .inl h
          · exact .inr (.inr h)
        · rintro (h | h | h)
          · exact .inr (.inl h)
          · exact .inl h
          · exact .inr (.inr h)
theorem sort_told : ∀ (D : List TellD), (D.map keyD).Nodup → ∃ T : List TellD, T.Pairwise ltD ∧ ∀ x, x ∈ T ↔ x ∈ D
  | [], _ => ⟨[], by simp, fun x => by simp⟩
  | d :: D, h => by
    rw [List.map_cons, List.nodup_cons] at h
    obtain ⟨T, h1, h2⟩ := sort_told D h.2
    obtain ⟨T', h3, h4⟩ := ins_told T d h1 (fun t ht e => h.1 (List.mem_map.2 ⟨t, (h2 t).1 ht, e⟩))
    exact ⟨T', h3, fun x => by rw [h4, h2, List.mem_cons]⟩
/-- what All tells, whichever side -/
def AllR15 (T : List TellD) (f : Nat) (w : World) (e : Ending) (w' : World) : Prop :=
  ∃ (zs : List (OwnE × TellD)) (p : Option Addr) (c : Nat), e = .returned (.tuple #[.slice p zs.length c, .int .i64 f]) ∧ RowsAt 10 OwnE.vals w' (.slice p zs.length c) (zs.map (·.1)) ∧ (∀ z ∈ zs, OwnOf w' z.1 z.2) ∧ zs.map (·.2) = T ∧ Keeps (fun _ => False) w w'
theorem told_R {T : List TellD} {me : Nat} {lk : StandR → List LinkD} {pf : StandR → List PeerD} {xs : List StandR} {w w' : World} {e : Ending} (h : ToldPost me lk pf xs w e w') (h1 : T.Pairwise ltD) (h2 : ∀ d, d ∈ T ↔ IsTold me lk pf xs d) : AllR15 T 0 w e w' := by
  obtain ⟨zs, p, c, he, hr, ho, hm, hp, hk⟩ := h
  exact ⟨zs, p, c, he, hr, ho, told_ext hp h1 (fun z => by rw [hm, h2]), hk⟩
theorem none_R {f : Nat} {w w' : World} {e : Ending} (h : NewRes (.tuple #[.slice none 0 0, .int .i64 f]) w e w') : AllR15 [] f w e w' :=
  ⟨[], none, 0, h.1, RowsAt.nil _, (fun z hz => by cases hz), rfl, h.2⟩
set_option maxRecDepth 100000 in
set_option maxHeartbeats 8000000 in
theorem ref15All_rule (v fv : Value) (ls : List LineD) (w : World) (hv : Hid (RowsAt 4 lineVals w v ls)) (hr : Hid (rightC ls = true)) (hc : Hid (checkC ls ≠ [])) :
    Calls Tryz.prog 9 #[v, fv] w (NewRes (.tuple #[.slice none 0 0, .int .i64 7]) w) := by
  obtain ⟨p, c, rfl⟩ := hv.out.slice
  have hlen := right_len hr.out
  have hlt := Lib.hid (right_lt hr.out 8796093022000 (by omega))
  have hri := Lib.hid (rRight_c _ ls true w (Lib.hid hv.out.lines) (by omega) hlt hr)
  go_enter Tryz.func9, Tryz.ntmps9
  go_wp2_with fail
  refine hri.out.mono ?_
  rintro e w1 ⟨rfl, hk1⟩
  have hch := Lib.hid (r8Check_c _ ls w1 (Lib.hid (hv.out.keep hk1)) hr)
  rw [doc_same hr.out] at hch
  have hk1' := Lib.hid hk1
  obtain ⟨m, hm⟩ : ∃ m, (checkC ls).length = m + 1 := by
    have h := hc.out
    cases hx : checkC ls with
    | nil => exact absurd hx h
    | cons a l => exact ⟨l.length, rfl⟩
  clear hri hk1
  go_wp2_with fail
  refine hch.out.mono ?_
  rintro e w2 ⟨p2, c2, rfl, hO, hk2⟩
  rw [hm] at hO ⊢
  have l1 : (0 : Int) < ((m + 1 : Nat) : Int) := by omega
  have hk2' := Lib.hid (hk1'.out.trans hk2)
  clear hch hO hk2 hk1' hm
  go_wp2_with fail
  go_ret2
  exact ⟨rfl, hk2'.out⟩
/-- both sides' All tell alike -/
theorem all_both (ls : List LineD) (gs fs : List FaceE) (hr : rightC ls = true) (hs : gs.map kF = fs.map kF) (hfl : fs.length ≤ 12) (hfm : ∀ f ∈ fs, f.full.length ≤ 100000000) :
    ∃ (T : List TellD) (f : Nat), (∀ d ∈ T, d.links.length ≤ 1000 ∧ d.nums.length ≤ 1000) ∧ T.length ≤ 1000
      ∧ (∀ v fv W, RowsAt 4 lineVals W v ls → RowsAt 3 FaceE.vals W fv gs → (∀ f ∈ gs, RowsAt 2 peerVals W (.slice f.p f.full.length f.c) f.full) → Calls Tryz.prog 6 #[v, fv] W (AllR15 T f W))
      ∧ (∀ v fv W, RowsAt 4 lineVals W v ls → RowsAt 3 FaceE.vals W fv fs → (∀ f ∈ fs, RowsAt 2 peerVals W (.slice f.p f.full.length f.c) f.full) → Calls Tryz.prog 9 #[v, fv] W (AllR15 T f W)) := by
  have hgl : gs.length ≤ 12 := by have := congrArg List.length hs; rw [List.length_map, List.length_map] at this; omega
  by_cases hc : checkC ls = []
  · by_cases hok : FacesOk (namesA 2 ls) fs
    · have hokg := faces_same hs.symm hok
      have hUf := addrs_unlike fs hr hc
      have hUg := addrs_unlike gs hr hc
      obtain ⟨hm, hn⟩ := docAll_told (meOf ls) (linksC fs) (fullC fs) (standsC ls fs) hUf (standsC ls fs).length (Nat.le_refl _)
      rw [List.take_length] at hm hn
      obtain ⟨T, h1, h2⟩ := sort_told _ hn
      have h3 : ∀ d, d ∈ T ↔ IsTold (meOf ls) (linksC fs) (fullC fs) (standsC ls fs) d := fun d => by rw [h2, hm]
      have hT : T.length ≤ 1000 := by
        have e1 : T.Nodup := h1.imp (fun {a b} h e => by subst e; exact ltD_irr a h)
        have e2 : (docAll (meOf ls) (linksC fs) (fullC fs) (standsC ls fs)).Nodup := nodup_of_map hn
        have e3 : T.Perm (docAll (meOf ls) (linksC fs) (fullC fs) (standsC ls fs)) := (List.perm_ext_iff_of_nodup e1 e2).2 h2
        have e4 := docAll_len (meOf ls) (linksC fs) (fullC fs) (standsC ls fs)
        have e5 : (standsC ls fs).length = (namesA 2 ls).length := by unfold standsC; rw [List.length_map]
        have e6 := namesA_len 2 ls
        have e7 := right_len hr
        rw [e3.length_eq]
        omega
      refine ⟨T, 0, fun d hd => ?_, hT, fun v fv W a1 a2 a3 => ?_, fun v fv W a1 a2 a3 => ?_⟩
      · rcases (h3 d).1 hd with ⟨x, -, rfl⟩ | ⟨x, hx, -, rfl⟩
        · refine ⟨?_, Nat.zero_le _⟩
          show (List.take 40 _).length ≤ 1000
          rw [List.length_take]; omega
        · refine ⟨Nat.zero_le _, ?_⟩
          obtain ⟨n, -, rfl⟩ := List.mem_map.1 hx
          show (netIds _ (fullC fs (standOf ls fs n))).length ≤ 1000
          rw [fullC_of]
          have := full_len hok n
          have := netIds_len (meOf ls) (faceFor n fs).full
          omega
      · exact (advAll_told v fv ls gs (meOf ls) W (Lib.hid a1) (Lib.hid hr) (Lib.hid hc) (Lib.hid a2) (by omega) (Lib.hid a3) (Lib.hid hokg) (Lib.hid rfl) (Lib.hid hUg)).mono fun e W' h => told_R h h1 (fun d => by rw [h3, told_same hs])
      · exact (ref15All_any v fv ls fs (meOf ls) W (Lib.hid a1) (Lib.hid hr) (Lib.hid hc) (Lib.hid a2) (by omega) (Lib.hid a3) (Lib.hid (fun f hf => by have := hfm f hf; omega)) (Lib.hid rfl) (Lib.hid hUf)).mono fun e W' h => told_R (h.1 hok) h1 h3
    · refine ⟨[], 1, fun d hd => (by cases hd), by simp, fun v fv W a1 a2 a3 => ?_, fun v fv W a1 a2 a3 => ?_⟩
      · exact (advAll_arg v fv ls gs W (Lib.hid a1) (Lib.hid hr) (Lib.hid hc) (Lib.hid a2) (by omega) (Lib.hid (fun h => hok (faces_same hs h)))).mono fun e W' h => none_R h
      · exact (ref15All_any v fv ls fs (meOf ls) W (Lib.hid a1) (Lib.hid hr) (Lib.hid hc) (Lib.hid a2) (by omega) (Lib.hid a3) (Lib.hid (fun f hf => by have := hfm f hf; omega)) (Lib.hid rfl) (Lib.hid (addrs_unlike fs hr hc))).mono fun e W' h => none_R (h.2 hok)
  · refine ⟨[], 7, fun d hd => (by cases hd), by simp, fun v fv W a1 a2 a3 => ?_, fun v fv W a1 a2 a3 => ?_⟩
    · exact (advAll_rule v fv ls W (Lib.hid a1) (Lib.hid hr) (Lib.hid hc)).mono fun e W' h => none_R h
    · exact (ref15All_rule v fv ls W (Lib.hid a1) (Lib.hid hr) (Lib.hid hc)).mono fun e W' h => none_R h
end Go.Proofs.YtialookpnoaogaaGreat
/- Of adv: the document's Same, of rows that tell the same. -/
set_option linter.unusedVariables false
set_option linter.unusedSimpArgs false
namespace Go.Proofs.YtialookpnoaogaaGreat
open Go.RowKit

theorem links_self15 : ∀ l : List LinkD, linksEq l l = true
  | [] => rfl
  | a :: l => by unfold linksEq; rw [links_self15 l]; simp [linkEq]
theorem nums_self15 : ∀ l : List Nat, numsEq l l = true
  | [] => rfl
  | a :: l => by unfold numsEq; rw [nums_self15 l]; simp
theorem r10LsaInfo15 : (Tryz.prog.info? 94).map (·.size) = some 9 := by kernel_rfl
set_option maxRecDepth 100000 in
set_option maxHeartbeats 8000000 in
theorem ref15Same_yes (v1 v2 : Value) (zs1 zs2 : List (OwnE × TellD)) (w : World) (hv1 : Hid (RowsAt 10 OwnE.vals w v1 (zs1.map (·.1)))) (hv2 : Hid (RowsAt 10 OwnE.vals w v2 (zs2.map (·.1)))) (hl : zs1.length ≤ 1000) (he : zs1.map (·.2) = zs2.map (·.2))
    (hz1 : Hid (∀ z ∈ zs1, OwnOf w z.1 z.2 ∧ z.2.links.length ≤ 1000 ∧ z.2.nums.length ≤ 1000)) (hz2 : Hid (∀ z ∈ zs2, OwnOf w z.1 z.2)) :
    Calls Tryz.prog 11 #[v1, v2] w (NewRes (.bool true) w) := by
  obtain ⟨pa, ca, rfl⟩ := hv1.out.slice
  obtain ⟨pb, cb, rfl⟩ := hv2.out.slice
  have hln : zs2.length = zs1.length := by have := congrArg List.length he; rw [List.length_map, List.length_map] at this; omega
  rw [List.length_map] at hv1 hv2 ⊢
  rw [List.length_map, hln]
  rw [hln] at hv2
  have he' := Lib.hid he
  clear he
  go_enter Tryz.func11, Tryz.ntmps11
  go_wp2_with fail
  go_loopw [5] (fun iv wr => ∃ (k : Nat), k ≤ zs1.length ∧ iv = .int .i64 k ∧ Hid (Keeps (fun _ => False) w wr)) (fun iv _ => zs1.length - (intOf iv).toNat)
  case atStart => exact ⟨0, by omega, rfl, Lib.hid (Keeps.refl _ _)⟩
  case round =>
    obtain ⟨k, hk, rfl, hK⟩ := hrel
    by_cases hkl : k < zs1.length
    · obtain ⟨⟨⟨ar, ty, ix, me, p5, n5, c5, mk, p7, n7, c7⟩, D⟩, hx⟩ : ∃ x, zs1[k]? = some x := ⟨_, List.getElem?_eq_getElem hkl⟩
      obtain ⟨⟨⟨ar2, ty2, ix2, me2, r5, o5, d5, mk2, r7, o7, d7⟩, D2⟩, hy⟩ : ∃ x, zs2[k]? = some x := ⟨_, List.getElem?_eq_getElem (by omega)⟩
      have hDD : D2 = D := by
        have h := congrArg (fun l => l[k]?) he'.out
        simp only [List.getElem?_map, hx, hy, Option.map_some, Option.some.injEq] at h
        exact h.symm
      subst hDD
      obtain ⟨g, o, rfl, hrow0⟩ := hv1.out.open (by rw [List.length_map]; omega)
      obtain ⟨g2, o2, rfl, hrow2⟩ := hv2.out.open (by rw [List.length_map]; omega)
      have hr1 := Lib.hid (hK.out.rangeAt (hrow0 k (OwnE.mk ar ty ix me p5 n5 c5 mk p7 n7 c7) (by rw [List.getElem?_map, hx]; rfl)) id)
      have hr2 := Lib.hid (hK.out.rangeAt (hrow2 k (OwnE.mk ar2 ty2 ix2 me2 r5 o5 d5 mk2 r7 o7 d7) (by rw [List.getElem?_map, hy]; rfl)) id)
      obtain ⟨hx1, hx2, hx3⟩ := hz1.out _ (List.mem_of_getElem? hx)
      have hy1 := hz2.out _ (List.mem_of_getElem? hy)
      have hx2 : D2.links.length ≤ 1000 := hx2
      have hx3 : D2.nums.length ≤ 1000 := hx3
      have hL1 := Lib.hid (hx1.links.keep hK.out)
      have hN1 := Lib.hid (hx1.nums.keep hK.out)
      have hL2 := Lib.hid (hy1.links.keep hK.out)
      have hN2 := Lib.hid (hy1.nums.keep hK.out)
      obtain ⟨a1, a2, a3, a4, a5, a6, a7, -, -⟩ := hx1
      obtain ⟨b1, b2, b3, b4, b5, b6, b7, -, -⟩ := hy1
      obtain ⟨Da, Dt, Di, Dm, Dk, Dl, Dn⟩ := D2
      have hx2 : Dl.length ≤ 1000 := hx2
      have hx3 : Dn.length ≤ 1000 := hx3
      obtain rfl : ar = Da := a1
      obtain rfl : ty = Dt := a2
      obtain rfl : ix = Di := a3
      obtain rfl : me = Dm := a4
      obtain rfl : mk = Dk := a5
      obtain rfl : n5 = Dl.length := a6
      obtain rfl : n7 = Dn.length := a7
      obtain rfl : ar2 = ar := b1
      obtain rfl : ty2 = ty := b2
      obtain rfl : ix2 = ix := b3
      obtain rfl : me2 = me := b4
      obtain rfl : mk2 = mk := b5
      obtain rfl : o5 = Dl.length := b6
      obtain rfl : o7 = Dn.length := b7
      have m1 : (0 : Int) ≤ (k : Int) := by omega
      have m2 : (k : Int) < (zs1.length : Int) := by omega
      have z1 : ((ar2 : Int) != (ar2 : Int)) = false := by simp
      clear hrow0 hrow2 hx hy
      go_upto_region 6 with fail
      refine wp_region_noPanic ?_
      refine wp_region_held_drew (S := (fun W => Keeps (fun _ => False) wr W)) (by kernel_rfl) (((Keeps.refl _ _).drew)) (fun hHeld => ?_)
      have kd := (Keeps.refl (fun _ => False) wr).drew
      have hLa := Lib.hid (hL1.out.keep kd)
      have hNa := Lib.hid (hN1.out.keep kd)
      have hLb := Lib.hid (hL2.out.keep kd)
      have hNb := Lib.hid (hN2.out.keep kd)
      clear kd hL1 hN1 hL2 hN2
      generalize wr.drew = W2 at hHeld hLa hNa hLb hNb ⊢
      have hsa := Lib.hid (r10Same_any 0 ty2 (-2147483647) 0 0 ty2 (-2147483647) 0 ix2 me2 mk2 ix2 me2 mk2 Dl Dl Dn Dn p5 p7 r5 r7 c5 c7 d5 d7 true W2 (by omega) (by omega) (by omega) (by omega) hLa hLb hNa hNb (Lib.hid (by simp [sameB, alikeB, keyEq, links_self15, nums_self15])))
      refine tk 0 rfl ?_
      refine tk 1 rfl ?_
      refine tk 2 rfl ?_
      refine tk 3 rfl ?_
      refine tkL 4 rfl (yieldsIf_load_cell (by rfl) 40 (.tmp 20) rfl g (o + k * 10 + 0) rfl (.int .u32 ar2) (fun _ s => s.rangeAt hr1.out id 0 _ rfl) (fun w s => load_u32 w _ _ _ s)) ?_
      refine tk 5 rfl ?_
      refine tk 6 rfl ?_
      refine tk 7 rfl ?_
      refine tk 8 rfl ?_
      refine tkL 9 rfl (yieldsIf_load_cell (by rfl) 40 (.tmp 25) rfl g2 (o2 + k * 10 + 0) rfl (.int .u32 ar2) (fun _ s => s.rangeAt hr2.out id 0 _ rfl) (fun w s => load_u32 w _ _ _ s)) ?_
      refine tk 10 rfl ?_
      refine tk 11 rfl ?_
      refine tk 12 rfl ?_
      refine tk 13 rfl ?_
      refine tk 14 rfl ?_
      refine tk 15 rfl ?_
      refine tkL 16 rfl (yieldsIf_load_mid (by rfl) 94 (.tmp 32) rfl g (o + k * 10 + 1) rfl [.int .i64 0, .int .i64 ty2, .int .u32 ix2, .int .u32 me2, .int .i64 (-2147483647), .slice p5 Dl.length c5, .int .u32 mk2, .slice p7 Dn.length c7, .int .i64 0] _ (fun _ s => fun j u hu => by have := s.rangeAt hr1.out id (j + 1) u hu; rw [Nat.add_assoc _ 1 j, Nat.add_comm 1 j]; exact this) Tryz.underlying94 rfl r10LsaInfo15) ?_
      refine tk 17 rfl ?_
      refine tk 18 rfl ?_
      refine tk 19 rfl ?_
      refine tk 20 rfl ?_
      refine tkL 21 rfl (yieldsIf_load_mid (by rfl) 94 (.tmp 37) rfl g2 (o2 + k * 10 + 1) rfl [.int .i64 0, .int .i64 ty2, .int .u32 ix2, .int .u32 me2, .int .i64 (-2147483647), .slice r5 Dl.length d5, .int .u32 mk2, .slice r7 Dn.length d7, .int .i64 0] _ (fun _ s => fun j u hu => by have := s.rangeAt hr2.out id (j + 1) u hu; rw [Nat.add_assoc _ 1 j, Nat.add_comm 1 j]; exact this) Tryz.underlying94 rfl r10LsaInfo15) ?_
      refine stepL 22 rfl (by kernel_rfl) (fun K hK => ?_)
      go_simp
      (refine hsa.out.mono ?_; rintro e W3 ⟨rfl, k3⟩)
      go_wp2_with fail
      refine hK.out _ _ ((hHeld.trans k3)) (fun hHeld => ?_)
      clear hK K
      try simp only [Act.put, sA, sZ, sS]
      refine tk 23 rfl ?_
      refine tk 24 rfl ?_
      refine wpAnyH_done (by kernel_rfl) (NoPanic.normal ?_) _
      have hK3 := Lib.hid (hK.out.trans hHeld)
      clear hHeld hsa hK
      go_wp2_with fail
      exact ⟨⟨k + 1, by omega, by go_num, hK3⟩, by simp [intOf]; omega⟩
    · go_wp2_with fail
      go_ret
      exact ⟨rfl, hK.out⟩
end Go.Proofs.YtialookpnoaogaaGreat
/- Of adv's law: tells. -/
set_option linter.unusedVariables false
set_option linter.unusedSimpArgs false
namespace Go.Proofs.YtialookpnoaogaaGreat
open Go.RowKit

def cT : List LineD := [⟨0, [], [114, 111, 117, 116, 101, 114, 45, 105, 100], [57, 46, 57, 46, 57, 46, 57]⟩, ⟨2, [101], [97, 100, 100, 114, 101, 115, 115], [49, 48, 46, 48, 46, 48, 46, 49, 47, 50, 52]⟩, ⟨2, [101], [97, 114, 101, 97], [48, 46, 48, 46, 48, 46, 48]⟩]
theorem cT_ok : rightC cT = true ∧ checkC cT = [] ∧ namesA 2 cT = [[101]] ∧ meOf cT = 151587081 := by decide +kernel
theorem cT_set : (setD cT [101]).two = false ∧ (setD cT [101]).area = 0 ∧ netL15 (setD cT [101]) = ⟨167772160, 4294967040, 3, 10⟩ := by
  refine ⟨by decide +kernel, by decide +kernel, ?_⟩
  have h : (netL15 (setD cT [101])).id = 167772160 ∧ (netL15 (setD cT [101])).data = 4294967040 ∧ (netL15 (setD cT [101])).type = 3 ∧ (netL15 (setD cT [101])).cost = 10 := by decide +kernel
  generalize netL15 (setD cT [101]) = L at h
  obtain ⟨a, b, c, d⟩ := L
  obtain ⟨h1, h2, h3, h4⟩ := h
  simp only at h1 h2 h3 h4
  rw [h1, h2, h3, h4]
theorem cT_rows (w : World) : RowsAt 4 lineVals (w.alloc (.cells (rowCells lineVals cT).toArray 79)) (.slice (some ⟨w.heap.size, 0, none⟩) 3 3) cT :=
  ⟨_, _, rfl, (fun e => by cases e), Nat.le_refl _, fun _ => ⟨_, _, rfl, fun i x hx j u hu => by
    have hc := (BlkAt.new w 79 (rowCells lineVals cT)).range (i * 4 + j) u (by rw [rowCells_get lineVals_len cT i x hx j (by have := (List.getElem?_eq_some_iff.1 hu).1; rw [lineVals_len] at this; exact this)]; exact hu)
    rw [Nat.zero_add] at hc ⊢
    exact hc⟩⟩
set_option maxRecDepth 100000 in
set_option maxHeartbeats 8000000 in
theorem tells_yes (w : World) : Calls Tryz.prog 10 #[] w (NewRes (.bool true) w) := by
  have hrows := Lib.hid (cT_rows w)
  have e0 : (rowCells lineVals cT).toArray = #[.int .i64 0, .string ⟨#[]⟩, .string ⟨#[114, 111, 117, 116, 101, 114, 45, 105, 100]⟩, .string ⟨#[57, 46, 57, 46, 57, 46, 57]⟩, .int .i64 2, .string ⟨#[101]⟩, .string ⟨#[97, 100, 100, 114, 101, 115, 115]⟩, .string ⟨#[49, 48, 46, 48, 46, 48, 46, 49, 47, 50, 52]⟩, .int .i64 2, .string ⟨#[101]⟩, .string ⟨#[97, 114, 101, 97]⟩, .string ⟨#[48, 46, 48, 46, 48, 46, 48]⟩] := rfl
  rw [e0] at hrows
  clear e0
  have hk0 : Hid (Keeps (fun _ => False) w (w.alloc (.cells #[.int .i64 0, .string ⟨#[]⟩, .string ⟨#[114, 111, 117, 116, 101, 114, 45, 105, 100]⟩, .string ⟨#[57, 46, 57, 46, 57, 46, 57]⟩, .int .i64 2, .string ⟨#[101]⟩, .string ⟨#[97, 100, 100, 114, 101, 115, 115]⟩, .string ⟨#[49, 48, 46, 48, 46, 48, 46, 49, 47, 50, 52]⟩, .int .i64 2, .string ⟨#[101]⟩, .string ⟨#[97, 114, 101, 97]⟩, .string ⟨#[48, 46, 48, 46, 48, 46, 48]⟩] 79))) := Lib.hid ((Keeps.refl _ _).alloc _)
  go_enter Tryz.func10, Tryz.ntmps10
  go_wp2_with fail
  generalize (w.alloc (.cells #[.int .i64 0, .string ⟨#[]⟩, .string ⟨#[114, 111, 117, 116, 101, 114, 45, 105, 100]⟩, .string ⟨#[57, 46, 57, 46, 57, 46, 57]⟩, .int .i64 2, .string ⟨#[101]⟩, .string ⟨#[97, 100, 100, 114, 101, 115, 115]⟩, .string ⟨#[49, 48, 46, 48, 46, 48, 46, 49, 47, 50, 52]⟩, .int .i64 2, .string ⟨#[101]⟩, .string ⟨#[97, 114, 101, 97]⟩, .string ⟨#[48, 46, 48, 46, 48, 46, 48]⟩] 79)) = W0 at hrows hk0 ⊢
  obtain ⟨k1, k2, k3, k4⟩ := cT_ok
  obtain ⟨k5, k6, k7⟩ := cT_set
  refine (advAll_one _ cT [101] _ 151587081 _ hrows (Lib.hid k1) (Lib.hid k2) (Lib.hid k3) (Lib.hid rfl) (Lib.hid k5) (by rw [k6]; omega) (Lib.hid k4)).mono ?_
  rintro e w1 ⟨p, c, e1, rfl, hR, f1, f2, f3, f4, f5, f6, f7, f8, f9, hL, hk⟩
  rw [k7] at hL
  rw [k6] at f1
  clear k1 k2 k3 k4 k5 k6 k7
  obtain ⟨area, type, id, me, p5, n5, c5, mask, p7, n7, c7⟩ := e1
  simp only at f1 f2 f3 f4 f5 f6 f7 f8 f9 hL
  subst f1 f2 f3 f4 f5 f6 f7 f8 f9
  obtain ⟨g, o, rfl, hrow0⟩ := hR.open (by simp)
  have hrow1 := hrow0 0 _ rfl
  rw [Nat.zero_mul, Nat.add_zero] at hrow1
  have hrow : Hid (w1.rangeAt g (o + 1) [.int .i64 0, .int .i64 1, .int .u32 (151587081 : Nat), .int .u32 (151587081 : Nat), .int .i64 (-2147483647), .slice p5 1 c5, .int .u32 (0 : Nat), .slice none 0 0, .int .i64 0]) := Lib.hid (fun j u hu => by
    have := hrow1 (1 + j) u (by rw [Nat.add_comm]; exact hu)
    rw [← Nat.add_assoc] at this
    exact this)
  have hL1 := Lib.hid hL
  have hk1 := Lib.hid (hk0.out.trans hk)
  clear hrow0 hrow1 hR hL hk hk0 hrows
  go_wp2_with ((with_reducible refine at_slot 24 ?_); refine wpList_load_mid_gd rfl 75 (.tmp 23) rfl g (o + 1) rfl [.int .i64 0, .int .i64 1, .int .u32 (151587081 : Nat), .int .u32 (151587081 : Nat), .int .i64 (-2147483647), .slice p5 1 c5, .int .u32 (0 : Nat), .slice none 0 0, .int .i64 0] _ hrow.out Tryz.underlying75 rfl lsaInfo15 ?_)
  have hN1 : Hid (NumsAt w1 (.slice none ([] : List Nat).length 0) []) := Lib.hid (NumsAt.nil _)
  refine (lwFrom_any 0 1 (-2147483647) 0 151587081 151587081 0 [⟨167772160, 4294967040, 3, 10⟩] [] p5 none c5 0 w1 (Lib.hid hL1.out) hN1 (by decide) (by decide)).mono ?_
  rintro e w2 ⟨⟨p5', c5', p7', c7', rfl, hL2, hN2⟩, hk2⟩
  have hk2' := Lib.hid (hk1.out.trans hk2)
  have hBk := BlkAt.new w2 98 (linkVals ⟨167772160, 4294967040, 3, 10⟩)
  have hkb := (Keeps.refl (fun _ => False) w2).alloc (.cells (linkVals ⟨167772160, 4294967040, 3, 10⟩).toArray 98)
  have hL3 := Lib.hid (hL2.keep hkb)
  have hN3 := Lib.hid (hN2.keep hkb)
  have hM3 : Hid (LinksAt (w2.alloc (.cells (linkVals ⟨167772160, 4294967040, 3, 10⟩).toArray 98)) (.slice (some ⟨w2.heap.size, 0, none⟩) 1 1) [⟨167772160, 4294967040, 3, 10⟩]) := Lib.hid ⟨_, _, rfl, (fun e => by cases e), Nat.le_refl _, fun _ => ⟨_, _, rfl, fun i x hx => by
    have hi0 : i = 0 := by have := (List.getElem?_eq_some_iff.1 hx).1; simp at this; omega
    subst hi0
    injection hx with hx
    subst hx
    exact hBk.range⟩⟩
  have hkc := Lib.hid (hk2'.out.alloc (.cells (linkVals ⟨167772160, 4294967040, 3, 10⟩).toArray 98))
  have hN4 : Hid (NumsAt (w2.alloc (.cells (linkVals ⟨167772160, 4294967040, 3, 10⟩).toArray 98)) (.slice none ([] : List Nat).length 0) []) := Lib.hid (NumsAt.nil _)
  clear hBk hkb hN1 hL2 hN2 hk2 hk2' hk1
  go_wp2_with fail
  refine (r10Alike_any 0 1 (-2147483647) 0 0 1 0 0 151587081 151587081 0 151587081 151587081 0 [⟨167772160, 4294967040, 3, 10⟩] [⟨167772160, 4294967040, 3, 10⟩] [] [] p5' p7' (some ⟨w2.heap.size, 0, none⟩) none c5' c7' 1 0 true _ (by decide) (by decide) (by decide) (by decide) hL3 hM3 hN3 hN4 (Lib.hid (by decide +kernel))).mono ?_
  rintro e w3 ⟨rfl, hk3⟩
  have hk3' := Lib.hid (hkc.out.trans hk3)
  clear hL3 hM3 hN3 hN4 hkc hk3
  go_wp2_with fail
  go_ret
  exact ⟨rfl, hk3'.out⟩
end Go.Proofs.YtialookpnoaogaaGreat
