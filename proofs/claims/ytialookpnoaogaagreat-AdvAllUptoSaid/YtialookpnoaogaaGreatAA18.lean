/- Of adv: areOf, faceOf. -/
import Derived.Test.YtialookpnoaogaaGreatAA17
import Derived.Test.YtialookpnoaogaaGreatAA08
import Derived.Sort.Grow
import Derived.Sort.Statements
set_option linter.unusedVariables false
set_option linter.unusedSimpArgs false
set_option linter.unusedVariables false
set_option linter.unusedSimpArgs false
namespace Go.Proofs.YtialookpnoaogaaGreat
open Go.RowKit

/-- is a face of an interface, of none ahead, with no more neighbors than can be? -/
def FaceOk (xs : List (List UInt8)) (fs : List FaceE) (i : Nat) (f : FaceE) : Prop := ¬ (∃ g ∈ fs.take i, g.nm = f.nm) ∧ f.nm ∈ xs ∧ f.full.length ≤ 8
def FacesOk (xs : List (List UInt8)) (fs : List FaceE) : Prop := ∀ i f, fs[i]? = some f → FaceOk xs fs i f
theorem faceZ : ((#[.string ⟨#[]⟩, .int .u32 0, .slice none 0 0] : Array Value)).size = 3 := rfl
set_option maxRecDepth 100000 in
set_option maxHeartbeats 8000000 in
theorem areOf_any (u v : Value) (xs : List (List UInt8)) (fs : List FaceE) (z : Bool) (w : World) (hu : Hid (StrsAt w u xs)) (hxl : xs.length ≤ 1000000) (hv : Hid (RowsAt 3 FaceE.vals w v fs)) (hl : fs.length ≤ 1000000) (hz : Hid ((z = true) ↔ FacesOk xs fs)) :
    Calls Tryz.prog 20 #[u, v] w (NewRes (.bool z) w) := by
  obtain ⟨p, c, rfl⟩ := hv.out.slice
  go_enter Tryz.func20, Tryz.ntmps20
  go_wp2_with fail
  go_loopw [10] (fun iv wr => ∃ (k : Nat), k ≤ fs.length ∧ iv = .int .i64 k ∧ Hid (∀ i f, i < k → fs[i]? = some f → FaceOk xs fs i f) ∧ Hid (Keeps (fun _ => False) w wr)) (fun iv _ => fs.length - (intOf iv).toNat)
  case atStart => exact ⟨0, by omega, rfl, Lib.hid (fun i f hi => by omega), Lib.hid (Keeps.refl _ _)⟩
  case round =>
    obtain ⟨k, hk, rfl, hU, hK⟩ := hrel
    by_cases hlk : k < fs.length
    · obtain ⟨f, hx⟩ : ∃ x, fs[k]? = some x := ⟨_, List.getElem?_eq_getElem hlk⟩
      obtain ⟨g, o, rfl, hr⟩ := hv.out.open (by omega)
      have hr2 := Lib.hid (hK.out.rangeAt (hr k f hx) id)
      have hx' := Lib.hid hx
      obtain ⟨N, hN⟩ : ∃ N : ByteArray, (⟨f.nm.toArray⟩ : ByteArray) = N := ⟨_, rfl⟩
      have hNs : strv f.nm = .string N := by rw [← hN]; rfl
      have hNl : N.data.toList = f.nm := by rw [← hN]
      obtain ⟨L, hL⟩ : ∃ L, f.vals = L := ⟨_, rfl⟩
      have hLL : L.toArray = #[.string N, .int .u32 f.dr, .slice f.p f.full.length f.c] := by rw [← hL, ← hNs]; rfl
      have hLe : L = [.string N, .int .u32 f.dr, .slice f.p f.full.length f.c] := by rw [← hL, ← hNs]; rfl
      rw [hL, hLe] at hr2
      have hL1 : Hid ((#[.string N, .int .u32 f.dr, .slice f.p f.full.length f.c] : Array Value).all (·.oneCell') = true) := Lib.hid (by simp; exact ⟨rfl, rfl, rfl⟩)
      have hB0 := Lib.hid (BlkAt.new wr 64 [.string N, .int .u32 f.dr, .slice f.p f.full.length f.c])
      have hKb := Lib.hid (hK.out.alloc (.cells #[.string N, .int .u32 f.dr, .slice f.p f.full.length f.c] 64))
      obtain ⟨y1, hy1⟩ : ∃ y, decide (∃ g ∈ fs.take k, g.nm = f.nm) = y := ⟨_, rfl⟩
      have hy1' : Hid ((y1 = true) ↔ ∃ g ∈ fs.take k, g.nm = f.nm) := Lib.hid (by rw [← hy1, decide_eq_true_eq])
      obtain ⟨y2, hy2⟩ : ∃ y, xs.contains N.data.toList = y := ⟨_, rfl⟩
      have hy2' : Hid (xs.contains N.data.toList = y2) := Lib.hid hy2
      have hy2m : Hid ((y2 = true) ↔ f.nm ∈ xs) := Lib.hid (by rw [← hy2, hNl, List.contains_iff_mem])
      obtain ⟨m, hm⟩ : ∃ m, f.full.length = m := ⟨_, rfl⟩
      have hm' := Lib.hid hm
      rw [hm] at hr2 hL1 hB0 hKb
      obtain ⟨fd, hfd⟩ : ∃ d, f.dr = d := ⟨_, rfl⟩
      rw [hfd] at hr2 hL1 hB0 hKb
      obtain ⟨fp, hfp⟩ : ∃ d, f.p = d := ⟨_, rfl⟩
      rw [hfp] at hr2 hL1 hB0 hKb
      obtain ⟨fc, hfc⟩ : ∃ d, f.c = d := ⟨_, rfl⟩
      rw [hfc] at hr2 hL1 hB0 hKb
      have m1 : (0 : Int) ≤ (k : Int) := by omega
      have m2 : (k : Int) < (fs.length : Int) := by omega
      have hcap : fs.length ≤ c := by
        obtain ⟨p', c', e, -, hc, -⟩ := hv.out
        injection e with e1 e2 e3
        omega
      have m3 : (k : Int) ≤ (c : Int) := by omega
      have htk := Lib.hid (hv.out.take k hk)
      have hNn := Lib.hid hNs
      clear hr hx hN hNs hL hLL hLe hy1 hy2 hm hfd hfp hfc hcap hNl
      go_upto_region 4 with (first | ((with_reducible refine at_slot 14 ?_); refine wpList_load_mid rfl 64 (.tmp 13) rfl g (o + k * 3) rfl [.string N, .int .u32 fd, .slice fp m fc] _ hr2.out Tryz.underlying64 rfl faceInfo ?_) | ((with_reducible refine at_store 6 ?_); refine wpList_store_new rfl 64 (.tmp 6) (.tmp 14) rfl _ #[.string N, .int .u32 fd, .slice fp m fc] rfl rfl faceInfo rfl hL1.out ?_))
      obtain ⟨b, hb⟩ : ∃ b, wr.heap.size = b := ⟨_, rfl⟩
      rw [hb] at hB0 ⊢
      generalize wr.alloc (.cells [.string N, .int .u32 fd, .slice fp m fc].toArray 64) = W1 at hB0 hKb ⊢
      clear hb hr2 hL1 hK
      have hcf := Lib.hid (cfFaces_any _ (fs.take k) f.nm b y1 W1 (Lib.hid (htk.out.keep hKb.out)) (by rw [List.length_take]; omega) (Lib.hid (by rw [hNn.out]; exact hB0.out.cell 0 _ rfl)) hy1')
      go_wp2_with fail
      refine hcf.out.mono ?_
      rintro e W2 ⟨rfl, k2⟩
      have hB2 := hB0.out.keep k2 id
      have hK2 := Lib.hid (hKb.out.trans k2)
      have d0 := hB2.cell 0 _ rfl
      have d2 := hB2.cell 2 _ rfl
      have hsc := Lib.hid (slicesContains_any u xs N y2 W2 (hu.out.keep hK2.out (fun _ _ _ f => f)) (by omega) hy2')
      clear hcf k2 hKb hB0 hB2
      cases y1 with
      | true =>
        have hzf : z = false := by
          cases z with
          | false => rfl
          | true => exact absurd (hy1'.out.1 rfl) (hz.out.1 rfl k f hx'.out).1
        subst hzf
        go_wp2_with fail
        go_ret
        exact ⟨rfl, hK2.out⟩
      | false =>
        go_wp2_with fail
        refine hsc.out.mono ?_
        rintro e W3 ⟨rfl, rfl⟩
        clear hsc
        cases y2 with
        | false =>
          have hzf : z = false := by
            cases z with
            | false => rfl
            | true => have h := hy2m.out.2 (hz.out.1 rfl k f hx'.out).2.1; cases h
          subst hzf
          go_wp2_with fail
          go_ret
          exact ⟨rfl, hK2.out⟩
        | true =>
          by_cases h8 : m ≤ 8
          · have m8 : ¬ (8 : Int) < (m : Int) := by omega
            have hU2 : Hid (∀ i f, i < k + 1 → fs[i]? = some f → FaceOk xs fs i f) := Lib.hid (fun i f2 hi h2 => by
              by_cases e : i < k
              · exact hU.out i f2 e h2
              · obtain rfl : i = k := by omega
                rw [hx'.out] at h2
                injection h2 with h2
                subst h2
                exact ⟨fun h => (by have := hy1'.out.2 h; cases this), hy2m.out.1 rfl, by rw [hm'.out]; exact h8⟩)
            clear hU hy1' hy2m h8
            go_wp2_with fail
            exact ⟨⟨k + 1, by omega, by go_num, hU2, hK2⟩, by simp [intOf]; omega⟩
          · have m8 : (8 : Int) < (m : Int) := by omega
            have hzf : z = false := by
              cases z with
              | false => rfl
              | true => have h := (hz.out.1 rfl k f hx'.out).2.2; rw [hm'.out] at h; exact absurd h h8
            subst hzf
            clear h8
            go_wp2_with fail
            go_ret
            exact ⟨rfl, hK2.out⟩
    · obtain rfl : k = fs.length := by omega
      have hzt : z = true := hz.out.2 (fun i f h => hU.out i f (List.getElem?_eq_some_iff.1 h).1 h)
      subst hzt
      go_wp2_with fail
      go_ret
      exact ⟨rfl, hK.out⟩
end Go.Proofs.YtialookpnoaogaaGreat
/- Of adv: faceOf; hears; links. -/
set_option linter.unusedVariables false
set_option linter.unusedSimpArgs false
namespace Go.Proofs.YtialookpnoaogaaGreat
open Go.RowKit

def noFace (n : List UInt8) : FaceE := ⟨n, 0, none, 0, []⟩
def faceFor (n : List UInt8) (fs : List FaceE) : FaceE := (fs.find? (fun f => decide (f.nm = n))).getD (noFace n)
set_option maxRecDepth 100000 in
set_option maxHeartbeats 8000000 in
theorem faceOf_any (n : List UInt8) (v : Value) (fs : List FaceE) (w : World) (hv : Hid (RowsAt 3 FaceE.vals w v fs)) (hl : fs.length ≤ 1000000) :
    Calls Tryz.prog 22 #[strv n, v] w (NewRes (.agg (faceFor n fs).vals.toArray) w) := by
  obtain ⟨p, c, rfl⟩ := hv.out.slice
  obtain ⟨R, hR⟩ : ∃ R, faceFor n fs = R := ⟨_, rfl⟩
  rw [hR]
  replace hR := Lib.hid hR
  obtain ⟨Y, hY⟩ : ∃ X : ByteArray, (⟨n.toArray⟩ : ByteArray) = X := ⟨_, rfl⟩
  have hYl : Hid (Y.data.toList = n) := Lib.hid (by rw [← hY])
  have hYt : Hid (Y.toList = n) := Lib.hid (by rw [← hY, ba_toList])
  unfold strv
  rw [hY]
  clear hY
  have hB0 := BlkAt.new w 64 [.string ⟨#[]⟩, .int .u32 0, .slice none 0 0]
  have hk0 : Hid (Keeps (fun _ => False) w (w.alloc (.cells #[.string ⟨#[]⟩, .int .u32 0, .slice none 0 0] 64))) := Lib.hid ((Keeps.refl _ _).alloc _)
  have hv0 := Lib.hid (hv.out.keep hk0.out)
  replace hB0 := Lib.hid hB0
  go_enter Tryz.func22, Tryz.ntmps22
  go_wp2_with fail
  generalize hW0 : w.alloc (.cells #[.string ⟨#[]⟩, .int .u32 0, .slice none 0 0] 64) = W0 at hB0 hk0 hv0 ⊢
  clear hW0
  obtain ⟨b4, hb4⟩ : ∃ b, w.heap.size = b := ⟨_, rfl⟩
  rw [hb4] at hB0 ⊢
  replace hb4 := Lib.hid hb4
  go_loopw [9] (fun iv wr => ∃ (k : Nat), k ≤ fs.length ∧ iv = .int .i64 k ∧ Hid (∀ f ∈ fs.take k, f.nm ≠ n) ∧ Hid (Keeps (fun _ => False) W0 wr)) (fun iv _ => fs.length - (intOf iv).toNat)
  case atStart => exact ⟨0, by omega, rfl, Lib.hid (fun l hl => by simp at hl), Lib.hid (Keeps.refl _ _)⟩
  case round =>
    obtain ⟨k, hk, rfl, hU, hK⟩ := hrel
    by_cases hlk : k < fs.length
    · obtain ⟨f, hx⟩ : ∃ x, fs[k]? = some x := ⟨_, List.getElem?_eq_getElem hlk⟩
      obtain ⟨g, o, rfl, hr⟩ := hv0.out.open (by omega)
      have hr2 := Lib.hid (hK.out.rangeAt (hr k f hx) id)
      have hx' := Lib.hid hx
      obtain ⟨N, hN⟩ : ∃ N : ByteArray, (⟨f.nm.toArray⟩ : ByteArray) = N := ⟨_, rfl⟩
      have hNs : strv f.nm = .string N := by rw [← hN]; rfl
      have hLe : f.vals = [.string N, .int .u32 f.dr, .slice f.p f.full.length f.c] := by unfold FaceE.vals; rw [hNs]
      have hLe' := Lib.hid hLe
      rw [hLe] at hr2
      obtain ⟨m, hm⟩ : ∃ m, f.full.length = m := ⟨_, rfl⟩
      obtain ⟨fd, hfd⟩ : ∃ d, f.dr = d := ⟨_, rfl⟩
      obtain ⟨fp, hfp⟩ : ∃ d, f.p = d := ⟨_, rfl⟩
      obtain ⟨fc, hfc⟩ : ∃ d, f.c = d := ⟨_, rfl⟩
      rw [hm, hfd, hfp, hfc] at hr2 hLe'
      have hL1 : Hid ((#[.string N, .int .u32 fd, .slice fp m fc] : Array Value).all (·.oneCell') = true) := Lib.hid (by simp; exact ⟨rfl, rfl, rfl⟩)
      have hBf := Lib.hid (BlkAt.new wr 64 [.string N, .int .u32 fd, .slice fp m fc])
      have hKb := Lib.hid (hK.out.alloc (.cells #[.string N, .int .u32 fd, .slice fp m fc] 64))
      have hbl : Hid (W0.heap.size ≤ wr.heap.size) := Lib.hid hK.out.size
      have hE : Hid ((N.toList == Y.toList) = decide (f.nm = n)) := Lib.hid (by
        rw [hYt.out, ← hN, ba_toList]
        by_cases e : f.nm = n
        · rw [e]; simp
        · rw [decide_eq_false e]; simpa using e)
      have m1 : (0 : Int) ≤ (k : Int) := by omega
      have m2 : (k : Int) < (fs.length : Int) := by omega
      clear hr hx hN hNs hLe hm hfd hfp hfc hK
      go_upto_region 4 with (first | ((with_reducible refine at_slot 12 ?_); refine wpList_load_mid rfl 64 (.tmp 11) rfl g (o + k * 3) rfl [.string N, .int .u32 fd, .slice fp m fc] _ hr2.out Tryz.underlying64 rfl faceInfo ?_) | ((with_reducible refine at_store 6 ?_); refine wpList_store_new rfl 64 (.tmp 6) (.tmp 12) rfl _ #[.string N, .int .u32 fd, .slice fp m fc] rfl rfl faceInfo rfl hL1.out ?_))
      obtain ⟨b, hb⟩ : ∃ b, wr.heap.size = b := ⟨_, rfl⟩
      rw [hb] at hBf ⊢
      generalize wr.alloc (.cells [.string N, .int .u32 fd, .slice fp m fc].toArray 64) = W1 at hBf hKb ⊢
      have d0 := hBf.out.cell 0 _ rfl
      clear hr2
      by_cases hnm : f.nm = n
      · have hE1 : (N.toList == Y.toList) = true := by rw [hE.out, decide_eq_true hnm]
        have hRf : R = f := by
          rw [← hR.out]
          unfold faceFor
          have h2 := List.getElem?_eq_some_iff.1 hx'.out
          have h3 : fs.find? (fun f => decide (f.nm = n)) = some f := by
            rw [← List.take_append_drop k fs, List.find?_append]
            have h4 : (fs.take k).find? (fun f => decide (f.nm = n)) = none := by
              rw [List.find?_eq_none]
              intro y hy
              simpa using hU.out y hy
            rw [h4, Option.none_or, List.drop_eq_getElem_cons h2.1, h2.2, List.find?_cons_of_pos (by simpa using hnm)]
          rw [h3]; rfl
        have hth := Lib.hid ((hB0.out.keep hKb.out id).there 0 3 (Nat.le_refl _))
        clear hnm hE
        go_wp2_with (first | ((with_reducible refine at_slot 17 ?_); refine wpList_load_mid rfl 64 (.tmp 6) rfl b 0 rfl [.string N, .int .u32 fd, .slice fp m fc] _ hBf.out.range Tryz.underlying64 rfl faceInfo ?_) | ((with_reducible refine at_store 4 ?_); refine wpList_store_blk rfl 64 (.tmp 4) (.tmp 17) rfl b4 #[.string N, .int .u32 fd, .slice fp m fc] rfl rfl hth.out faceInfo hL1.out ?_; intro w4 hr4 hk4))
        refine bodyPost_ret (ret_cellN rfl _ w4 b4 _ _ rfl hr4.out Tryz.underlying64 rfl faceInfo) rfl ⟨by rw [hLe'.out], (hk0.out.trans hKb.out).trans' hk4.out (fun i e => .inr (by rw [e, hb4.out]; exact Nat.le_refl _))⟩
      · have hE1 : (N.toList == Y.toList) = false := by rw [hE.out, decide_eq_false hnm]
        have hn : Hid (∀ f ∈ fs.take (k + 1), f.nm ≠ n) := Lib.hid (fun l hl => by
          rw [List.take_add_one, hx'.out] at hl
          rcases List.mem_append.1 hl with h | h
          · exact hU.out l h
          · have : l = f := by simpa using h
            rw [this]; exact hnm)
        clear hnm hE hU
        go_wp2_with fail
        exact ⟨⟨k + 1, by omega, by go_num, hn, hKb⟩, by simp [intOf]; omega⟩
    · obtain rfl : k = fs.length := by omega
      rw [List.take_length] at hU
      have hRf : R = noFace n := by
        rw [← hR.out]
        unfold faceFor
        rw [List.find?_eq_none.2 (fun y hy => by simpa using hU.out y hy)]
        rfl
      have hth := Lib.hid ((hB0.out.keep hK.out id).there 0 3 (Nat.le_refl _))
      have hL1 : Hid ((#[.string Y, .int .u32 0, .slice none 0 0] : Array Value).all (·.oneCell') = true) := Lib.hid (by simp; exact ⟨rfl, rfl, rfl⟩)
      go_wp2_with ((with_reducible refine at_store 4 ?_); refine wpList_store_blk rfl 64 (.tmp 4) (.tmp 20) rfl b4 #[.string Y, .int .u32 0, .slice none 0 0] rfl rfl hth.out faceInfo hL1.out ?_; intro w4 hr4 hk4)
      refine bodyPost_ret (ret_cellN rfl _ w4 b4 _ _ rfl hr4.out Tryz.underlying64 rfl faceInfo) rfl ⟨by unfold noFace FaceE.vals strv; rw [← hYl.out]; rfl, (hk0.out.trans hK.out).trans' hk4.out (fun i e => .inr (by rw [e, hb4.out]; exact Nat.le_refl _))⟩
end Go.Proofs.YtialookpnoaogaaGreat
/- Of adv: hears; links. -/
set_option linter.unusedVariables false
set_option linter.unusedSimpArgs false
namespace Go.Proofs.YtialookpnoaogaaGreat
open Go.RowKit

theorem peerInfo : (Tryz.prog.info? 85).map (·.size) = some 2 := by kernel_rfl
theorem peer_one (x : PeerD) : (#[.int .u32 x.id, .int .u32 x.addr] : Array Value).all (·.oneCell') = true := by simp; exact ⟨rfl, rfl⟩
set_option maxRecDepth 100000 in
set_option maxHeartbeats 4000000 in
theorem hears1_any (x : PeerD) (dr b : Nat) (z : Bool) (w : World) (hc : Hid (w.cell? ⟨b, 11, none⟩ = some (.int .u32 dr))) (hz : Hid ((z = true) ↔ x.addr = dr)) :
    Calls Tryz.prog 116 #[.agg #[.int .u32 x.id, .int .u32 x.addr], .pointer (some ⟨b, 0, none⟩)] w (NewRes (.bool z) w) := by
  obtain ⟨i, a⟩ := x
  have hbx := boxed_new w [.int .u32 i, .int .u32 a] 85
  have h1 := hbx.cell 1 (.int .u32 a) rfl
  have h2 : (w.alloc (.cells [.int .u32 i, .int .u32 a].toArray 85)).cell? ⟨b, 11, none⟩ = some (.int .u32 dr) := (((Keeps.refl (fun _ => False) w).alloc _).cell (p := ⟨b, 11, none⟩) (World.block_lt_of_cell? w _ hc.out) id).trans hc.out
  have hk0 := Lib.hid hbx.k
  have hE : Hid (((a : Int) == (dr : Int)) = z) := Lib.hid (by
    cases z with
    | true => have := hz.out.1 rfl; simp only at this; rw [this]; simp
    | false => rw [beq_eq_false_iff_ne]; intro e; have := hz.out.2 (by simp only; omega); cases this)
  clear hbx hc hz
  go_enter Tryz.func116, Tryz.ntmps116
  go_upto_region 1 with fail
  generalize hW0 : w.alloc (Obj.cells [.int .u32 i, .int .u32 a].toArray 85) = W0 at h1 h2 hk0 ⊢
  clear hW0
  go_wp2_with fail
  go_ret
  exact ⟨by rw [← hE.out]; rfl, hk0.out⟩
set_option maxRecDepth 100000 in
set_option maxHeartbeats 4000000 in
theorem ixPeers_any (v : Value) (ps : List PeerD) (dr b : Nat) (w : World) (hv : Hid (RowsAt 2 peerVals w v ps)) (hl : ps.length ≤ 1000000) (hc : Hid (w.cell? ⟨b, 11, none⟩ = some (.int .u32 dr))) :
    Calls Tryz.prog 136 #[v, .func (.func 116) #[] #[.pointer (some ⟨b, 0, none⟩)]] w fun e w' => (∃ r : Int, e = .returned (.int .i64 r) ∧ ((r = -1 ∧ ∀ f ∈ ps, f.addr ≠ dr) ∨ (0 ≤ r ∧ ∃ f ∈ ps, f.addr = dr))) ∧ Keeps (fun _ => False) w w' := by
  obtain ⟨p, c, rfl⟩ := hv.out.slice
  go_enter Tryz.func136, Tryz.ntmps136
  go_wp2_with fail
  go_loopw [8] (fun iv wr => ∃ (k : Nat), k ≤ ps.length ∧ iv = .int .i64 k ∧ Hid (∀ f ∈ ps.take k, f.addr ≠ dr) ∧ Hid (Keeps (fun _ => False) w wr)) (fun iv _ => ps.length - (intOf iv).toNat)
  case atStart => exact ⟨0, by omega, rfl, Lib.hid (fun l hl => by simp at hl), Lib.hid (Keeps.refl _ _)⟩
  case round =>
    obtain ⟨k, hk, rfl, hU, hK⟩ := hrel
    by_cases hlk : k < ps.length
    · obtain ⟨f, hx⟩ : ∃ x, ps[k]? = some x := ⟨_, List.getElem?_eq_getElem hlk⟩
      obtain ⟨g, o, rfl, hr⟩ := hv.out.open (by omega)
      have hr2 := Lib.hid (hK.out.rangeAt (hr k f hx) id)
      have hcn := Lib.hid ((hK.out.cell (p := ⟨b, 11, none⟩) (World.block_lt_of_cell? w _ hc.out) id).trans hc.out)
      obtain ⟨z, hz⟩ : ∃ z, decide (f.addr = dr) = z := ⟨_, rfl⟩
      have hz' : Hid ((z = true) ↔ f.addr = dr) := Lib.hid (by rw [← hz, decide_eq_true_eq])
      have hcl := Lib.hid (hears1_any f dr b z wr hcn hz')
      have hx' := Lib.hid hx
      have m1 : (0 : Int) ≤ (k : Int) := by omega
      have m2 : (k : Int) < (ps.length : Int) := by omega
      clear hr hcn hz hx
      go_wp2_with ((with_reducible refine at_slot 15 ?_); refine wpList_load_mid rfl 85 (.tmp 14) rfl g (o + k * 2) rfl [.int .u32 f.id, .int .u32 f.addr] _ hr2.out Tryz.underlying85 rfl peerInfo ?_)
      refine hcl.out.mono ?_
      rintro e w2 ⟨rfl, hk2⟩
      have hK2 := Lib.hid (hK.out.trans hk2)
      clear hcl hk2 hr2 hK
      cases z with
      | true =>
        go_wp2_with fail
        go_ret
        exact ⟨⟨(k : Int), rfl, .inr ⟨by omega, f, List.mem_of_getElem? hx'.out, hz'.out.1 (by first | rfl | trivial)⟩⟩, hK2.out⟩
      | false =>
        have hn : Hid (∀ f ∈ ps.take (k + 1), f.addr ≠ dr) := Lib.hid (fun l hl => by
          rw [List.take_add_one, hx'.out] at hl
          rcases List.mem_append.1 hl with h | h
          · exact hU.out l h
          · have : l = f := by simpa using h
            rw [this]; intro e; have := hz'.out.2 e; cases this)
        clear hU hz' hx'
        go_wp2_with fail
        exact ⟨⟨k + 1, by omega, by go_num, hn, hK2⟩, by simp [intOf]; omega⟩
    · obtain rfl : k = ps.length := by omega
      rw [List.take_length] at hU
      go_wp2_with fail
      go_ret
      exact ⟨⟨-1, rfl, .inl ⟨rfl, hU.out⟩⟩, hK.out⟩
set_option maxRecDepth 100000 in
set_option maxHeartbeats 4000000 in
theorem cfPeers_any (v : Value) (ps : List PeerD) (dr b : Nat) (z : Bool) (w : World) (hv : Hid (RowsAt 2 peerVals w v ps)) (hl : ps.length ≤ 1000000) (hc : Hid (w.cell? ⟨b, 11, none⟩ = some (.int .u32 dr))) (hz : Hid ((z = true) ↔ ∃ f ∈ ps, f.addr = dr)) :
    Calls Tryz.prog 115 #[v, .func (.func 116) #[] #[.pointer (some ⟨b, 0, none⟩)]] w (NewRes (.bool z) w) := by
  obtain ⟨p, c, rfl⟩ := hv.out.slice
  go_enter Tryz.func115, Tryz.ntmps115
  go_wp2_with fail
  refine (ixPeers_any _ ps dr b w hv hl hc).mono ?_
  rintro e w2 ⟨⟨r, rfl, hr⟩, k2⟩
  have hr' : Hid (decide (r ≥ 0) = z) := Lib.hid (by
    rcases hr with ⟨h1, h2⟩ | ⟨h1, h2⟩
    · cases z with
      | true => obtain ⟨f, hf, e⟩ := hz.out.1 rfl; exact absurd e (h2 f hf)
      | false => rw [decide_eq_false_iff_not]; omega
    · rw [hz.out.2 h2, decide_eq_true_eq]; exact h1)
  have k2' := Lib.hid k2
  clear hr k2 hz
  go_wp2_with fail
  go_ret
  exact ⟨by rw [← hr'.out]; rfl, k2'.out⟩
/-- is the one that speaks Full to us? -/
def heardB (s : SetD) (dr : Nat) (ps : List PeerD) : Bool := !s.two && (decide (dr ≠ 0) && ps.any (fun p => decide (p.addr = dr)))
set_option maxRecDepth 100000 in
set_option maxHeartbeats 8000000 in
theorem standHears_any (s : SetD) (nm : List UInt8) (dr c : Nat) (p : Option Addr) (ps : List PeerD) (z : Bool) (w : World) (hv : Hid (RowsAt 2 peerVals w (.slice p ps.length c) ps)) (hl : ps.length ≤ 1000000) (hz : Hid (heardB s dr ps = z)) :
    Calls Tryz.prog 92 #[.agg (standVals s nm dr (.slice p ps.length c)).toArray] w (NewRes (.bool z) w) := by
  obtain ⟨area, addr, mask, cost, hello, dead, again, prio, two, auth⟩ := s
  obtain ⟨L, hL⟩ : ∃ L, standVals ⟨area, addr, mask, cost, hello, dead, again, prio, two, auth⟩ nm dr (.slice p ps.length c) = L := ⟨_, rfl⟩
  have hbx := boxed_new w L 67
  rw [hL]
  have h1 := hbx.cell 8 (.bool two) (by rw [← hL]; rfl)
  have h2 := hbx.cell 11 (.int .u32 dr) (by rw [← hL]; rfl)
  have h4 := hbx.cell 12 (.slice p ps.length c) (by rw [← hL]; rfl)
  have hk0 := Lib.hid hbx.k
  obtain ⟨y, hy⟩ : ∃ y, ps.any (fun p => decide (p.addr = dr)) = y := ⟨_, rfl⟩
  have hy' : Hid ((y = true) ↔ ∃ f ∈ ps, f.addr = dr) := Lib.hid (by rw [← hy, List.any_eq_true]; simp)
  have hzz := hz.out
  unfold heardB at hzz
  simp only at hzz
  rw [hy] at hzz
  have hcf := Lib.hid (cfPeers_any (.slice p ps.length c) ps dr w.heap.size y (w.alloc (.cells L.toArray 67)) (Lib.hid (hv.out.keep hbx.k)) hl (Lib.hid h2) hy')
  clear hL hbx hz hy
  go_enter Tryz.func92, Tryz.ntmps92
  go_upto_region 1 with fail
  generalize hW0 : w.alloc (Obj.cells L.toArray 67) = W0 at h1 h2 h4 hk0 hcf ⊢
  clear hW0
  cases two with
  | true =>
    have hzf : z = false := by rw [← hzz]; rfl
    subst hzf
    clear hzz hcf
    go_wp2_with fail
    go_ret
    exact ⟨rfl, hk0.out⟩
  | false =>
    by_cases d0 : dr = 0
    · have hzf : z = false := by rw [← hzz, d0]; rfl
      subst hzf; subst d0
      clear hzz hcf
      go_wp2_with fail
      go_ret
      exact ⟨rfl, hk0.out⟩
    · have q0 : ((dr : Int) != 0) = true := by simp; omega
      have hzf : z = y := by rw [← hzz]; simp [d0]
      subst hzf
      clear hzz d0
      go_wp2_with fail
      refine hcf.out.mono ?_
      rintro e w2 ⟨rfl, k2⟩
      have hk2 := Lib.hid (hk0.out.trans k2)
      clear hcf k2 hk0 h1 h2 h4
      go_wp2_with fail
      go_ret
      exact ⟨rfl, hk2.out⟩
end Go.Proofs.YtialookpnoaogaaGreat
/- Of adv: links. -/
set_option linter.unusedVariables false
set_option linter.unusedSimpArgs false
namespace Go.Proofs.YtialookpnoaogaaGreat
open Go.RowKit

def peerL (s : SetD) (p : PeerD) : LinkD := ⟨p.id, s.addr, 1, s.cost⟩
def linksS (s : SetD) (dr : Nat) (ps : List PeerD) : List LinkD :=
  if s.two = true then ps.map (peerL s) ++ [netL15 s] else if (speaksB s dr ps.length || heardB s dr ps) = true then [⟨dr, s.addr, 2, s.cost⟩] else [netL15 s]
theorem link_cells (i d t c : Int) : (#[.int .u32 i, .int .u32 d, .int .i64 t, .int .i64 c] : Array Value).all (·.oneCell') = true := by simp; exact ⟨rfl, rfl, rfl, rfl⟩
theorem one_link (w : World) (x : LinkD) : RowsAt 4 linkVals (w.alloc (.cells (linkVals x).toArray 142)) (.slice (some ⟨w.heap.size, 0, none⟩) 1 1) [x] :=
  ⟨_, _, rfl, (fun e => by cases e), Nat.le_refl _, fun _ => ⟨_, _, rfl, fun i y hy => by
    have hi0 : i = 0 := by have := (List.getElem?_eq_some_iff.1 hy).1; simp at this; omega
    subst hi0
    injection hy with hy
    subst hy
    exact (BlkAt.new w 142 (linkVals x)).range⟩⟩
set_option maxRecDepth 100000 in
set_option maxHeartbeats 8000000 in
theorem standLinks_any (s : SetD) (nm : List UInt8) (dr c : Nat) (p : Option Addr) (ps : List PeerD) (w : World) (hv : Hid (RowsAt 2 peerVals w (.slice p ps.length c) ps)) (hl : ps.length ≤ 1000) :
    Calls Tryz.prog 57 #[.agg (standVals s nm dr (.slice p ps.length c)).toArray] w (LinksPost w (linksS s dr ps)) := by
  obtain ⟨i0, hi0, hi1, hi2, hi3⟩ := linkAll15
  obtain ⟨zs, hzs⟩ : ∃ z, speaksB s dr ps.length = z := ⟨_, rfl⟩
  obtain ⟨zh, hzh⟩ : ∃ z, heardB s dr ps = z := ⟨_, rfl⟩
  have hsp := Lib.hid (fun W => standSpeaks_any s nm dr ps.length c p zs W (Lib.hid hzs))
  have hhe := Lib.hid (fun W (k : Keeps (fun _ => False) w W) => standHears_any s nm dr c p ps zh W (Lib.hid (hv.out.keep k)) (by omega) (Lib.hid hzh))
  have hne := Lib.hid (fun W => standNet_any s nm dr (.slice p ps.length c) W)
  obtain ⟨R, hR⟩ : ∃ R, linksS s dr ps = R := ⟨_, rfl⟩
  rw [hR]
  unfold linksS at hR
  rw [hzs, hzh] at hR
  obtain ⟨N, hN⟩ : ∃ N, netL15 s = N := ⟨_, rfl⟩
  rw [hN] at hne hR
  obtain ⟨ni, nd, nt, nc⟩ := N
  have e0 : (linkVals ⟨ni, nd, nt, nc⟩).toArray = #[.int .u32 ni, .int .u32 nd, .int .i64 nt, .int .i64 nc] := rfl
  rw [e0] at hne
  obtain ⟨L, hL⟩ : ∃ L, standVals s nm dr (.slice p ps.length c) = L := ⟨_, rfl⟩
  rw [hL] at hsp hhe hne ⊢
  have hbx := boxed_new w L 67
  have h1 := hbx.cell 8 (.bool s.two) (by rw [← hL]; rfl)
  have h2 := hbx.cell 12 (.slice p ps.length c) (by rw [← hL]; rfl)
  have hcs : Hid (L[1]? = some (.int .u32 s.addr) ∧ L[3]? = some (.int .i64 s.cost) ∧ L[11]? = some (.int .u32 dr) ∧ L[12]? = some (.slice p ps.length c)) := Lib.hid (by rw [← hL]; exact ⟨rfl, rfl, rfl, rfl⟩)
  have hB := Lib.hid (BlkAt.new w 67 L)
  have hLl : L.length = 13 := by rw [← hL]; rfl
  have hi : Hid ((Tryz.prog.info? 67).map (·.size) = some L.length) := Lib.hid (by rw [hLl]; exact standInfo)
  have hk0 := Lib.hid hbx.k
  have hpe : Hid (∀ q, peerL s q = ⟨q.id, s.addr, 1, s.cost⟩) := Lib.hid (fun q => rfl)
  obtain ⟨pl, hpl⟩ : ∃ f, peerL s = f := ⟨_, rfl⟩
  rw [hpl] at hpe hR
  obtain ⟨ad, had⟩ : ∃ a, s.addr = a := ⟨_, rfl⟩
  obtain ⟨co, hco⟩ : ∃ a, s.cost = a := ⟨_, rfl⟩
  obtain ⟨tw, htw⟩ : ∃ a, s.two = a := ⟨_, rfl⟩
  rw [had] at hcs hR hpe
  rw [hco] at hcs hR hpe
  rw [htw] at h1 hR
  replace hR := Lib.hid hR
  clear hL hbx hLl hzs hzh hN had hco htw hpl e0
  go_enter Tryz.func57, Tryz.ntmps57
  go_upto_region 1 with fail
  generalize hW0 : w.alloc (Obj.cells L.toArray 67) = W0 at h1 h2 hB hk0 ⊢
  clear hW0
  obtain ⟨b, hb⟩ : ∃ b, w.heap.size = b := ⟨_, rfl⟩
  rw [hb] at hB h1 h2 ⊢
  have hb' := Lib.hid hb
  clear hb
  cases tw with
  | false =>
    go_wp2_with ((with_reducible refine at_slot 35 ?_); refine wpList_load_mid rfl 67 (.tmp 1) rfl b 0 rfl L _ hB.out.range Tryz.underlying67 rfl hi.out ?_)
    refine (hsp.out _).mono ?_
    rintro e w1 ⟨rfl, k1⟩
    have hB1 := Lib.hid (hB.out.keep k1 id)
    have hk1 := Lib.hid (hk0.out.trans k1)
    clear hsp hB hk0 h1 h2 k1
    cases zs with
    | true =>
      have hRR : Hid (R = [⟨dr, ad, 2, co⟩]) := Lib.hid (by rw [← hR.out]; rfl)
      have c1 := hB1.out.cell 1 _ hcs.out.1
      have c3 := hB1.out.cell 3 _ hcs.out.2.1
      have c11 := hB1.out.cell 11 _ hcs.out.2.2.1
      clear hhe hne hR
      go_wp2_with fail
      go_ret
      rw [hRR.out]
      exact ⟨_, _, rfl, one_link w1 ⟨dr, ad, 2, co⟩, hk1.out.alloc _⟩
    | false =>
      have hh1 := Lib.hid (hhe.out w1 hk1.out)
      go_wp2_with ((with_reducible refine at_slot 38 ?_); refine wpList_load_mid_gd rfl 67 (.tmp 1) rfl b 0 rfl L _ hB1.out.range Tryz.underlying67 rfl hi.out ?_)
      refine hh1.out.mono ?_
      rintro e w2 ⟨rfl, k2⟩
      have hB2 := Lib.hid (hB1.out.keep k2 id)
      have hk2 := Lib.hid (hk1.out.trans k2)
      clear hhe hh1 hB1 hk1 k2
      cases zh with
      | true =>
        have hRR : Hid (R = [⟨dr, ad, 2, co⟩]) := Lib.hid (by rw [← hR.out]; rfl)
        have c1 := hB2.out.cell 1 _ hcs.out.1
        have c3 := hB2.out.cell 3 _ hcs.out.2.1
        have c11 := hB2.out.cell 11 _ hcs.out.2.2.1
        clear hne hR
        go_wp2_with fail
        go_ret
        rw [hRR.out]
        exact ⟨_, _, rfl, one_link w2 ⟨dr, ad, 2, co⟩, hk2.out.alloc _⟩
      | false =>
        have hRR : Hid (R = [⟨ni, nd, nt, nc⟩]) := Lib.hid (by rw [← hR.out]; rfl)
        clear hR
        go_wp2_with ((with_reducible refine at_slot 52 ?_); refine wpList_load_mid rfl 67 (.tmp 1) rfl b 0 rfl L _ hB2.out.range Tryz.underlying67 rfl hi.out ?_)
        refine (hne.out _).mono ?_
        rintro e w3 ⟨rfl, k3⟩
        have hk3 := Lib.hid (hk2.out.trans k3)
        clear hne hB2 hk2 k3
        go_wp2_with fail
        go_ret
        rw [hRR.out]
        exact ⟨_, _, rfl, one_link w3 ⟨ni, nd, nt, nc⟩, hk3.out.alloc _⟩
  | true =>
    have hRR : Hid (R = ps.map pl ++ [⟨ni, nd, nt, nc⟩]) := Lib.hid (by rw [← hR.out]; rfl)
    have hv0 := Lib.hid (hv.out.keep hk0.out)
    clear hhe hsp hR
    go_wp2_with fail
    have hO0 : Hid (OwnR 142 4 linkVals W0 W0 (.slice none 0 0) []) := Lib.hid (OwnR.nil _ _ (Nat.le_refl _))
    go_loopw [13, 3] (fun iv ov wr => ∃ (k : Nat) (q : Option Addr) (d : Nat), k ≤ ps.length ∧ iv = .int .i64 k ∧ ov = .slice q k d ∧ Hid (OwnR 142 4 linkVals W0 wr (.slice q k d) ((ps.take k).map pl)) ∧ Hid (Keeps (fun _ => False) W0 wr)) (fun iv _ _ => ps.length - (intOf iv).toNat)
    case atStart => exact ⟨0, none, 0, by omega, rfl, rfl, hO0, Lib.hid (Keeps.refl _ _)⟩
    case round =>
      obtain ⟨k, q, d, hk, rfl, rfl, hO, hK⟩ := hrel
      by_cases hlk : k < ps.length
      · obtain ⟨x, hx⟩ : ∃ x, ps[k]? = some x := ⟨_, List.getElem?_eq_getElem hlk⟩
        obtain ⟨g, o, rfl, hr⟩ := hv0.out.open (by omega)
        have hr2 := Lib.hid (hK.out.rangeAt (hr k x hx) id)
        have hta : Hid ((ps.take (k + 1)).map pl = (ps.take k).map pl ++ [pl x]) := Lib.hid (by rw [List.take_add_one, hx, List.map_append]; rfl)
        have hpx : Hid (pl x = ⟨x.id, ad, 1, co⟩) := Lib.hid (hpe.out x)
        obtain ⟨xi, xa⟩ := x
        have kb := (Keeps.refl (fun _ => False) wr).alloc (.cells #[.int .u32 xi, .int .u32 xa] 85)
        have hKb := Lib.hid (hK.out.trans kb)
        have hOb := Lib.hid (hO.out.keep kb (fun _ _ f => f))
        have hBs := hB.out.keep hKb.out id
        have hBp := BlkAt.new wr 85 [.int .u32 xi, .int .u32 xa]
        have c1 := hBs.cell 1 _ hcs.out.1
        have c3 := hBs.cell 3 _ hcs.out.2.1
        have p0 := hBp.cell 0 _ rfl
        have m1 : (0 : Int) ≤ (k : Int) := by omega
        have m2 : (k : Int) < (ps.length : Int) := by omega
        have hlx : Hid (((ps.take k).map pl).length = k ∧ k ≤ 1000000000) := Lib.hid ⟨by rw [List.length_map, List.length_take]; omega, by omega⟩
        clear hr hx hBs hBp kb
        go_upto_region 6 with (first | ((with_reducible refine at_slot 16 ?_); refine wpList_load_mid rfl 85 (.tmp 15) rfl g (o + k * 2) rfl [.int .u32 xi, .int .u32 xa] _ hr2.out Tryz.underlying85 rfl peerInfo ?_) | ((with_reducible refine at_store 5 ?_); refine wpList_store_new rfl 85 (.tmp 5) (.tmp 16) rfl _ #[.int .u32 xi, .int .u32 xa] rfl rfl peerInfo rfl (peer_one ⟨xi, xa⟩) ?_))
        obtain ⟨b5, hb5⟩ : ∃ b, wr.heap.size = b := ⟨_, rfl⟩
        rw [hb5] at p0 ⊢
        generalize wr.alloc (.cells [.int .u32 xi, .int .u32 xa].toArray 85) = W1 at hKb hOb c1 c3 p0 ⊢
        clear hb5 hr2 hO hK
        have kc := (Keeps.refl (fun _ => False) W1).alloc (.cells #[.int .u32 xi, .int .u32 ad, .int .i64 1, .int .i64 co] 142)
        have hOc := Lib.hid (hOb.out.keep kc (fun _ _ f => f))
        have hKc := Lib.hid (hKb.out.trans kc)
        have hsrc : Hid (∀ j u, (linkVals (pl ⟨xi, xa⟩))[j]? = some u → (W1.alloc (.cells #[.int .u32 xi, .int .u32 ad, .int .i64 1, .int .i64 co] 142)).cell? ((⟨W1.heap.size, 0, none⟩ : Addr).add j) = some u) := Lib.hid (by
          rw [hpx.out]
          exact cells_new (w := W1) rfl (linkVals ⟨xi, ad, 1, co⟩) 142)
        clear kc hOb hKb
        go_wp2_with ((with_reducible refine at_slot 28 ?_); refine wpList_append_r rfl (.tmp 17) (.tmp 27) 72 142 rfl i0 _ 24 Tryz.underlying72 hi0 hi1 hi2 hi3 rfl (by decide) (by decide) (fun x => rfl) W0 _ k ((ps.take k).map pl) hlx.out.1 rfl hOc.out _ rfl (pl ⟨xi, xa⟩) hsrc.out (linkVals_one _) hlx.out.2 ?_; intro q8 d8 w6 hO6 hg6)
        exact ⟨⟨k + 1, q8, d8, by omega, by go_num, rfl, Lib.hid (by rw [hta.out]; exact hO6.out), Lib.hid (hOc.out.keeps hKc.out hg6.out)⟩, by simp [intOf]; omega⟩
      · obtain rfl : k = ps.length := by omega
        rw [List.take_length] at hO
        have hBs := Lib.hid (hB.out.keep hK.out id)
        have hlx : Hid ((ps.map pl).length = ps.length ∧ ps.length ≤ 1000000000) := Lib.hid ⟨by rw [List.length_map], by omega⟩
        go_wp2_with ((with_reducible refine at_slot 31 ?_); refine wpList_load_mid rfl 67 (.tmp 1) rfl b 0 rfl L _ hBs.out.range Tryz.underlying67 rfl hi.out ?_)
        refine (hne.out _).mono ?_
        rintro e w3 ⟨rfl, k3⟩
        have kc := k3.alloc (.cells #[.int .u32 ni, .int .u32 nd, .int .i64 nt, .int .i64 nc] 142)
        have hOc := Lib.hid (hO.out.keep kc (fun _ _ f => f))
        have hKc := Lib.hid (hK.out.trans kc)
        have hsrc : Hid (∀ j u, (linkVals (⟨ni, nd, nt, nc⟩ : LinkD))[j]? = some u → (w3.alloc (.cells #[.int .u32 ni, .int .u32 nd, .int .i64 nt, .int .i64 nc] 142)).cell? ((⟨w3.heap.size, 0, none⟩ : Addr).add j) = some u) := Lib.hid (cells_new (w := w3) rfl (linkVals ⟨ni, nd, nt, nc⟩) 142)
        clear kc hne hBs hO hK k3
        go_wp2_with ((with_reducible refine at_slot 34 ?_); refine wpList_append_r rfl (.tmp 30) (.tmp 33) 72 142 rfl i0 _ 24 Tryz.underlying72 hi0 hi1 hi2 hi3 rfl (by decide) (by decide) (fun x => rfl) W0 _ ps.length (ps.map pl) hlx.out.1 rfl hOc.out _ rfl ⟨ni, nd, nt, nc⟩ hsrc.out (linkVals_one _) hlx.out.2 ?_; intro q8 d8 w6 hO6 hg6)
        go_ret
        rw [hRR.out]
        have e1 : (ps.map pl ++ [(⟨ni, nd, nt, nc⟩ : LinkD)]).length = ps.length + 1 := by simp
        refine ⟨q8, d8, by rw [e1]; rfl, ?_, hk0.out.trans (hOc.out.keeps hKc.out hg6.out)⟩
        rw [e1]
        exact OwnR.at (sz := 4) (cv := linkVals) (fun _ => rfl) hO6.out
end Go.Proofs.YtialookpnoaogaaGreat
/- Of adv: All of one interface that nobody knows. -/
set_option linter.unusedVariables false
set_option linter.unusedSimpArgs false
namespace Go.Proofs.YtialookpnoaogaaGreat
open Go.RowKit

theorem standAll15 : ∃ i, Tryz.prog.info? 67 = some i ∧ i.zero = some (.agg #[.int .u32 0, .int .u32 0, .int .u32 0, .int .i64 0, .int .i64 0, .int .i64 0, .int .i64 0, .int .i64 0, .bool false, .string ⟨#[]⟩, .string ⟨#[]⟩, .int .u32 0, .slice none 0 0]) ∧ i.size = 13 ∧ i.bytes = 128 := by
  have h : (Tryz.prog.info? 67).map (fun i => (i.zero, i.size, i.bytes)) = some (some (.agg #[.int .u32 0, .int .u32 0, .int .u32 0, .int .i64 0, .int .i64 0, .int .i64 0, .int .i64 0, .int .i64 0, .bool false, .string ⟨#[]⟩, .string ⟨#[]⟩, .int .u32 0, .slice none 0 0]), 13, 128) := by kernel_rfl
  obtain ⟨i, hi, e⟩ := Option.map_eq_some_iff.1 h
  injection e with e1 e; injection e with e2 e3
  exact ⟨i, hi, e1, e2, e3⟩
theorem stand_one (x : StandR) : ∀ u ∈ x.vals, u.oneCell' = true := by
  intro u hu
  simp only [StandR.vals, standVals, setVals, List.mem_append, List.mem_cons, List.not_mem_nil, or_false] at hu
  rcases hu with (rfl | rfl | rfl | rfl | rfl | rfl | rfl | rfl | rfl | rfl) | rfl | rfl | rfl <;> rfl
/-- nothing behind rows of the call's own -/
theorem wpList_append_none {α : Type} {sz : Nat} {cv : α → List Value} {P : Program} {w : World} {ops : Array Oper} {rest : List Oper} {o : Oper} {a : Act} {Q : Exit → Act → World → Prop} (hgd : o.guard = none) (s x : Operand) (t e : TypeId)
    (ho : o.op = .call { callee := .builtin .append, args := #[s, x], argTypes := #[t, t] }) (i : TypeInfo) (ht : P.underlying t = some (.slice e)) (hi : P.info? e = some i) (w0 : World) (v : Value) (xs : List α) (hs : a.eval s = v) (hown : OwnR e sz cv w0 w v xs) (hx : a.eval x = .slice none 0 0)
    (h : wpList P ops Q rest (a.put o.dst v) w) : wpList P ops Q (o :: rest) a w :=
  wpList_plain hgd fun _ hK => by
    have hrun := run_append_owned_none (P := P) (w := w) 0 t o.type e i sz ht hi v xs.length (rowCells cv xs) hown.1
    unfold Oper.wp
    simp [execOp, ho, resolve, invoke, builtin, hs, hx, hrun, Result.andThen]
    exact hK _ _ h
theorem one_of_nodup {α : Type} {l : List α} {a : α} (hn : l.Nodup) (h : ∀ b, b ∈ l ↔ b = a) : l = [a] := by
  match l, hn, h with
  | [], _, h => exact absurd ((h a).2 rfl) (by simp)
  | [b], _, h => rw [(h b).1 List.mem_cons_self]
  | b :: c :: r, hn, h =>
    have h1 := (h b).1 List.mem_cons_self
    have h2 := (h c).1 (List.mem_cons_of_mem _ List.mem_cons_self)
    rw [List.nodup_cons] at hn
    exact absurd (by rw [h1, ← h2]; exact List.mem_cons_self) hn.1
theorem routers_one {lk : StandR → List LinkD} {me : Nat} {x : StandR} {w : World} {es : List OwnE} (h : Routers me lk [x] w es) : ∃ e1, es = [e1] ∧ e1.area = x.s.area := by
  have h1 := one_of_nodup (a := x.s.area) h.n (fun b => by rw [h.l b]; simp [eq_comm])
  have h2 := congrArg List.length h1
  rw [List.length_map] at h2
  obtain ⟨e, rfl⟩ := List.length_eq_one_iff.1 h2
  exact ⟨e, rfl, by simpa using h1⟩
def meOf (ls : List LineD) : Nat := (addrL (valueR ls 0 [] [114, 111, 117, 116, 101, 114, 45, 105, 100])).getD 0
theorem links_post {x : StandR} (h1 : x.dr = 0) (h2 : x.s.two = false) (W : World) : Calls Tryz.prog 57 #[.agg x.vals.toArray] W (LinksPost W [netL15 x.s]) := by
  obtain ⟨s, nm, dr, p, n, c⟩ := x
  obtain rfl : dr = 0 := h1
  refine (standLinks_alone s nm n c p W h2).mono ?_
  rintro e w' ⟨p, c, rfl, h1, h2⟩
  exact ⟨p, c, rfl, h1, h2⟩
def AloneP (s : SetD) (me : Nat) (w : World) (e : Ending) (w' : World) : Prop := ∃ (p : Option Addr) (c : Nat) (e1 : OwnE), e = .returned (.tuple #[.slice p 1 c, .int .i64 0]) ∧ RowsAt 10 OwnE.vals w' (.slice p 1 c) [e1] ∧ e1.area = s.area ∧ e1.type = 1 ∧ e1.id = me ∧ e1.me = me ∧ e1.mask = 0 ∧ e1.p7 = none ∧ e1.n7 = 0 ∧ e1.c7 = 0 ∧ e1.n5 = 1 ∧ RowsAt 4 linkVals w' (.slice e1.p5 e1.n5 e1.c5) [netL15 s] ∧ Keeps (fun _ => False) w w'
set_option maxRecDepth 100000 in
set_option maxHeartbeats 8000000 in
theorem advAll_one (v : Value) (ls : List LineD) (n : List UInt8) (s : SetD) (me : Nat) (w : World) (hv : Hid (RowsAt 4 lineVals w v ls)) (hr : Hid (rightC ls = true)) (hc : Hid (checkC ls = [])) (hn : Hid (namesA 2 ls = [n])) (hs : Hid (setD ls n = s)) (htwo : Hid (s.two = false)) (ha : s.area < 4294967296) (hme : Hid (meOf ls = me)) :
    Calls Tryz.prog 6 #[v, .slice none 0 0] w (AloneP s me w) := by
  obtain ⟨p, c, rfl⟩ := hv.out.slice
  have h0 : 0 < ls.length := by
    have h1 := namesA_len 2 ls
    rw [hn.out] at h1
    exact h1
  obtain ⟨i0, hi0, hi1, hi2, hi3⟩ := standAll15
  obtain ⟨i1, hj0, hj1, hj2, hj3⟩ := ownAll15
  have hus := Lib.hid (isUsable_c _ ls true w hv hr (Lib.hid (by rw [hc.out]; rfl)))
  obtain ⟨N, hN⟩ : ∃ N : ByteArray, (⟨n.toArray⟩ : ByteArray) = N := ⟨_, rfl⟩
  have hN' := Lib.hid hN
  obtain ⟨area, addr, mask, cost, hello, dead, again, prio, two, auth⟩ := s
  obtain ⟨x, hx⟩ : ∃ x : StandR, (⟨⟨area, addr, mask, cost, hello, dead, again, prio, two, auth⟩, n, 0, none, 0, 0⟩ : StandR) = x := ⟨_, rfl⟩
  have hxv : x.vals = [.int .u32 area, .int .u32 addr, .int .u32 mask, .int .i64 cost, .int .i64 hello, .int .i64 dead, .int .i64 again, .int .i64 prio, .bool two, strv auth, .string N, .int .u32 0, .slice none 0 0] := by rw [← hx, ← hN]; rfl
  have hxv' := Lib.hid hxv
  have hxs : Hid (x.s = ⟨area, addr, mask, cost, hello, dead, again, prio, two, auth⟩ ∧ x.dr = 0 ∧ x.n = 0 ∧ x.p = none ∧ x.c = 0) := Lib.hid (by rw [← hx]; exact ⟨rfl, rfl, rfl, rfl, rfl⟩)
  clear hN hx hxv
  go_enter Tryz.func6, Tryz.ntmps6
  go_wp2_with fail
  refine hus.out.mono ?_
  rintro e w1 ⟨rfl, hk1⟩
  have hn1 := Lib.hid (names_all _ ls 2 w1 (Lib.hid (hv.out.keep hk1)) hr)
  rw [hn.out] at hn1
  have hk1' := Lib.hid hk1
  clear hus hk1
  go_wp2_with fail
  refine hn1.out.mono ?_
  rintro e w2 ⟨pn, cn, rfl, hS, hk2⟩
  have hS2 := Lib.hid hS
  have hk2' := Lib.hid (hk1'.out.trans hk2)
  clear hn1 hk2 hk1' hS
  go_wp2_with fail
  refine (areOf_nil _ _).mono ?_
  rintro e w3 ⟨rfl, hk3⟩
  have hS3 : Hid (∃ g o, pn = some ⟨g, o, none⟩ ∧ w3.cell? ⟨g, o + 0, none⟩ = some (.string N)) := Lib.hid (by
    obtain ⟨g, o, e, hcell⟩ := StrsAt.get hS2.out (k := 0) (x := n) rfl
    rw [hN'.out] at hcell
    exact ⟨g, o, e, (hk3.cell (p := ⟨g, o + 0, none⟩) (World.block_lt_of_cell? _ _ hcell) id).trans hcell⟩)
  obtain ⟨g, o, rfl, hcell⟩ := hS3.out
  have hcell' := Lib.hid hcell
  have hk3' := Lib.hid (hk2'.out.trans hk3)
  have hO3 : Hid (OwnR 67 13 StandR.vals w3 w3 (.slice none 0 0) []) := Lib.hid (OwnR.nil _ _ (Nat.le_refl _))
  clear hk3 hk2' hS2 hS3 hcell
  go_wp2_with fail
  go_loopw [23, 7] (fun iv ov wr => ∃ (k : Nat) (q : Option Addr) (d : Nat), k ≤ 1 ∧ iv = .int .i64 k ∧ ov = .slice q k d ∧ Hid (OwnR 67 13 StandR.vals w3 wr ov ([x].take k)) ∧ Hid (Keeps (fun _ => False) w3 wr)) (fun iv _ _ => 1 - (intOf iv).toNat)
  case atStart => exact ⟨0, none, 0, by omega, rfl, rfl, hO3, Lib.hid (Keeps.refl _ _)⟩
  case round =>
    obtain ⟨k, q, d, hk, rfl, rfl, hO, hkr⟩ := hrel
    by_cases hk0 : k = 0
    · subst hk0
      have hcr := (hkr.out.cell (p := ⟨g, o + 0, none⟩) (World.block_lt_of_cell? _ _ hcell'.out) id).trans hcell'.out
      rw [Nat.add_zero] at hcr
      have hst := Lib.hid (settings_any _ ls n wr (Lib.hid (hv.out.keep (hk3'.out.trans hkr.out))) hr h0)
      unfold strv at hst
      rw [hN'.out, hs.out] at hst
      have esv : (setVals ⟨area, addr, mask, cost, hello, dead, again, prio, two, auth⟩).toArray = #[.int .u32 area, .int .u32 addr, .int .u32 mask, .int .i64 cost, .int .i64 hello, .int .i64 dead, .int .i64 again, .int .i64 prio, .bool two, strv auth] := rfl
      rw [esv] at hst
      clear esv
      go_wp2_with fail
      refine hst.out.mono ?_
      rintro e w4 ⟨rfl, hk4⟩
      have hk4' := Lib.hid (hkr.out.trans hk4)
      have hO4 := Lib.hid (hO.out.keep hk4 (fun _ _ f => f))
      clear hst hk4 hkr hO hcr
      go_wp2_with fail
      refine (faceOf_nil _ _).mono ?_
      rintro e w5 ⟨rfl, hk5⟩
      have kA := hk5.alloc (.cells x.vals.toArray 67)
      have hk5' := Lib.hid (hk4'.out.trans kA)
      have hO5 := Lib.hid (hO4.out.keep kA (fun _ _ f => f))
      have hcn := cells_new (w := w5) rfl x.vals 67
      rw [hxv'.out] at hk5' hO5 hcn
      have hxl : Hid (∀ j u, x.vals[j]? = some u → (w5.alloc (.cells #[.int .u32 area, .int .u32 addr, .int .u32 mask, .int .i64 cost, .int .i64 hello, .int .i64 dead, .int .i64 again, .int .i64 prio, .bool two, strv auth, .string N, .int .u32 0, .slice none 0 0] 67)).cell? ((⟨w5.heap.size, 0, none⟩ : Addr).add j) = some u) := Lib.hid (by rw [hxv'.out]; exact hcn)
      clear kA hk5 hO4 hk4' hcn
      go_wp2_with ((with_reducible refine at_slot 36 ?_); refine wpList_append_r rfl (.tmp 27) (.tmp 35) 60 67 rfl i0 _ 128 Tryz.underlying60 hi0 hi1 hi2 hi3 rfl (by decide) (by decide) stand_len w3 _ 0 ([x].take 0) rfl rfl hO5.out _ rfl x hxl.out (stand_one _) (by omega) ?_; intro q8 d8 w6 hO6 hg6)
      exact ⟨⟨1, q8, d8, by omega, rfl, rfl, hO6, Lib.hid (hO5.out.keeps hk5'.out hg6.out)⟩, by simp [intOf]⟩
    · obtain rfl : k = 1 := by omega
      go_wp2_with fail
      have hRw := Lib.hid (hO.out.at stand_len)
      have hkW := Lib.hid (hk3'.out.trans hkr.out)
      refine (advId_c _ ls wr (Lib.hid (hv.out.keep hkW.out)) hr me (Lib.hid hme.out)).mono ?_
      rintro e w4 ⟨rfl, hk4⟩
      have hR4 := Lib.hid (hRw.out.keep hk4)
      have hk4' := Lib.hid (hkW.out.trans hk4)
      clear hRw hkW hk4 hkr hO hO3 hcell' hk3'
      have r1 : Hid (∀ y ∈ [x], ((fun x : StandR => [netL15 x.s]) y).length ≤ 9) := Lib.hid (fun y _ => by show 1 ≤ 9; omega)
      have r2 : Hid (∀ y ∈ [x], y.s.area < 4294967296) := Lib.hid (fun y hy => by rw [List.mem_singleton.1 hy, hxs.out.1]; exact ha)
      have _mark1 := True.intro
      have r3 : Hid (∀ y ∈ [x], ∀ W, Keeps (fun _ => False) w4 W → Calls Tryz.prog 57 #[.agg y.vals.toArray] W (LinksPost W ((fun x : StandR => [netL15 x.s]) y))) := Lib.hid (fun y hy W _ => by
        rw [List.mem_singleton.1 hy]
        exact links_post hxs.out.2.1 (by rw [hxs.out.1]; exact htwo.out) W)
      have _mark2 := True.intro
      have hro := Lib.hid (routers_any (fun x => [netL15 x.s]) me _ [x] w4 hR4 (Nat.le_of_ble_eq_true rfl) r1 r2 r3)
      have _mark := True.intro
      go_wp2_with fail
      refine hro.out.mono ?_
      rintro e w5 ⟨es, po, co, rfl, hOw, hRo, -, hk5⟩
      obtain ⟨e1, rfl, he1⟩ := routers_one hRo
      have hOw5 := Lib.hid hOw
      have hRo5 := Lib.hid hRo
      have he1' := Lib.hid he1
      have hR5 := Lib.hid (hR4.out.keep hk5)
      have hk5' := Lib.hid (hk4'.out.trans hk5)
      clear hro hOw hRo he1 hR4 hk5 hk4'
      go_wp2_with fail
      refine (networks_none me _ [x] w5 (Lib.hid hR5.out) (by simp) (Lib.hid (fun y hy => by
        rw [List.mem_singleton] at hy
        rw [hy, hxs.out.2.1]
        unfold speaksB
        simp))).mono ?_
      rintro e w6 ⟨rfl, hk6⟩
      have hOw6 := Lib.hid (hOw5.out.keep hk6 (fun _ _ f => f))
      have hk6' := Lib.hid (hk5'.out.trans hk6)
      have hk56 := Lib.hid hk6
      clear hR5 hk5' hk6
      go_wp2_with ((with_reducible refine at_slot 46 ?_); refine wpList_append_none rfl (.tmp 42) (.tmp 45) 25 77 rfl i1 Tryz.underlying25 hj0 w4 _ [e1] rfl hOw6.out rfl ?_)
      refine (sortOwn_one _ _ _ _).mono ?_
      rintro e w7 ⟨rfl, rfl⟩
      go_wp2_with fail
      go_ret2
      obtain ⟨e2, e3, e4, e5, e6, e7, e8, e9, e10⟩ := hRo5.out.e e1 List.mem_cons_self
      have el : areaLinks (fun x : StandR => [netL15 x.s]) [x] e1.area = [netL15 x.s] := by
        unfold areaLinks
        rw [he1'.out]
        simp
      rw [el] at e9 e10
      rw [hxs.out.1] at e10
      exact ⟨po, co, e1, rfl, hOw6.out.at ownE_len, by rw [he1'.out, hxs.out.1], e2, e3, e4, e5, e6, e7, e8, e9, e10.keep hk56.out, hk6'.out⟩
end Go.Proofs.YtialookpnoaogaaGreat
/- Of adv: the order of our Lsas. -/
set_option linter.unusedVariables false
set_option linter.unusedSimpArgs false
namespace Go.Proofs.YtialookpnoaogaaGreat
open Go.RowKit Go.Sort

def cmpI (a b : Int) : Int := if a < b then -1 else if a > b then 1 else 0
set_option maxHeartbeats 1000000 in
theorem nanInt_any (a : Int) (w : World) : Calls Tryz.prog 105 #[.int .i64 a] w fun e w' => e = .returned (.bool false) ∧ w = w' := by
  have h : (a != a) = false := by simp
  go_enter Tryz.func105, Tryz.ntmps105
  go_wp2_with fail
  go_ret
  exact ⟨rfl, rfl⟩
set_option maxHeartbeats 1000000 in
set_option maxHeartbeats 1000000 in
theorem cmpInt_any (a b : Int) (w : World) : Calls Tryz.prog 66 #[.int .i64 a, .int .i64 b] w fun e w' => e = .returned (.int .i64 (cmpI a b)) ∧ w = w' := by
  unfold cmpI
  by_cases h1 : a < b
  · rw [if_pos h1]
    go_enter Tryz.func66, Tryz.ntmps66
    go_wp2_with fail
    refine (nanInt_any _ _).mono ?_
    rintro e w' ⟨rfl, rfl⟩
    go_wp2_with fail
    refine (nanInt_any _ _).mono ?_
    rintro e w' ⟨rfl, rfl⟩
    go_wp2_with fail
    go_ret
    exact ⟨rfl, rfl⟩
  · rw [if_neg h1]
    by_cases h2 : a > b
    · rw [if_pos h2]
      go_enter Tryz.func66, Tryz.ntmps66
      go_wp2_with fail
      refine (nanInt_any _ _).mono ?_
      rintro e w' ⟨rfl, rfl⟩
      go_wp2_with fail
      refine (nanInt_any _ _).mono ?_
      rintro e w' ⟨rfl, rfl⟩
      go_wp2_with fail
      go_ret
      exact ⟨rfl, rfl⟩
    · rw [if_neg h2]
      go_enter Tryz.func66, Tryz.ntmps66
      go_wp2_with fail
      refine (nanInt_any _ _).mono ?_
      rintro e w' ⟨rfl, rfl⟩
      go_wp2_with fail
      refine (nanInt_any _ _).mono ?_
      rintro e w' ⟨rfl, rfl⟩
      go_wp2_with fail
      go_ret
      exact ⟨rfl, rfl⟩
def orI (a b : Int) : Int := if a ≠ 0 then a else b
set_option maxHeartbeats 1000000 in
theorem nanU32_any (a : Nat) (w : World) : Calls Tryz.prog 104 #[.int .u32 a] w fun e w' => e = .returned (.bool false) ∧ w = w' := by
  have h : ((a : Int) != (a : Int)) = false := by simp
  go_enter Tryz.func104, Tryz.ntmps104
  go_wp2_with fail
  go_ret
  exact ⟨rfl, rfl⟩
set_option maxHeartbeats 1000000 in
theorem cmpU32_any (a b : Nat) (w : World) : Calls Tryz.prog 65 #[.int .u32 a, .int .u32 b] w fun e w' => e = .returned (.int .i64 (cmpI a b)) ∧ w = w' := by
  unfold cmpI
  by_cases h1 : (a : Int) < b
  · rw [if_pos h1]
    go_enter Tryz.func65, Tryz.ntmps65
    go_wp2_with fail
    refine (nanU32_any _ _).mono ?_
    rintro e w' ⟨rfl, rfl⟩
    go_wp2_with fail
    refine (nanU32_any _ _).mono ?_
    rintro e w' ⟨rfl, rfl⟩
    go_wp2_with fail
    go_ret
    exact ⟨rfl, rfl⟩
  · rw [if_neg h1]
    by_cases h2 : (a : Int) > b
    · rw [if_pos h2]
      go_enter Tryz.func65, Tryz.ntmps65
      go_wp2_with fail
      refine (nanU32_any _ _).mono ?_
      rintro e w' ⟨rfl, rfl⟩
      go_wp2_with fail
      refine (nanU32_any _ _).mono ?_
      rintro e w' ⟨rfl, rfl⟩
      go_wp2_with fail
      go_ret
      exact ⟨rfl, rfl⟩
    · rw [if_neg h2]
      go_enter Tryz.func65, Tryz.ntmps65
      go_wp2_with fail
      refine (nanU32_any _ _).mono ?_
      rintro e w' ⟨rfl, rfl⟩
      go_wp2_with fail
      refine (nanU32_any _ _).mono ?_
      rintro e w' ⟨rfl, rfl⟩
      go_wp2_with fail
      go_ret
      exact ⟨rfl, rfl⟩

set_option maxHeartbeats 1000000 in
theorem orInt3_any (g c0 : Nat) (a b c : Int) (z : Int) (w : World) (hz : Hid (orI a (orI b c) = z)) (h : Hid (w.rangeAt g 0 [.int .i64 a, .int .i64 b, .int .i64 c])) :
    Calls Tryz.prog 64 #[.slice (some ⟨g, 0, none⟩) 3 c0] w fun e w' => e = .returned (.int .i64 z) ∧ w = w' := by
  have h0 : w.cell? ⟨g, 0, none⟩ = some (.int .i64 a) := h.out 0 _ rfl
  have h1 : w.cell? ⟨g, 1, none⟩ = some (.int .i64 b) := h.out 1 _ rfl
  have h2 : w.cell? ⟨g, 2, none⟩ = some (.int .i64 c) := h.out 2 _ rfl
  have hzA : Hid (a ≠ 0 → a = z) := Lib.hid (fun e => by rw [← hz.out]; unfold orI; rw [if_pos e])
  have hzB : Hid (a = 0 → b ≠ 0 → b = z) := Lib.hid (fun e f => by rw [← hz.out]; unfold orI; rw [if_neg (fun h => h e), if_pos f])
  have hzC : Hid (a = 0 → b = 0 → c = z) := Lib.hid (fun e f => by rw [← hz.out]; unfold orI; rw [if_neg (fun h => h e), if_neg (fun h => h f)])
  clear h hz
  go_enter Tryz.func64, Tryz.ntmps64
  go_wp2_with fail
  go_loop [8] (fun iv => ∃ k : Nat, k ≤ 3 ∧ iv = .int .i64 k ∧ (1 ≤ k → a = 0) ∧ (2 ≤ k → b = 0) ∧ (3 ≤ k → c = 0)) (fun iv => 3 - (intOf iv).toNat)
  case atStart => exact ⟨0, by omega, rfl, by omega, by omega, by omega⟩
  case round =>
    obtain ⟨k, hk, rfl, ha, hb, hc⟩ := hrel
    have ha' := Lib.hid ha; have hb' := Lib.hid hb; have hc' := Lib.hid hc
    clear ha hb hc
    have hk3 : k = 0 ∨ k = 1 ∨ k = 2 ∨ k = 3 := by omega
    rcases hk3 with rfl | rfl | rfl | rfl
    · by_cases e : a = 0
      · have e1 : (a != 0) = false := by rw [e]; rfl
        have e' := Lib.hid e
        clear e
        go_wp2_with fail
        exact ⟨⟨1, by omega, rfl, fun _ => e'.out, by omega, by omega⟩, by simp [intOf]⟩
      · have e1 : (a != 0) = true := by rw [bne_iff_ne]; exact e
        have ez := Lib.hid (hzA.out e)
        clear e
        go_wp2_with fail
        go_ret
        exact ⟨by rw [ez.out]; rfl, rfl⟩
    · by_cases e : b = 0
      · have e1 : (b != 0) = false := by rw [e]; rfl
        have e' := Lib.hid e
        clear e
        go_wp2_with fail
        exact ⟨⟨2, by omega, rfl, fun _ => ha'.out (by omega), fun _ => e'.out, by omega⟩, by simp [intOf]⟩
      · have e1 : (b != 0) = true := by rw [bne_iff_ne]; exact e
        have ez := Lib.hid (hzB.out (ha'.out (by omega)) e)
        clear e
        go_wp2_with fail
        go_ret
        exact ⟨by rw [ez.out]; rfl, rfl⟩
    · by_cases e : c = 0
      · have e1 : (c != 0) = false := by rw [e]; rfl
        have e' := Lib.hid e
        clear e
        go_wp2_with fail
        exact ⟨⟨3, by omega, rfl, fun _ => ha'.out (by omega), fun _ => hb'.out (by omega), fun _ => e'.out⟩, by simp [intOf]⟩
      · have e1 : (c != 0) = true := by rw [bne_iff_ne]; exact e
        have ez := Lib.hid (hzC.out (ha'.out (by omega)) (hb'.out (by omega)))
        clear e
        go_wp2_with fail
        go_ret
        exact ⟨by rw [ez.out]; rfl, rfl⟩
    · have ez : Hid (0 = z) := Lib.hid ((hc'.out (by omega)).symm.trans (hzC.out (ha'.out (by omega)) (hb'.out (by omega))))
      go_wp2_with fail
      go_ret
      exact ⟨by rw [← ez.out]; rfl, rfl⟩
def cmpO (a b : OwnE) : Int := orI (cmpI a.area b.area) (orI (cmpI a.type b.type) (cmpI a.id b.id))
set_option maxRecDepth 100000 in
set_option maxHeartbeats 4000000 in
theorem orderOwn_c (x y : OwnE) (w : World) : Calls Tryz.prog 26 #[.agg x.vals.toArray, .agg y.vals.toArray] w fun e w' => e = .returned (.int .i64 (cmpO x y)) ∧ ∃ q os, w' = grow (w.drewN q) os := by
  obtain ⟨X, hX⟩ : ∃ X, x.vals = X := ⟨_, rfl⟩
  obtain ⟨Y, hY⟩ : ∃ Y, y.vals = Y := ⟨_, rfl⟩
  have x0 : X[0]? = some (.int .u32 x.area) := by rw [← hX]; rfl
  have x2 : X[2]? = some (.int .i64 x.type) := by rw [← hX]; rfl
  have x3 : X[3]? = some (.int .u32 x.id) := by rw [← hX]; rfl
  have y0 : Y[0]? = some (.int .u32 y.area) := by rw [← hY]; rfl
  have y2 : Y[2]? = some (.int .i64 y.type) := by rw [← hY]; rfl
  have y3 : Y[3]? = some (.int .u32 y.id) := by rw [← hY]; rfl
  rw [hX, hY]
  clear hX hY
  obtain ⟨z, hz⟩ : ∃ z, cmpO x y = z := ⟨_, rfl⟩
  rw [hz]
  replace hz := Lib.hid hz
  obtain ⟨xa, xt, xi, xm, xp, xn, xc, xk, xp7, xn7, xc7⟩ := x
  obtain ⟨ya, yt, yi, ym, yp, yn, yc, yk, yp7, yn7, yc7⟩ := y
  simp only at x0 x2 x3 y0 y2 y3
  obtain ⟨wB, hwB⟩ : ∃ W, W = (w.alloc (.cells X.toArray 77)).alloc (.cells Y.toArray 77) := ⟨_, rfl⟩
  have hA : Hid (wB.rangeAt w.heap.size 0 X) := Lib.hid (by rw [hwB]; exact ((BlkAt.new w 77 X).alloc _).range)
  have hB : Hid (wB.rangeAt (w.heap.size + 1) 0 Y) := Lib.hid (by
    have h := (BlkAt.new (w.alloc (.cells X.toArray 77)) 77 Y).range
    rw [show (w.alloc (.cells X.toArray 77)).heap.size = w.heap.size + 1 by simp] at h
    rw [hwB]; exact h)
  have hg : Hid (wB = grow w #[.cells X.toArray 77, .cells Y.toArray 77]) := Lib.hid (by rw [hwB, alloc_eq_grow, alloc_eq_grow, grow_grow]; rfl)
  have hwB' := Lib.hid hwB
  clear hwB
  have hor := Lib.hid (show orI (cmpI xa ya) (orI (cmpI xt yt) (cmpI xi yi)) = z from hz.out)
  go_enter Tryz.func26, Tryz.ntmps26
  go_upto_region 1 with fail
  rw [← hwB'.out]
  refine wp_region_noPanic ?_
  refine wp_region_held_drew (S := (fun W => Keeps (fun _ => False) wB W ∧ ∃ q os, W = grow (w.drewN q) os)) (by kernel_rfl) (⟨(Keeps.refl (fun _ => False) _).drew, 1, _, by rw [hg.out]; rfl⟩) (fun hHeld => ?_)
  refine tk 0 rfl ?_
  refine tkL 1 rfl (yieldsIf_load_cell (by rfl) 40 (.tmp 5) rfl w.heap.size 0 rfl _ (fun _ s => rangeAt_cell (s.1.rangeAt hA.out id) 0 _ x0) (fun w s => load_u32 w _ _ _ s)) ?_
  refine tk 2 rfl ?_
  refine tkL 3 rfl (yieldsIf_load_cell (by rfl) 40 (.tmp 7) rfl (w.heap.size + 1) 0 rfl _ (fun _ s => rangeAt_cell (s.1.rangeAt hB.out id) 0 _ y0) (fun w s => load_u32 w _ _ _ s)) ?_
  refine tk 5 rfl ?_
  refine tk 6 rfl ?_
  refine tk 7 rfl ?_
  refine tkL 8 rfl (yieldsIf_load_cell (by rfl) 3 (.tmp 12) rfl w.heap.size 2 rfl _ (fun _ s => rangeAt_cell (s.1.rangeAt hA.out id) 2 _ x2) (fun w s => load_int w _ _ _ s)) ?_
  refine tk 9 rfl ?_
  refine tk 10 rfl ?_
  refine tk 11 rfl ?_
  refine tkL 12 rfl (yieldsIf_load_cell (by rfl) 3 (.tmp 16) rfl (w.heap.size + 1) 2 rfl _ (fun _ s => rangeAt_cell (s.1.rangeAt hB.out id) 2 _ y2) (fun w s => load_int w _ _ _ s)) ?_
  refine tk 14 rfl ?_
  refine tk 15 rfl ?_
  refine tk 16 rfl ?_
  refine tkL 17 rfl (yieldsIf_load_cell (by rfl) 40 (.tmp 21) rfl w.heap.size 3 rfl _ (fun _ s => rangeAt_cell (s.1.rangeAt hA.out id) 3 _ x3) (fun w s => load_u32 w _ _ _ s)) ?_
  refine tk 18 rfl ?_
  refine tk 19 rfl ?_
  refine tk 20 rfl ?_
  refine tkL 21 rfl (yieldsIf_load_cell (by rfl) 40 (.tmp 25) rfl (w.heap.size + 1) 3 rfl _ (fun _ s => rangeAt_cell (s.1.rangeAt hB.out id) 3 _ y3) (fun w s => load_u32 w _ _ _ s)) ?_
  refine stepL 4 rfl (by kernel_rfl) (fun K hK => ?_)
  go_simp
  (refine (cmpU32_any _ _ _).mono ?_; rintro e w' ⟨rfl, rfl⟩)
  go_wp2_with fail
  refine hK.out _ _ (hHeld) (fun hHeld => ?_)
  clear hK K
  try simp only [Act.put, sA, sZ, sS]
  refine stepL 13 rfl (by kernel_rfl) (fun K hK => ?_)
  go_simp
  (refine (cmpInt_any _ _ _).mono ?_; rintro e w' ⟨rfl, rfl⟩)
  go_wp2_with fail
  refine hK.out _ _ (hHeld) (fun hHeld => ?_)
  clear hK K
  try simp only [Act.put, sA, sZ, sS]
  refine stepL 22 rfl (by kernel_rfl) (fun K hK => ?_)
  go_simp
  (refine (cmpU32_any _ _ _).mono ?_; rintro e w' ⟨rfl, rfl⟩)
  go_wp2_with fail
  refine hK.out _ _ (hHeld) (fun hHeld => ?_)
  clear hK K
  try simp only [Act.put, sA, sZ, sS]
  refine stepL 23 rfl (by kernel_rfl) (fun K hK => ?_)
  go_simp
  refine hK.out _ _ ((⟨hHeld.1.alloc _, 1, _, by rw [hg.out, alloc_eq_grow, grow_grow]; rfl⟩)) (fun hHeld => ?_)
  clear hK K
  try simp only [Act.put, sA, sZ, sS]
  refine stepL 24 rfl (by kernel_rfl) (fun K hK => ?_)
  go_simp
  (refine (orInt3_any _ _ _ _ _ z _ hor (Lib.hid (Keeps.rangeAt ((Keeps.refl (fun _ => False) _).drew) (new_rangeb wB _ _) id))).mono ?_; rintro e w' ⟨rfl, rfl⟩)
  go_wp2_with fail
  refine hK.out _ _ (hHeld) (fun hHeld => ?_)
  clear hK K
  try simp only [Act.put, sA, sZ, sS]
  refine tk 25 rfl ?_
  refine wpAnyH_done (by kernel_rfl) (NoPanic.normal ?_) _
  have hh := Lib.hid hHeld
  clear hHeld
  go_wp2_with fail
  go_ret
  exact ⟨rfl, hh.out.2⟩
end Go.Proofs.YtialookpnoaogaaGreat
