/- Of adv: the document's All, walked (asm_rvp.py out of wip/afg). -/
import Derived.Test.YtialookpnoaogaaGreatAA24
import Derived.Test.YtialookpnoaogaaGreatAA21
import Derived.Test.YtialookpnoaogaaGreatAA23
import Derived.Test.YtialookpnoaogaaGreatAA17
import Derived.Deep.DeepCutAuto
import Derived.Deep.CutBlock
import Derived.BigQuiet
set_option linter.unusedVariables false
set_option linter.unusedSimpArgs false
set_option linter.unusedVariables false
set_option linter.unusedSimpArgs false
namespace Go.Proofs.YtialookpnoaogaaGreat
open Go.RowKit

theorem r10LinkAllG : ∃ i, Tryz.prog.info? 98 = some i ∧ i.zero = some (.agg #[.int .u32 0, .int .u32 0, .int .i64 0, .int .i64 0]) ∧ i.size = 4 ∧ i.bytes = 24 := by
  have h : (Tryz.prog.info? 98).map (fun i => (i.zero, i.size, i.bytes)) = some (some (.agg #[.int .u32 0, .int .u32 0, .int .i64 0, .int .i64 0]), 4, 24) := by kernel_rfl
  obtain ⟨i, hi, e⟩ := Option.map_eq_some_iff.1 h
  injection e with e1 e; injection e with e2 e3
  exact ⟨i, hi, e1, e2, e3⟩
theorem ref15FaceInfo : (Tryz.prog.info? 82).map (·.size) = some 3 := by kernel_rfl
theorem set_oneG (a b c d e f g h : Nat) (t : Bool) (A : ByteArray) : (#[.int .u32 a, .int .u32 b, .int .u32 c, .int .i64 d, .int .i64 e, .int .i64 f, .int .i64 g, .int .i64 h, .bool t, .string A] : Array Value).all (·.oneCell') = true := by
  simp; exact ⟨rfl, rfl, rfl, rfl, rfl, rfl, rfl, rfl, rfl, rfl⟩
theorem r10LinkInfoG : (Tryz.prog.info? 98).map (·.size) = some 4 := by kernel_rfl
theorem load_peersG (w : World) (b o : Nat) (v : Value) (h : w.cell? ⟨b, o, none⟩ = some v) : (loadVar 80 ⟨b, o, none⟩).run Tryz.prog w = .ok v w := by simp [go_sem, h]
theorem load_r10linksG (w : World) (b o : Nat) (v : Value) (h : w.cell? ⟨b, o, none⟩ = some v) : (loadVar 92 ⟨b, o, none⟩).run Tryz.prog w = .ok v w := by simp [go_sem, h]
theorem links_emptyG (w0 w : World) (h : w0.heap.size ≤ w.heap.size) : OwnR 98 4 linkVals w0 (w.alloc (.cells #[] 98)) (.slice (some ⟨w.heap.size, 0, none⟩) 0 0) ([] : List LinkD) := by
  refine ⟨⟨rfl, .inr ⟨w.heap.size, 0, #[], rfl, Nat.zero_le _, heap_alloc_last w _, Nat.le_refl _, by unfold maxLen; omega, by simp, rfl⟩⟩, fun k e => ?_, by simp; omega⟩
  simp only [Value.ownBlock, Option.some.injEq] at e
  omega
theorem wpList_append_rows_nil {α : Type} {sz : Nat} {cv : α → List Value} {P : Program} {w : World} {ops : Array Oper} {rest : List Oper} {o : Oper} {a : Act} {Q : Exit → Act → World → Prop} (hgd : o.guard = none) (s x : Operand) (t e : TypeId)
    (ho : o.op = .call { callee := .builtin .append, args := #[s, x], argTypes := #[t, t] })
    (i : TypeInfo) (z : Value) (by_ : Nat) (ht : P.underlying t = some (.slice e)) (hi : P.info? e = some i) (hz : i.zero = some z) (hsize : i.size = sz) (hby : i.bytes = by_) (hzs : z.cells.size = sz) (hsz0 : 0 < sz) (hby1 : by_ ≤ 100000)
    (hcv : ∀ x, (cv x).length = sz) (h1 : ∀ (x : α), ∀ u ∈ cv x, u.oneCell' = true) (w0 : World) (v : Value) (hs : a.eval s = v) (hown : OwnR e sz cv w0 w v []) (sv : Value) (hx : a.eval x = sv) (ys : List α) (hl : RowsAt sz cv w sv ys) (hsz : ys.length ≤ 1000000000)
    (h : ∀ p c w', Hid (OwnR e sz cv w0 w' (.slice p ys.length c) ys) → Hid (Grown w v p ys.length c w') → wpList P ops Q rest (a.put o.dst (.slice p ys.length c)) w') : wpList P ops Q (o :: rest) a w :=
  wpList_append_rows hgd s x t e ho i z by_ ht hi hz hsize hby hzs hsz0 hby1 hcv h1 w0 v [] hs hown sv hx ys hl (by simpa using hsz) (fun p c w' k1 k2 => by
    have e0 : ([] : List α).length + ys.length = ys.length := by simp
    rw [e0] at k1 k2 ⊢
    exact h p c w' (by simpa using k1) k2)
theorem linkLenG (x : LinkD) : (linkVals x).length = 4 := rfl
theorem ownInfoG : (Tryz.prog.info? 96).map (·.size) = some 10 := by kernel_rfl
theorem ownE_oneG (e : OwnE) : e.vals.toArray.all (·.oneCell') = true := by
  simp [OwnE.vals]
  exact ⟨rfl, rfl, rfl, rfl, rfl, rfl, rfl, rfl, rfl, rfl⟩
def AllPost15 (ls : List LineD) (fs : List FaceE) (me : Nat) (w : World) (e : Ending) (w' : World) : Prop :=
  (FacesOk (namesA 2 ls) fs → ToldPost me (linksC fs) (fullC fs) (standsC ls fs) w e w') ∧ (¬ FacesOk (namesA 2 ls) fs → NewRes (.tuple #[.slice none 0 0, .int .i64 1]) w e w')
set_option maxRecDepth 100000 in
set_option maxHeartbeats 64000000 in
theorem ref15All_any (v fv : Value) (ls : List LineD) (fs : List FaceE) (me : Nat) (w : World) (hv : Hid (RowsAt 4 lineVals w v ls)) (hr : Hid (rightC ls = true)) (hc : Hid (checkC ls = [])) (hf : Hid (RowsAt 3 FaceE.vals w fv fs)) (hfl : fs.length ≤ 1000) (hfp : Hid (∀ f ∈ fs, RowsAt 2 peerVals w (.slice f.p f.full.length f.c) f.full)) (hfm : Hid (∀ f ∈ fs, f.full.length ≤ 1000000000)) (hme : Hid (meOf ls = me)) (hU : Hid (((standsC ls fs).map (·.s.addr)).Nodup)) :
    Calls Tryz.prog 9 #[v, fv] w (AllPost15 ls fs me w) := by
  obtain ⟨p, c, rfl⟩ := hv.out.slice
  obtain ⟨fp, fc, rfl⟩ := hf.out.slice
  obtain ⟨i0, hi0, hi1, hi2, hi3⟩ := ref15OwnAll
  obtain ⟨i1, hj0, hj1, hj2, hj3⟩ := r10LinkAllG
  have hlen := right_len hr.out
  have hlt := Lib.hid (right_lt hr.out 8796093022000 (by omega))
  have hri := Lib.hid (rRight_c _ ls true w (Lib.hid hv.out.lines) (by omega) hlt hr)
  have hnl := namesA_len 2 ls
  obtain ⟨ns, hns⟩ : ∃ ns, namesA 2 ls = ns := ⟨_, rfl⟩
  have hns' := Lib.hid hns
  rw [hns] at hnl
  clear hns
  go_enter Tryz.func9, Tryz.ntmps9
  go_wp2_with fail
  refine hri.out.mono ?_
  rintro e w1 ⟨rfl, hk1⟩
  have hch := Lib.hid (r8Check_c _ ls w1 (Lib.hid (hv.out.keep hk1)) hr)
  rw [doc_same hr.out, hc.out] at hch
  have hk1' := Lib.hid hk1
  clear hri hk1
  go_wp2_with fail
  refine hch.out.mono ?_
  rintro e w2 ⟨p2, c2, rfl, hO, hk2⟩
  have hk2' := Lib.hid (hk1'.out.trans hk2)
  clear hch hO hk2 hk1'
  have l1 : ¬ (0 : Int) < ((([] : List FaultD).length : Nat) : Int) := by simp
  have hn := Lib.hid (rNames_all _ ls 2 w2 (Lib.hid (hv.out.keep hk2'.out)) hr)
  rw [hns'.out] at hn
  go_wp2_with fail
  refine hn.out.mono ?_
  rintro e w3 ⟨pn, cn, rfl, hS3, hk3⟩
  have hk3' := Lib.hid (hk2'.out.trans hk3)
  have hS := Lib.hid hS3
  clear hn hS3 hk3 hk2' l1
  go_wp2_with fail
  go_loopw [7] (fun iv wr => ∃ (k : Nat), k ≤ fs.length ∧ iv = .int .i64 k ∧ Hid (∀ i f, i < k → fs[i]? = some f → FaceOk ns fs i f) ∧ Hid (Keeps (fun _ => False) w3 wr)) (fun iv _ => fs.length - (intOf iv).toNat)
  case atStart => exact ⟨0, by omega, rfl, Lib.hid (fun i f hi => by omega), Lib.hid (Keeps.refl _ _)⟩
  case round =>
    as_aux_lemma =>
      obtain ⟨k, hk, rfl, hF, hKr⟩ := hrel
      by_cases hlk : k < fs.length
      · as_aux_lemma =>
          generalize hgz : wr = W3 at hKr ⊢
          clear hgz
          obtain ⟨f, hx⟩ : ∃ x, fs[k]? = some x := ⟨_, List.getElem?_eq_getElem hlk⟩
          have hkr := Lib.hid (hk3'.out.trans hKr.out)
          have hf3 := Lib.hid (hf.out.keep hkr.out)
          have hS3r := Lib.hid (hS.out.keep hKr.out (fun _ _ _ f => f))
          obtain ⟨g, o, rfl, hrw⟩ := hf3.out.open (by omega)
          obtain ⟨N, hN⟩ : ∃ N : ByteArray, (⟨f.nm.toArray⟩ : ByteArray) = N := ⟨_, rfl⟩
          have hNs : strv f.nm = .string N := by rw [← hN]; rfl
          have hNl : Hid (N.data.toList = f.nm) := Lib.hid (by rw [← hN])
          have c0 : W3.cell? ⟨g, o + k * 3, none⟩ = some (.string N) := by rw [← hNs]; exact hrw k f hx 0 _ rfl
          have c0s : Hid ((FaceE.vals f)[0]? = some (.string N)) := Lib.hid (by rw [← hNs]; rfl)
          have c2 : W3.cell? ⟨g, o + k * 3 + 2, none⟩ = some (.slice f.p f.full.length f.c) := hrw k f hx 2 _ rfl
          have hrw' := Lib.hid hrw
          have hx' := Lib.hid hx
          have hfull := hfm.out f (List.mem_of_getElem? hx)
          obtain ⟨y2, hy2⟩ : ∃ y, ns.contains f.nm = y := ⟨_, rfl⟩
          have hy2' : Hid ((y2 = true) ↔ f.nm ∈ ns) := Lib.hid (by rw [← hy2, List.contains_iff_mem])
          have hct := Lib.hid (has15_any _ ns f.nm y2 W3 hS3r (by omega) (Lib.hid hy2))
          rw [hN] at hct
          have m1 : (0 : Int) ≤ (k : Int) := by omega
          have m2 : (k : Int) < (fs.length : Int) := by omega
          obtain ⟨m, hm⟩ : ∃ m, f.full.length = m := ⟨_, rfl⟩
          have hm' := Lib.hid hm
          rw [hm] at c2 hfull
          clear hx hN hNs hy2 hm hrw
          have hbad : Hid (∀ (hb : ¬ FaceOk ns fs k f) (e : Ending) (w' : World), e = .returned (.tuple #[.slice none 0 0, .int .i64 1]) → Keeps (fun _ => False) w w' → AllPost15 ls fs me w e w') := Lib.hid (fun hb e w' he hk => by
            unfold AllPost15
            rw [hns'.out]
            exact ⟨fun h => absurd (h k f hx'.out) hb, fun _ => ⟨he, hk⟩⟩)
          go_wp2_with fail
          refine hct.out.mono ?_
          rintro e w4 ⟨rfl, rfl⟩
          clear hct
          cases y2 with
          | false =>
            have hnb : Hid (¬ FaceOk ns fs k f) := Lib.hid (fun h => by have := hy2'.out.2 h.2.1; cases this)
            go_wp2_with fail
            go_ret2
            exact hbad.out hnb.out _ _ rfl hkr.out
          | true =>
            by_cases hm8 : 8 < m
            · have hnb : Hid (¬ FaceOk ns fs k f) := Lib.hid (fun h => by have h3 := h.2.2; rw [hm'.out] at h3; omega)
              have m3 : (8 : Int) < (m : Int) := by omega
              go_wp2_with fail
              go_ret2
              exact hbad.out hnb.out _ _ rfl hkr.out
            · have m3 : ¬ (8 : Int) < (m : Int) := by omega
              go_wp2_with fail
              go_loopw [8] (fun jv ws => ∃ (j : Nat), j ≤ k ∧ jv = .int .i64 j ∧ Hid (∀ i f2, i < j → fs[i]? = some f2 → f2.nm ≠ f.nm) ∧ Hid (Keeps (fun _ => False) W3 ws)) (fun jv _ => k - (intOf jv).toNat)
              case atStart => exact ⟨0, by omega, rfl, Lib.hid (fun i f2 hi => by omega), Lib.hid (Keeps.refl _ _)⟩
              case round =>
                as_aux_lemma =>
                  obtain ⟨j, hj, rfl, hJ, hK2⟩ := hrel
                  by_cases hlj : j < k
                  · obtain ⟨f2, hx2⟩ : ∃ x, fs[j]? = some x := ⟨_, List.getElem?_eq_getElem (by omega)⟩
                    obtain ⟨N2, hN2⟩ : ∃ N : ByteArray, (⟨f2.nm.toArray⟩ : ByteArray) = N := ⟨_, rfl⟩
                    have hNs2 : strv f2.nm = .string N2 := by rw [← hN2]; rfl
                    have d0 : wr.cell? ⟨g, o + j * 3, none⟩ = some (.string N2) := by rw [← hNs2]; exact hK2.out.rangeAt (hrw'.out j f2 hx2) id 0 _ rfl
                    have d1 : wr.cell? ⟨g, o + k * 3, none⟩ = some (.string N) := hK2.out.rangeAt (hrw'.out k f hx'.out) id 0 _ c0s.out
                    have n1 : (0 : Int) ≤ (j : Int) := by omega
                    have n2 : (j : Int) < (fs.length : Int) := by omega
                    have n3 : (j : Int) < (k : Int) := by omega
                    obtain ⟨ze, hze⟩ : ∃ z, decide (f2.nm = f.nm) = z := ⟨_, rfl⟩
                    have hE : (N2.toList == N.toList) = ze := by
                      rw [Lib.toList_data, Lib.toList_data, hNl.out, ← hN2, ← hze]
                      by_cases h : f2.nm = f.nm
                      · rw [h]; simp
                      · simp [h]
                    have hze' := Lib.hid hze
                    have hx2' := Lib.hid hx2
                    clear hN2 hNs2 hx2 hze
                    have hd0 := Lib.hid d0
                    have hd1 := Lib.hid d1
                    have hlg := Lib.hid (World.block_lt_of_cell? _ _ d0)
                    have hE' := Lib.hid hE
                    clear d0 d1 hE
                    go_upto_region 12 with fail
                    go_cut [77] (fun tv wx => tv = .bool ze ∧ Hid (Keeps (fun _ => False) wr wx))
                    case first =>
                      refine wp_region_noPanic ?_
                      refine wp_region_held_drew (S := (fun W => Keeps (fun _ => False) wr W)) (by kernel_rfl) (((Keeps.refl _ _).drew)) (fun hHeld => ?_)
                      refine tk 0 rfl ?_
                      refine tk 1 rfl ?_
                      refine tk 2 rfl ?_
                      refine tk 3 rfl ?_
                      refine tkL 4 rfl (yieldsIf_load_cell (by rfl) 9 (.tmp 70) rfl g (o + j * 3) rfl (.string N2) (fun _ s => (s.cell (p := ⟨g, o + j * 3, none⟩) hlg.out id).trans hd0.out) (fun w s => load_str w _ _ _ s)) ?_
                      refine tk 5 rfl ?_
                      refine tk 6 rfl ?_
                      refine tk 7 rfl ?_
                      refine tk 8 rfl ?_
                      refine tkL 9 rfl (yieldsIf_load_cell (by rfl) 9 (.tmp 75) rfl g (o + k * 3) rfl (.string N) (fun _ s => (s.cell (p := ⟨g, o + k * 3, none⟩) hlg.out id).trans hd1.out) (fun w s => load_str w _ _ _ s)) ?_
                      refine tk 10 rfl ?_
                      refine wpAnyH_done (by kernel_rfl) (NoPanic.normal ?_) _
                      have hKd := Lib.hid hHeld
                      clear hHeld
                      go_wp2_with fail
                      go_meet
                      case rel => exact ⟨by rw [hE'.out], hKd⟩
                    case rest =>
                      as_aux_lemma =>
                        obtain ⟨rfl, hk8⟩ := hcut
                        have hK3 := Lib.hid (hK2.out.trans hk8.out)
                        generalize hgz : wc = W8 at hK3 ⊢
                        clear hgz hk8 hK2 hd0 hd1 hlg
                        cases ze with
                        | true =>
                          have hnb : Hid (¬ FaceOk ns fs k f) := Lib.hid (fun h => h.1 ⟨f2, List.mem_of_getElem? (by rw [List.getElem?_take, if_pos hlj]; exact hx2'.out), of_decide_eq_true hze'.out⟩)
                          go_wp2_with fail
                          go_ret2
                          exact hbad.out hnb.out _ _ rfl (hkr.out.trans hK3.out)
                        | false =>
                          have hJ2 : Hid (∀ i f3, i < j + 1 → fs[i]? = some f3 → f3.nm ≠ f.nm) := Lib.hid (fun i f3 hi h3 => by
                            by_cases hij : i = j
                            · subst hij; rw [hx2'.out] at h3; injection h3 with h3; subst h3; exact of_decide_eq_false hze'.out
                            · exact hJ.out i f3 (by omega) h3)
                          go_wp2_with fail
                          exact ⟨⟨j + 1, by omega, by go_num, hJ2, hK3⟩, by simp [intOf]; omega⟩
                  · obtain rfl : j = k := by omega
                    have hF2 : Hid (∀ i f3, i < j + 1 → fs[i]? = some f3 → FaceOk ns fs i f3) := Lib.hid (fun i f3 hi h3 => by
                      by_cases hij : i = j
                      · subst hij
                        rw [hx'.out] at h3; injection h3 with h3; subst h3
                        refine ⟨?_, hy2'.out.1 (by trivial), by rw [hm'.out]; omega⟩
                        rintro ⟨g2, hg2, e2⟩
                        obtain ⟨i2, hi2⟩ := List.mem_iff_getElem?.1 hg2
                        rw [List.getElem?_take] at hi2
                        split at hi2
                        · exact hJ.out i2 g2 (by omega) hi2 e2
                        · cases hi2
                      · exact hF.out i f3 (by omega) h3)
                    go_wp2_with fail
                    exact ⟨⟨j + 1, by omega, by go_num, hF2, Lib.hid (hKr.out.trans hK2.out)⟩, by simp [intOf]; omega⟩
      · obtain rfl : k = fs.length := by omega
        have hok : Hid (FacesOk ns fs) := Lib.hid (fun i f h => hF.out i f (List.getElem?_eq_some_iff.1 h).1 h)
        clear hF hlk hk
        have hk3r := Lib.hid (hk3'.out.trans hKr.out)
        have hSr := Lib.hid (hS.out.keep hKr.out (fun _ _ _ f => f))
        have hidc := Lib.hid (ref15Id_c _ ls wr (Lib.hid (hv.out.keep hk3r.out)) hr me hme)
        go_wp2_with fail
        refine hidc.out.mono ?_
        rintro e w4 ⟨rfl, hk4⟩
        have hS4 := Lib.hid (hSr.out.keep hk4 (fun _ _ _ f => f))
        have hk04 := Lib.hid (hk3r.out.trans hk4)
        have hv4 := Lib.hid (hv.out.keep hk04.out)
        have hf4 := Lib.hid (hf.out.keep hk04.out)
        have hfp4 : Hid (∀ f ∈ fs, RowsAt 2 peerVals w4 (.slice f.p f.full.length f.c) f.full) := Lib.hid (fun f h => (hfp.out f h).keep hk04.out)
        clear hidc hk4 hk3' hk3r hKr hS hSr hv hf hfp
        go_wp2_with fail
        go_loopw [11, 10] (fun iv ov wr => ∃ (k : Nat) (zs : List (OwnE × TellD)) (q : Option Addr) (d : Nat), k ≤ ns.length ∧ iv = .int .i64 k ∧ ov = .slice q zs.length d ∧ zs.length ≤ 2 * k ∧ Hid (zs.map (·.2) = docAll me (linksC fs) (fullC fs) ((ns.take k).map (standOf ls fs))) ∧ Hid (DocS w4 wr (.slice q zs.length d) zs) ∧ Hid (Keeps (fun _ => False) w4 wr)) (fun iv _ _ => ns.length - (intOf iv).toNat)
        case atStart => exact ⟨0, [], none, 0, by omega, rfl, rfl, by simp, Lib.hid rfl, Lib.hid (DocS.nil w4), Lib.hid (Keeps.refl _ _)⟩
        case round =>
          as_aux_lemma =>
            obtain ⟨k, zs, q, d, hk, rfl, rfl, hzk, hD, hZ, hK⟩ := hrel
            by_cases hlk : k < ns.length
            · as_aux_lemma =>
                obtain ⟨n, hn⟩ : ∃ n, ns[k]? = some n := ⟨_, List.getElem?_eq_getElem hlk⟩
                obtain ⟨g, o, rfl, hcell⟩ := StrsAt.get hS4.out hn
                generalize hgz : wr = W3 at hZ hK ⊢
                clear hgz
                have hcg : Hid (g < w4.heap.size) := Lib.hid (World.block_lt_of_cell? _ _ hcell)
                have hcr := (hK.out.cell (p := ⟨g, o + k, none⟩) hcg.out id).trans hcell
                have hin : n ∈ namesA 2 ls := by rw [hns'.out]; exact List.mem_of_getElem? hn
                have hsr : setRes ls n = (setD ls n, 0) := by
                  unfold setRes
                  rw [hc.out, if_neg (by decide), if_neg (by rw [List.contains_iff_mem.2 hin]; decide)]
                have hst := Lib.hid (ref15Settings_c _ ls n W3 (Lib.hid (hv4.out.keep hK.out)) hr)
                rw [hsr] at hst
                have hstep : Hid (docAll me (linksC fs) (fullC fs) ((ns.take (k + 1)).map (standOf ls fs)) = docStep me (linksC fs) (fullC fs) (zs.map (·.2)) (standOf ls fs n)) := Lib.hid (by
                  rw [hD.out, ← docAll_snoc]
                  congr 1
                  rw [List.take_add_one, hn, List.map_append]; rfl)
                have hone : Hid (∀ (a j k2 : Nat) (d e : TellD), (zs.map (·.2))[j]? = some d → (zs.map (·.2))[k2]? = some e → areaRow a d = true → areaRow a e = true → j = k2) := Lib.hid (fun a j k2 d e h1 h2 h3 h4 => by
                  obtain ⟨q1, q2⟩ := docAll_told me (linksC fs) (fullC fs) (standsC ls fs) hU.out k (by unfold standsC; rw [hns'.out, List.length_map]; omega)
                  have e0 : (standsC ls fs).take k = (ns.take k).map (standOf ls fs) := by unfold standsC; rw [hns'.out, List.map_take]
                  rw [e0, ← hD.out] at q1 q2
                  exact doc_one q1 q2 h1 h2 h3 h4)
                have hl40 : Hid (∀ d ∈ zs.map (·.2), d.links.length ≤ 40) := Lib.hid (fun d hd => by
                  obtain ⟨q1, -⟩ := docAll_told me (linksC fs) (fullC fs) (standsC ls fs) hU.out k (by unfold standsC; rw [hns'.out, List.length_map]; omega)
                  have e0 : (standsC ls fs).take k = (ns.take k).map (standOf ls fs) := by unfold standsC; rw [hns'.out, List.map_take]
                  rw [e0, ← hD.out] at q1
                  rcases (q1 d).1 hd with ⟨x, -, rfl⟩ | ⟨x, -, -, rfl⟩
                  · show (List.take 40 _).length ≤ 40
                    rw [List.length_take]; omega
                  · exact Nat.zero_le _)
                have hful := full_at hfp4.out n
                have hful8 := full_len hok.out n
                obtain ⟨x, hx⟩ : ∃ x, standOf ls fs n = x := ⟨_, rfl⟩
                have hxl : linksC fs x = linksS x.s x.dr (faceFor n fs).full := by rw [← hx]; unfold linksC; rw [fullC_of]
                have hxf : fullC fs x = (faceFor n fs).full := by rw [← hx]; exact fullC_of ls fs n
                rw [hx] at hstep
                obtain ⟨hd1, hd2, hd3, hd4⟩ := face_end n fs
                have hfe : Hid ((faceUp n fs fs.length).vals = [strv (faceUp n fs fs.length).nm, .int .u32 (faceFor n fs).dr, .slice (faceFor n fs).p (faceFor n fs).full.length (faceFor n fs).c]) := Lib.hid (by unfold FaceE.vals; rw [hd1, hd2, hd3, hd4])
                obtain ⟨F, hF⟩ : ∃ F, faceFor n fs = F := ⟨_, rfl⟩
                obtain ⟨S, hS⟩ : ∃ S, setD ls n = S := ⟨_, rfl⟩
                rw [hF] at hful hful8 hxl hxf hfe
                have hx2 : x = ⟨S, F.nm, F.dr, F.p, F.full.length, F.c⟩ := by rw [← hx, ← hF, ← hS]; rfl
                rw [hS] at hst
                obtain ⟨nm, dr, fp2, fc2, full⟩ := F
                have hstep2 : Hid (docAll me (linksC fs) (fullC fs) ((ns.take (k + 1)).map (standOf ls fs)) = docRow me S.area (linksS S dr full) (zs.map (·.2)) ++ (if speaksB S dr full.length = true then [⟨S.area, 2, S.addr, me, S.mask, [], netIds me full⟩] else [])) := Lib.hid (by
                  rw [hstep.out]
                  unfold docStep netD
                  rw [hxl, hxf, hx2])
                have hful' : Hid (RowsAt 2 peerVals w4 (.slice fp2 full.length fc2) full) := Lib.hid hful
                have hful8' : full.length ≤ 8 := hful8
                have hfe' : Hid ((faceUp n fs fs.length).vals = [strv (faceUp n fs fs.length).nm, .int .u32 dr, .slice fp2 full.length fc2]) := hfe
                clear hstep hfe hful hful8 hxl hxf hx2 hx hd1 hd2 hd3 hd4 hF hsr hin
                obtain ⟨N, hN⟩ : ∃ N : ByteArray, (⟨n.toArray⟩ : ByteArray) = N := ⟨_, rfl⟩
                have hNl : Hid (N.data.toList = n) := Lib.hid (by rw [← hN])
                obtain ⟨area, addr, mask, cost, hello, dead, again, prio, two, auth⟩ := S
                have hS' := Lib.hid hS
                obtain ⟨AU, hAU⟩ : ∃ N : ByteArray, (⟨auth.toArray⟩ : ByteArray) = N := ⟨_, rfl⟩
                have esv : (setVals ⟨area, addr, mask, cost, hello, dead, again, prio, two, auth⟩).toArray = #[.int .u32 area, .int .u32 addr, .int .u32 mask, .int .i64 cost, .int .i64 hello, .int .i64 dead, .int .i64 again, .int .i64 prio, .bool two, .string AU] := by rw [← hAU]; rfl
                unfold strv at hst hcr
                rw [hN] at hst hcr
                simp only [esv] at hst
                have m1 : (0 : Int) ≤ (k : Int) := by omega
                have m2 : (k : Int) < (ns.length : Int) := by omega
                obtain ⟨SD, hSD⟩ : ∃ S : SetD, (⟨area, addr, mask, cost, hello, dead, again, prio, two, auth⟩ : SetD) = S := ⟨_, rfl⟩
                rw [hSD] at hstep2
                have hSD' : Hid (SD.area = area ∧ SD.addr = addr ∧ SD.mask = mask ∧ SD.cost = cost ∧ SD.two = two) := Lib.hid (by rw [← hSD]; exact ⟨rfl, rfl, rfl, rfl, rfl⟩)
                have hSa : SD.area = area := hSD'.out.1
                have hSb : SD.addr = addr := hSD'.out.2.1
                have hSc : SD.mask = mask := hSD'.out.2.2.1
                rw [hSa, hSb, hSc] at hstep2
                have hcell' := Lib.hid hcell
                have hn' := Lib.hid hn
                clear hSa hSb hSc hSD hS hN hAU esv hcell hn
                go_wp2_with fail
                refine hst.out.mono ?_
                rintro e w5 ⟨rfl, hk5⟩
                have kA := hk5.alloc (.cells #[.int .u32 area, .int .u32 addr, .int .u32 mask, .int .i64 cost, .int .i64 hello, .int .i64 dead, .int .i64 again, .int .i64 prio, .bool two, .string AU] 48)
                have hB5 := Lib.hid (BlkAt.new w5 48 [.int .u32 area, .int .u32 addr, .int .u32 mask, .int .i64 cost, .int .i64 hello, .int .i64 dead, .int .i64 again, .int .i64 prio, .bool two, .string AU])
                have hk5' := Lib.hid kA
                have hlo5 : Hid (W3.heap.size ≤ w5.heap.size) := Lib.hid hk5.size
                clear hst hk5 kA
                go_upto_region 20 with ((with_reducible refine at_store 12 ?_); refine wpList_store_new rfl 48 (.tmp 12) (.tmp 93) rfl _ #[.int .u32 area, .int .u32 addr, .int .u32 mask, .int .i64 cost, .int .i64 hello, .int .i64 dead, .int .i64 again, .int .i64 prio, .bool two, .string AU] rfl rfl ref15Info rfl (set_oneG _ _ _ _ _ _ _ _ _ _) ?_)
                obtain ⟨b12, hb12⟩ : ∃ b, w5.heap.size = b := ⟨_, rfl⟩
                rw [hb12] at hB5 hlo5 ⊢
                generalize hgz : w5.alloc (.cells [.int .u32 area, .int .u32 addr, .int .u32 mask, .int .i64 cost, .int .i64 hello, .int .i64 dead, .int .i64 again, .int .i64 prio, .bool two, .string AU].toArray 48) = W5 at hB5 hk5' ⊢
                clear hb12 hgz
                have hB6 := Lib.hid (BlkAt.new W5 82 [.string ⟨#[]⟩, .int .u32 0, .slice none 0 0])
                have kA := (Keeps.refl (fun _ => False) W5).alloc (.cells #[.string ⟨#[]⟩, .int .u32 0, .slice none 0 0] 82)
                have hk6 := Lib.hid (hk5'.out.trans kA)
                have hB5' := Lib.hid (hB5.out.keep kA id)
                have hlo6 : Hid (W3.heap.size ≤ W5.heap.size ∧ b12 < W5.heap.size) := Lib.hid ⟨hk5'.out.size, lt_of_block hB5.out⟩
                clear kA hk5' hB5
                go_upto_region 21 with ((with_reducible refine at_store 14 ?_); refine wpList_store_new rfl 82 (.tmp 14) (.tmp 95) rfl _ #[.string ⟨#[]⟩, .int .u32 0, .slice none 0 0] rfl rfl ref15FaceInfo rfl (by simp; exact ⟨rfl, rfl, rfl⟩) ?_)
                obtain ⟨b14, hb14⟩ : ∃ b, W5.heap.size = b := ⟨_, rfl⟩
                rw [hb14] at hB6 hlo6 ⊢
                generalize hgz : W5.alloc (.cells [.string ⟨#[]⟩, .int .u32 0, .slice none 0 0].toArray 82) = W6 at hB6 hB5' hk6 ⊢
                clear hb14 hgz
                go_wp2_with fail
                go_loopw [15] (fun iv ws => ∃ (j : Nat), j ≤ fs.length ∧ iv = .int .i64 j ∧ Hid (BlkAt ws b14 82 (faceUp n fs j).vals) ∧ Hid (Keeps (fun i => i = b14) W6 ws)) (fun iv _ => fs.length - (intOf iv).toNat)
                case atStart => exact ⟨0, by omega, rfl, hB6, Lib.hid (Keeps.refl _ _)⟩
                case round =>
                  as_aux_lemma =>
                    obtain ⟨j, hj, rfl, hB, hKj⟩ := hrel
                    by_cases hlj : j < fs.length
                    · as_aux_lemma =>
                        obtain ⟨f, hx⟩ : ∃ x, fs[j]? = some x := ⟨_, List.getElem?_eq_getElem hlj⟩
                        generalize hgz : wr = W7 at hB hKj ⊢
                        clear hgz
                        have hb4 : Hid (w4.heap.size ≤ b14) := Lib.hid (by have h1 := hK.out.size; have := hlo6.out; omega)
                        have hk47 : Hid (Keeps (fun i => i = b14) w4 W7) := Lib.hid ((hK.out.trans hk6.out).mono (fun _ f => f.elim) |>.trans' hKj.out (fun i e => .inl e))
                        obtain ⟨g2, o2, rfl, hrw⟩ := hf4.out.open (by omega)
                        obtain ⟨nm2, dr2, p2, c2, full2⟩ := f
                        obtain ⟨N2, hN2⟩ : ∃ N : ByteArray, (⟨nm2.toArray⟩ : ByteArray) = N := ⟨_, rfl⟩
                        have hN2l : Hid (N2.data.toList = nm2) := Lib.hid (by rw [← hN2])
                        have hrow0 : w4.rangeAt g2 (o2 + j * 3) [.string N2, .int .u32 dr2, .slice p2 full2.length c2] := by rw [← hN2]; exact hrw j _ hx
                        have hg2 : Hid (¬ g2 = b14) := Lib.hid (by have h1 : g2 < w4.heap.size := World.block_lt_of_cell? _ _ (hrow0 0 _ rfl); have := hb4.out; omega)
                        have hrow := Lib.hid (hk47.out.rangeAt hrow0 hg2.out)
                        have hgn : Hid (¬ g = b14) := Lib.hid (by have h1 := hcg.out; have := hb4.out; omega)
                        have hcn : Hid (W7.cell? ⟨g, o + k, none⟩ = some (.string N)) := Lib.hid (by
                          have h1 : w4.cell? ⟨g, o + k, none⟩ = some (.string N) := by have h2 := hcell'.out; unfold strv at h2; rw [← hNl.out] at h2; exact h2
                          exact (hk47.out.cell (p := ⟨g, o + k, none⟩) hcg.out hgn.out).trans h1)
                        have hlg : Hid (g < W7.heap.size ∧ g2 < W7.heap.size) := Lib.hid ⟨World.block_lt_of_cell? _ _ hcn.out, World.block_lt_of_cell? _ _ (hrow.out 0 _ rfl)⟩
                        obtain ⟨ze, hze⟩ : ∃ z, decide (nm2 = n) = z := ⟨_, rfl⟩
                        have hE : (N2.toList == N.toList) = ze := by
                          rw [Lib.toList_data, Lib.toList_data, hNl.out, hN2l.out, ← hze]
                          by_cases h : nm2 = n
                          · rw [h]; simp
                          · simp [h]
                        have hze' := Lib.hid hze
                        have hE' := Lib.hid hE
                        have hx' := Lib.hid hx
                        have n1 : (0 : Int) ≤ (j : Int) := by omega
                        have n2 : (j : Int) < (fs.length : Int) := by omega
                        have hstep4 : Hid ((FaceE.mk nm2 dr2 p2 c2 full2).vals = [.string N2, .int .u32 dr2, .slice p2 full2.length c2]) := Lib.hid (by rw [← hN2]; rfl)
                        clear hN2 hx hrw hrow0 hze hE
                        go_upto_region 24 with fail
                        go_cut [111] (fun tv wx => tv = .bool ze ∧ Hid (Keeps (fun _ => False) W7 wx))
                        case first =>
                          refine wp_region_noPanic ?_
                          refine wp_region_held_drew (S := (fun W => Keeps (fun _ => False) W7 W)) (by kernel_rfl) (((Keeps.refl _ _).drew)) (fun hHeld => ?_)
                          refine tk 0 rfl ?_
                          refine tk 1 rfl ?_
                          refine tk 2 rfl ?_
                          refine tk 3 rfl ?_
                          refine tkL 4 rfl (yieldsIf_load_cell (by rfl) 9 (.tmp 105) rfl g2 (o2 + j * 3) rfl (.string N2) (fun _ s => s.rangeAt hrow.out id 0 _ rfl) (fun w s => load_str w _ _ _ s)) ?_
                          refine tk 5 rfl ?_
                          refine tk 6 rfl ?_
                          refine tk 7 rfl ?_
                          refine tkL 8 rfl (yieldsIf_load_cell (by rfl) 9 (.tmp 109) rfl g (o + k) rfl (.string N) (fun _ s => (s.cell (p := ⟨g, o + k, none⟩) hlg.out.1 id).trans hcn.out) (fun w s => load_str w _ _ _ s)) ?_
                          refine tk 9 rfl ?_
                          refine wpAnyH_done (by kernel_rfl) (NoPanic.normal ?_) _
                          have hK9 := Lib.hid hHeld
                          clear hHeld
                          go_wp2_with fail
                          go_meet
                          case rel => exact ⟨by rw [hE'.out], hK9⟩
                        case rest =>
                          as_aux_lemma =>
                            obtain ⟨rfl, hk8⟩ := hcut
                            have hB8 := Lib.hid (hB.out.keep hk8.out id)
                            have hK8 := Lib.hid (hKj.out.trans (hk8.out.mono (fun _ f => f.elim)))
                            have hrow8 := Lib.hid (hk8.out.rangeAt hrow.out id)
                            generalize hgz : wc = W8 at hB8 hK8 hrow8 ⊢
                            clear hgz hk8 hB hKj hrow hcn hlg hk47
                            cases ze with
                            | false =>
                              have hfu : Hid (faceUp n fs (j + 1) = faceUp n fs j) := Lib.hid (face_no hx'.out (of_decide_eq_false hze'.out))
                              go_wp2_with fail
                              exact ⟨⟨j + 1, by omega, by go_num, by rw [hfu.out]; exact hB8, hK8⟩, by simp [intOf]; omega⟩
                            | true =>
                              have hfu : Hid ((faceUp n fs (j + 1)).vals = [.string N2, .int .u32 dr2, .slice p2 full2.length c2]) := Lib.hid (by rw [face_yes hok.out hx'.out (of_decide_eq_true hze'.out), hstep4.out])
                              obtain ⟨X1, X2, X3, hX⟩ : ∃ a b c, (faceUp n fs j).vals = [a, b, c] := ⟨_, _, _, rfl⟩
                              rw [hX] at hB8
                              have hth := Lib.hid (hB8.out.there 0 3 (Nat.le_refl _))
                              have hB9 := Lib.hid (blk_three hB8.out (.string N2) (.int .u32 dr2) (.slice p2 full2.length c2))
                              have hK9 : Hid (Keeps (fun i => i = b14) W6 (W8.setCells b14 0 [.string N2, .int .u32 dr2, .slice p2 full2.length c2])) := Lib.hid (hK8.out.trans (Keeps.setCells (F := fun i => i = b14) (.inl rfl) _ _ _ (Keeps.refl _ _)))
                              clear hX hB8 hK8
                              go_wp2_with (first | ((with_reducible refine at_slot 115 ?_); refine wpList_load_mid rfl 82 (.tmp 114) rfl g2 (o2 + j * 3) rfl [.string N2, .int .u32 dr2, .slice p2 full2.length c2] _ hrow8.out Tryz.underlying82 rfl ref15FaceInfo ?_) | ((with_reducible refine at_store 14 ?_); refine wpList_store_mid rfl 82 (.tmp 14) (.tmp 115) rfl b14 0 #[.string N2, .int .u32 dr2, .slice p2 full2.length c2] rfl rfl hth.out ref15FaceInfo (by simp; exact ⟨rfl, rfl, rfl⟩) ?_))
                              exact ⟨⟨j + 1, by omega, by go_num, by rw [hfu.out]; exact hB9, hK9⟩, by simp [intOf]; omega⟩
                    · obtain rfl : j = fs.length := by omega
                      rw [hfe'.out] at hB
                      have hB12 := Lib.hid (hB5'.out.keep hKj.out (by have := hlo6.out; omega))
                      have hk7 : Hid (Keeps (fun _ => False) W3 wr) := Lib.hid (hk6.out.trans' hKj.out (fun i e => .inr (by have := hlo6.out; omega)))
                      obtain ⟨NM, hNM⟩ : ∃ v, strv (faceUp n fs fs.length).nm = v := ⟨_, rfl⟩
                      rw [hNM] at hB
                      have hB14 := hB
                      have hNMo : Hid (NM.oneCell' = true) := Lib.hid (by rw [← hNM]; rfl)
                      clear hNM hfe' hKj hB hB5' hB6 hk6 hj hlj
                      generalize hgz : wr = W7 at hB12 hB14 hk7 ⊢
                      clear hgz
                      have hZ7 := Lib.hid (hZ.out.keep hk7.out)
                      have hK7 := Lib.hid (hK.out.trans hk7.out)
                      have hqb : Hid (∀ i, (Value.slice q zs.length d).ownBlock = some i → i < W3.heap.size) := Lib.hid (fun i e => hZ.out.lt e)
                      clear hk7 hZ hK
                      as_aux_lemma =>
                        go_wp2_with fail
                        go_loopw [16, 17] (fun av iv ws => ∃ (j : Nat) (r : Int), j ≤ zs.length ∧ iv = .int .i64 j ∧ av = .int .i64 r ∧ -1 ≤ r ∧ r < (zs.length : Int) ∧ Hid (PosUp area (zs.map (·.2)) j r) ∧ Hid (Keeps (fun _ => False) W7 ws)) (fun _ iv _ => zs.length - (intOf iv).toNat)
                        case atStart => exact ⟨0, -1, by omega, rfl, rfl, by omega, by omega, Lib.hid (.inl ⟨rfl, fun i d hi => by omega⟩), Lib.hid (Keeps.refl _ _)⟩
                        case round =>
                          as_aux_lemma =>
                            obtain ⟨j, r, hj, rfl, rfl, hr1, hr2, hP, hKj⟩ := hrel
                            by_cases hlj : j < zs.length
                            · as_aux_lemma =>
                                generalize hgz : wr = W8 at hKj ⊢
                                clear hgz
                                obtain ⟨⟨⟨ar, ty, ix, me2, p5, n5, c5, mk, p7, n7, c7⟩, D⟩, hz⟩ : ∃ z, zs[j]? = some z := ⟨_, List.getElem?_eq_getElem hlj⟩
                                obtain ⟨ho1, -⟩ := hZ7.out.ok _ (List.mem_of_getElem? hz)
                                have hza : ar = D.area := ho1.area
                                have hzt : ty = D.type := ho1.type
                                have hzm : (zs.map (·.1))[j]? = some (OwnE.mk ar ty ix me2 p5 n5 c5 mk p7 n7 c7) := by rw [List.getElem?_map, hz]; rfl
                                have hzd : Hid ((zs.map (·.2))[j]? = some D) := Lib.hid (by rw [List.getElem?_map, hz]; rfl)
                                obtain ⟨g2, rfl, -, hrow0, -, -⟩ := hZ7.out.own.row ownE_len hzm
                                have hrow := Lib.hid (hKj.out.rangeAt hrow0 id)
                                have hs12 := Lib.hid (hB12.out.keep hKj.out id)
                                obtain ⟨z1, hz1⟩ : ∃ z, decide (ar = area) = z := ⟨_, rfl⟩
                                obtain ⟨z2, hz2⟩ : ∃ z, decide (ty = 1) = z := ⟨_, rfl⟩
                                have e1 : ((ar : Int) == (area : Int)) = z1 := by
                                  rw [← hz1]
                                  by_cases h : ar = area
                                  · simp [h]
                                  · simp [h]; omega
                                have e2 : (ty == (1 : Int)) = z2 := by rw [← hz2]; rfl
                                have hro : Hid (areaRow area D = (z1 && z2)) := Lib.hid (by unfold areaRow; rw [← hza, ← hzt, hz1, hz2])
                                have n1 : (0 : Int) ≤ (j : Int) := by omega
                                have n2 : (j : Int) < (zs.length : Int) := by omega
                                have e2' := Lib.hid e2
                                have hlj' := Lib.hid hlj
                                clear hz1 hz2 hza hzt hzm hz ho1 hrow0 e2
                                go_upto_region 30 with fail
                                go_cut [139] (fun tv wx => tv = .bool (z1 && z2) ∧ Hid (Keeps (fun _ => False) W8 wx))
                                case first =>
                                  cases z1 with
                                  | false =>
                                    refine wp_region_noPanic ?_
                                    refine wp_region_held_drew (S := (fun W => Keeps (fun _ => False) W8 W)) (by kernel_rfl) (((Keeps.refl _ _).drew)) (fun hHeld => ?_)
                                    refine tk 0 rfl ?_
                                    refine tk 1 rfl ?_
                                    refine tk 2 rfl ?_
                                    refine tk 3 rfl ?_
                                    refine tkL 4 rfl (yieldsIf_load_cell (by rfl) 40 (.tmp 125) rfl g2 (j * 10) rfl (.int .u32 ar) (fun _ s => s.rangeAt hrow.out id 0 _ rfl) (fun w s => load_u32 w _ _ _ s)) ?_
                                    refine tk 5 rfl ?_
                                    refine tkL 6 rfl (yieldsIf_load_cell (by rfl) 40 (.tmp 127) rfl b12 0 rfl (.int .u32 area) (fun _ s => s.rangeAt hs12.out.range id 0 _ rfl) (fun w s => load_u32 w _ _ _ s)) ?_
                                    refine tk 7 rfl ?_
                                    refine tk 8 rfl ?_
                                    refine tkS 9 rfl ?_
                                    refine tkS 10 rfl ?_
                                    refine tkS 11 rfl ?_
                                    refine tkS 12 rfl ?_
                                    refine tkS 13 rfl ?_
                                    refine tkS 14 rfl ?_
                                    refine tkS 15 rfl ?_
                                    refine tkS 16 rfl ?_
                                    refine tk 17 rfl ?_
                                    refine wpAnyH_done (by kernel_rfl) (NoPanic.normal ?_) _
                                    have hKd := Lib.hid hHeld
                                    clear hHeld
                                    go_wp2_with fail
                                    go_meet
                                    case rel => exact ⟨rfl, hKd⟩
                                  | true =>
                                    refine wp_region_noPanic ?_
                                    refine wp_region_held_drew (S := (fun W => Keeps (fun _ => False) W8 W)) (by kernel_rfl) (((Keeps.refl _ _).drew)) (fun hHeld => ?_)
                                    refine tk 0 rfl ?_
                                    refine tk 1 rfl ?_
                                    refine tk 2 rfl ?_
                                    refine tk 3 rfl ?_
                                    refine tkL 4 rfl (yieldsIf_load_cell (by rfl) 40 (.tmp 125) rfl g2 (j * 10) rfl (.int .u32 ar) (fun _ s => s.rangeAt hrow.out id 0 _ rfl) (fun w s => load_u32 w _ _ _ s)) ?_
                                    refine tk 5 rfl ?_
                                    refine tkL 6 rfl (yieldsIf_load_cell (by rfl) 40 (.tmp 127) rfl b12 0 rfl (.int .u32 area) (fun _ s => s.rangeAt hs12.out.range id 0 _ rfl) (fun w s => load_u32 w _ _ _ s)) ?_
                                    refine tk 7 rfl ?_
                                    refine tk 8 rfl ?_
                                    refine tk 9 rfl ?_
                                    refine tk 10 rfl ?_
                                    refine tk 11 rfl ?_
                                    refine tk 12 rfl ?_
                                    refine tk 13 rfl ?_
                                    refine tk 14 rfl ?_
                                    refine tkL 15 rfl (yieldsIf_load_cell (by rfl) 3 (.tmp 136) rfl g2 (j * 10 + 2) rfl (.int .i64 ty) (fun _ s => s.rangeAt hrow.out id 2 _ rfl) (fun w s => load_int w _ _ _ s)) ?_
                                    refine tk 16 rfl ?_
                                    refine tk 17 rfl ?_
                                    refine wpAnyH_done (by kernel_rfl) (NoPanic.normal ?_) _
                                    have hKd := Lib.hid hHeld
                                    clear hHeld
                                    go_wp2_with fail
                                    go_meet
                                    case rel => exact ⟨by rw [e2'.out, Bool.true_and], hKd⟩
                                case rest =>
                                  as_aux_lemma =>
                                    obtain ⟨rfl, hk9⟩ := hcut
                                    have hK9 := Lib.hid (hKj.out.trans hk9.out)
                                    generalize hgz : wc = W9 at hK9 ⊢
                                    clear hgz hk9 hKj hrow hs12 e1
                                    obtain ⟨z, hzz⟩ : ∃ z, (z1 && z2) = z := ⟨_, rfl⟩
                                    rw [hzz] at hro ⊢
                                    clear hzz e2'
                                    cases z with
                                    | false =>
                                      have hP2 := Lib.hid (pos_no hP.out hzd.out hro.out)
                                      go_wp2_with fail
                                      exact ⟨⟨j + 1, r, by omega, by go_num, rfl, hr1, hr2, hP2, hK9⟩, by simp [intOf]; omega⟩
                                    | true =>
                                      have hP2 : Hid (PosUp area (zs.map (·.2)) (j + 1) (j : Int)) := Lib.hid (.inr ⟨j, D, rfl, by omega, hzd.out, hro.out⟩)
                                      go_wp2_with fail
                                      exact ⟨⟨j + 1, j, by omega, by go_num, rfl, by omega, by omega, hP2, hK9⟩, by simp [intOf]; omega⟩
                            · obtain rfl : j = zs.length := by omega
                              have hZ8 := Lib.hid (hZ7.out.keep hKj.out)
                              have hK8 := Lib.hid (hK7.out.trans hKj.out)
                              have hBs := Lib.hid (hB12.out.keep hKj.out id)
                              have hBf := Lib.hid (hB14.out.keep hKj.out id)
                              clear hZ7 hK7 hB12 hB14 hKj hlj hj
                              generalize hgz : wr = W8 at hZ8 hK8 hBs hBf ⊢
                              clear hgz
                              go_upto_if 142 with fail
                              go_cut [16, 10] (fun av ov wx => ∃ (i : Nat) (zs2 : List (OwnE × TellD)) (q2 : Option Addr) (d2 : Nat), av = .int .i64 i ∧ ov = .slice q2 zs2.length d2 ∧ zs2.length ≤ 2 * k + 1 ∧ i < zs2.length ∧ Hid (∃ d0, AtRow me area (zs.map (·.2)) (zs2.map (·.2)) i d0) ∧ Hid (DocS w4 wx ov zs2) ∧ Hid (Keeps (fun _ => False) w4 wx) ∧ Hid (BlkAt wx b12 48 [.int .u32 area, .int .u32 addr, .int .u32 mask, .int .i64 cost, .int .i64 hello, .int .i64 dead, .int .i64 again, .int .i64 prio, .bool two, .string AU]) ∧ Hid (BlkAt wx b14 82 [NM, .int .u32 dr, .slice fp2 full.length fc2]))
                              case first =>
                                as_aux_lemma =>
                                  by_cases hneg : r = -1
                                  · have hany : Hid ((zs.map (·.2)).any (areaRow area) = false) := Lib.hid (pos_none (by have h := hP.out; rw [hneg] at h; rw [List.length_map]; exact h))
                                    have m3 : r < 0 := by omega
                                    have kA := (Keeps.refl (fun _ => False) W8).alloc (.cells #[.int .u32 area, .int .i64 0, .int .i64 1, .int .u32 me, .int .u32 me, .int .i64 (-2147483647), .slice none 0 0, .int .u32 0, .slice none 0 0, .int .i64 0] 96)
                                    have hZa := Lib.hid (hZ8.out.keep kA)
                                    have hOa := Lib.hid hZa.out.own
                                    have hKa := Lib.hid (hK8.out.trans kA)
                                    have hBs' := Lib.hid (hBs.out.keep kA id)
                                    have hBf' := Lib.hid (hBf.out.keep kA id)
                                    have c0 := hBs.out.cell 0 _ rfl
                                    have hzl : (zs.map (·.1)).length = zs.length := by rw [List.length_map]
                                    have hzl' := Lib.hid hzl
                                    have hq8 : Hid (b12 < W8.heap.size + 1 ∧ b14 < W8.heap.size + 1) := Lib.hid ⟨Nat.lt_succ_of_lt (lt_of_block hBs.out), Nat.lt_succ_of_lt (lt_of_block hBf.out)⟩
                                    clear kA hneg hzl hZ8 hK8 hBs hBf hP hr1 hr2
                                    go_wp2_with (first | ((with_reducible refine at_slot 152 ?_); refine wpList_built rfl 96 #[(0, .tmp 147), (1, .tmp 151)] rfl [(0, .int .u32 area), (1, .agg #[.int .i64 0, .int .i64 1, .int .u32 me, .int .u32 me, .int .i64 (-2147483647), .slice none 0 0, .int .u32 0, .slice none 0 0, .int .i64 0])] (by simp only [List.map_toArray, List.map_cons, List.map_nil]; rfl) _ (own_built area 1 me me 0 none none 0 0 0 0) ?_) | ((with_reducible refine at_slot 153 ?_); refine wpList_own1 rfl (.tmp 152) rfl area 1 me me 0 none none 0 0 0 0 rfl ?_) | ((with_reducible refine at_slot 154 ?_); refine wpList_append_r rfl (.tmp 145) (.tmp 153) 34 96 rfl i0 _ 104 Tryz.underlying34 hi0 hi1 hi2 hi3 rfl (by decide) (by decide) ownE_len w4 (.slice q zs.length d) zs.length (zs.map (·.1)) hzl'.out rfl hOa.out _ rfl ⟨area, 1, me, me, none, 0, 0, 0, none, 0, 0⟩ (cells_new (w := W8) rfl (OwnE.mk area 1 me me none 0 0 0 none 0 0).vals 96) (ownE_one _) (by omega) ?_; intro q8 d8 w8 hO8 hg8))
                                    go_meet
                                    case rel =>
                                      have hpush := hZa.out.push (e := ⟨area, 1, me, me, none, 0, 0, 0, none, 0, 0⟩) (d := ⟨area, 1, me, me, 0, [], []⟩) ⟨rfl, rfl, rfl, rfl, rfl, rfl, rfl, RowsAt.nil _, nums_nil _⟩ ⟨fun h => by simp at h, fun h => by simp at h⟩ hO8.out hg8.out
                                      have hnb : ∀ b, (b = b12 ∨ b = b14) → ¬ (Value.slice q zs.length d).ownBlock = some b := fun b hb e => by
                                        have := hqb.out b e
                                        have := hlo6.out
                                        have := hlo5.out
                                        rcases hb with rfl | rfl <;> omega
                                      refine ⟨zs.length, zs ++ [(⟨area, 1, me, me, none, 0, 0, 0, none, 0, 0⟩, ⟨area, 1, me, me, 0, [], []⟩)], q8, d8, rfl, by simp, by simp; omega, by simp, Lib.hid ⟨⟨area, 1, me, me, 0, [], []⟩, .inl ⟨hany.out, by rw [List.map_append]; rfl, by rw [List.length_map], rfl⟩⟩, Lib.hid (by simpa using hpush), Lib.hid (hKa.out.trans' hg8.out.k (fun i e => .inr (hOa.out.2.1 i e))), Lib.hid (hBs'.out.keep hg8.out.k (hnb _ (.inl rfl))), Lib.hid (hBf'.out.keep hg8.out.k (hnb _ (.inr rfl)))⟩
                                  · have m3 : ¬ r < 0 := by omega
                                    obtain ⟨i, D, hri, hil, hiD, hia⟩ : ∃ (i : Nat) (D : TellD), r = (i : Int) ∧ i < zs.length ∧ (zs.map (·.2))[i]? = some D ∧ areaRow area D = true := by
                                      rcases hP.out with ⟨e, -⟩ | h
                                      · exact absurd e hneg
                                      · exact h
                                    have hAt : Hid (∃ d0, AtRow me area (zs.map (·.2)) (zs.map (·.2)) i d0) := Lib.hid ⟨D, .inr ⟨rfl, hiD, hia, fun j2 d2 h1 h2 => hone.out area j2 i d2 D h1 hiD h2 hia⟩⟩
                                    clear hP hneg hiD hia
                                    subst hri
                                    go_wp2_with fail
                                    go_meet
                                    case rel => exact ⟨i, zs, q, d, rfl, rfl, by omega, hil, hAt, hZ8, hK8, hBs, hBf⟩
                              case rest =>
                                as_aux_lemma =>
                                  obtain ⟨i, zs2, q2, d2, rfl, rfl, hz2, hiz, hAt, hZ9, hK9, hC12, hC14⟩ := hcut
                                  clear hZ8 hK8 hBs hBf hr1 hr2 hP
                                  generalize hgz : wc = W9 at hZ9 hK9 hC12 hC14 ⊢
                                  clear hgz
                                  as_aux_lemma =>
                                    obtain ⟨nid, hnid⟩ : ∃ x : Nat, bits BinOp.and IntKind.u32 (addr : Int) (mask : Int) = (x : Int) := ⟨_, (Int.toNat_of_nonneg (bits_lo_u32 _ _ _)).symm⟩
                                    have hnet : Hid (netL15 SD = ⟨nid, mask, 3, cost⟩) := Lib.hid (by
                                      unfold netL15
                                      rw [hSD'.out.2.1, hSD'.out.2.2.1, hSD'.out.2.2.2.1, hnid]
                                      simp)
                                    have hnid' := Lib.hid hnid
                                    clear hnid
                                    have s1 := hC12.out.cell 1 _ rfl
                                    have s2 := hC12.out.cell 2 _ rfl
                                    have s3 := hC12.out.cell 3 _ rfl
                                    have hB18 := Lib.hid (BlkAt.new W9 98 [.int .u32 (bits BinOp.and IntKind.u32 (addr : Int) (mask : Int)), .int .u32 mask, .int .i64 3, .int .i64 cost])
                                    have kA := (Keeps.refl (fun _ => False) W9).alloc (.cells #[.int .u32 (bits BinOp.and IntKind.u32 (addr : Int) (mask : Int)), .int .u32 mask, .int .i64 3, .int .i64 cost] 98)
                                    have hZ10 := Lib.hid (hZ9.out.keep kA)
                                    have hK10 := Lib.hid (hK9.out.trans kA)
                                    have hD12 := Lib.hid (hC12.out.keep kA id)
                                    have hD14 := Lib.hid (hC14.out.keep kA id)
                                    clear kA hZ9 hK9 hC12 hC14
                                    go_upto_region 36 with ((with_reducible refine at_store 18 ?_); refine wpList_store_new rfl 98 (.tmp 18) (.tmp 164) rfl _ #[.int .u32 (bits BinOp.and IntKind.u32 (addr : Int) (mask : Int)), .int .u32 mask, .int .i64 3, .int .i64 cost] rfl rfl r10LinkInfoG rfl (link_cells _ _ _ _) ?_)
                                    obtain ⟨b18, hb18⟩ : ∃ b, W9.heap.size = b := ⟨_, rfl⟩
                                    rw [hb18] at hB18 ⊢
                                    generalize hgz : W9.alloc (.cells [.int .u32 (bits BinOp.and IntKind.u32 (addr : Int) (mask : Int)), .int .u32 mask, .int .i64 3, .int .i64 cost].toArray 98) = W10 at hB18 hZ10 hK10 hD12 hD14 ⊢
                                    clear hgz hb18 s1 s2 s3
                                    rw [hnid'.out] at hB18
                                    clear hnid'
                                    go_upto_region 37 with fail
                                    have f1 := hD14.out.cell 1 _ rfl
                                    have f2 := hD14.out.cell 2 _ rfl
                                    have s1 := hD12.out.cell 1 _ rfl
                                    obtain ⟨b1, hb1⟩ : ∃ z, decide (dr ≠ 0) = z := ⟨_, rfl⟩
                                    obtain ⟨b2, hb2⟩ : ∃ z, decide (dr = addr) = z := ⟨_, rfl⟩
                                    obtain ⟨b3, hb3⟩ : ∃ z, decide (0 < full.length) = z := ⟨_, rfl⟩
                                    have y1 : ((dr : Int) != (0 : Int)) = b1 := by
                                      rw [← hb1]
                                      by_cases h : dr = 0
                                      · simp [h]
                                      · simp [h]
                                    have y2 : ((dr : Int) == (addr : Int)) = b2 := by
                                      rw [← hb2]
                                      by_cases h : dr = addr
                                      · simp [h]
                                      · simp [h]; omega
                                    have y3 : decide ((0 : Int) < (full.length : Int)) = b3 := by
                                      rw [← hb3]
                                      by_cases h : 0 < full.length
                                      · simp [h]
                                      · simp [h]
                                    have hsp : Hid (speaksB SD dr full.length = (!two && (b1 && (b2 && b3)))) := Lib.hid (by unfold speaksB; rw [hSD'.out.2.1, hSD'.out.2.2.2.2, hb1, hb2, hb3])
                                    have hb1' : Hid (decide (dr ≠ 0) = b1) := Lib.hid hb1
                                    have hb3' := Lib.hid hb3
                                    clear hb1 hb2 hb3
                                    go_cut [20] (fun tv wx => tv = .bool (b1 && (b2 && b3)) ∧ W10 = wx)
                                    case first =>
                                      as_aux_lemma =>
                                        cases b1 with
                                        | false =>
                                          go_wp2_with fail
                                          go_meet
                                          case rel => exact ⟨rfl, rfl⟩
                                        | true =>
                                          cases b2 with
                                          | false =>
                                            go_wp2_with fail
                                            go_meet
                                            case rel => exact ⟨rfl, rfl⟩
                                          | true =>
                                            go_wp2_with fail
                                            go_meet
                                            case rel => exact ⟨by simpa using hb3'.out, rfl⟩
                                    case rest =>
                                      as_aux_lemma =>
                                        obtain ⟨rfl, rfl⟩ := hcut
                                        obtain ⟨sp, hspe⟩ : ∃ z, (b1 && (b2 && b3)) = z := ⟨_, rfl⟩
                                        rw [hspe] at hsp ⊢
                                        clear hspe y2 y3 f1 f2 s1
                                        have y1' := Lib.hid y1
                                        clear y1
                                        go_wp2_with fail
                                        go_loopw [19, 21, 22] (fun lv wv jv ws => ∃ (j : Nat) (L : List LinkD) (ql : Option Addr) (dl : Nat) (wz : Bool), j ≤ full.length ∧ jv = .int .i64 j ∧ wv = .bool wz ∧ lv = .slice ql L.length dl ∧ L.length ≤ j ∧ Hid (wz = (sp || (b1 && (full.take j).any (fun p => decide (p.addr = dr))))) ∧ Hid (L = if two = true then (full.take j).map (peerL SD) else []) ∧ Hid (OwnR 98 4 linkVals W10 ws (.slice ql L.length dl) L) ∧ Hid (Keeps (fun _ => False) W10 ws)) (fun _ _ jv _ => full.length - (intOf jv).toNat)
                                        case atStart => exact ⟨0, [], none, 0, sp, by omega, rfl, rfl, rfl, by simp, Lib.hid (by simp), Lib.hid (by simp), Lib.hid (OwnR.nil _ _ (Nat.le_refl _)), Lib.hid (Keeps.refl _ _)⟩
                                        case round =>
                                          as_aux_lemma =>
                                            obtain ⟨j, L, ql, dl, wz, hj, rfl, rfl, rfl, hLj, hwz, hL, hO, hKj⟩ := hrel
                                            by_cases hlj : j < full.length
                                            · as_aux_lemma =>
                                                obtain ⟨⟨pid, pad⟩, hpx⟩ : ∃ x, full[j]? = some x := ⟨_, List.getElem?_eq_getElem hlj⟩
                                                generalize hgz : wr = W11 at hO hKj ⊢
                                                clear hgz
                                                obtain ⟨g3, o3, rfl, hrw⟩ := hful'.out.open (by omega)
                                                have hk411 := Lib.hid (hK10.out.trans hKj.out)
                                                have hrow := Lib.hid (hk411.out.rangeAt (hrw j _ hpx) id)
                                                have hE12 := Lib.hid (hD12.out.keep hKj.out id)
                                                have hE14 := Lib.hid (hD14.out.keep hKj.out id)
                                                have f2 := hE14.out.cell 2 _ rfl
                                                have s8 := hE12.out.cell 8 _ rfl
                                                have n1 : (0 : Int) ≤ (j : Int) := by omega
                                                have n2 : (j : Int) < (full.length : Int) := by omega
                                                obtain ⟨ya, hya⟩ : ∃ z, decide (pad = dr) = z := ⟨_, rfl⟩
                                                have hwz2 : Hid ((wz || (b1 && ya)) = (sp || (b1 && (full.take (j + 1)).any (fun p => decide (p.addr = dr))))) := Lib.hid (by
                                                  rw [List.take_add_one, hpx, List.any_append, hwz.out, ← hya]
                                                  simp [Bool.and_or_distrib_left, Bool.or_assoc])
                                                have hL2 : Hid ((if two = true then L ++ [⟨pid, addr, 1, cost⟩] else L) = if two = true then (full.take (j + 1)).map (peerL SD) else []) := Lib.hid (by
                                                  cases two with
                                                  | false => simpa using hL.out
                                                  | true =>
                                                    have h1 := hL.out
                                                    rw [if_pos rfl] at h1 ⊢
                                                    rw [if_pos rfl, List.take_add_one, hpx, List.map_append, ← h1]
                                                    show _ = _ ++ [peerL SD ⟨pid, pad⟩]
                                                    unfold peerL
                                                    rw [hSD'.out.2.1, hSD'.out.2.2.2.1])
                                                have y3 : ((pad : Int) == (dr : Int)) = ya := by
                                                  rw [← hya]
                                                  by_cases h : pad = dr
                                                  · simp [h]
                                                  · simp [h]; omega
                                                have y3' := Lib.hid y3
                                                have hpx' := Lib.hid hpx
                                                clear hrw hpx hya y3
                                                go_upto_region 42 with fail
                                                go_upto_if 190 with fail
                                                go_cut [19] (fun lv wx => ∃ (L2 : List LinkD) (ql2 : Option Addr) (dl2 : Nat), lv = .slice ql2 L2.length dl2 ∧ L2.length ≤ j + 1 ∧ Hid (L2 = if two = true then (full.take (j + 1)).map (peerL SD) else []) ∧ Hid (OwnR 98 4 linkVals W10 wx (.slice ql2 L2.length dl2) L2) ∧ Hid (Keeps (fun _ => False) W10 wx))
                                                case first =>
                                                  cases two with
                                                  | false =>
                                                    go_wp2_with fail
                                                    go_meet
                                                    case rel => exact ⟨L, ql, dl, rfl, by omega, Lib.hid (by have := hL2.out; simpa using this), hO, hKj⟩
                                                  | true =>
                                                    clear f2 s8
                                                    go_upto_region 43 with fail
                                                    refine wp_region_noPanic ?_
                                                    refine wp_region_held_drew (S := (fun W => Keeps (fun i => W10.heap.size ≤ i) W11 W)) (by kernel_rfl) (((Keeps.refl _ _).drew)) (fun hHeld => ?_)
                                                    have kd := (Keeps.refl (fun _ => False) W11).drew
                                                    have hOd := Lib.hid (hO.out.keep kd (fun _ _ f => f))
                                                    have hKd := Lib.hid (hKj.out.trans kd)
                                                    have hnn : Hid (b12 < W10.heap.size ∧ b14 < W10.heap.size ∧ g3 < W10.heap.size) := Lib.hid ⟨lt_of_block hD12.out, lt_of_block hD14.out, by
                                                      have h2 := hful'.out.lt (by omega) (fun _ => Nat.succ_pos _) g3 rfl
                                                      have h3 := hK10.out.size
                                                      omega⟩
                                                    have hf : Hid (∀ W, Keeps (fun i => W10.heap.size ≤ i) W11 W → W.cell? ⟨b14, 2, none⟩ = some (.slice (some ⟨g3, o3, none⟩) full.length fc2) ∧ W.cell? ⟨g3, o3 + j * 2, none⟩ = some (.int .u32 pid) ∧ W.cell? ⟨b12, 1, none⟩ = some (.int .u32 addr) ∧ W.cell? ⟨b12, 3, none⟩ = some (.int .i64 cost)) := Lib.hid (fun W s => by
                                                      obtain ⟨h1, h2, h3⟩ := hnn.out
                                                      exact ⟨(hE14.out.keep s (by omega)).cell 2 _ rfl, s.rangeAt hrow.out (by omega) 0 _ rfl, (hE12.out.keep s (by omega)).cell 1 _ rfl, (hE12.out.keep s (by omega)).cell 3 _ rfl⟩)
                                                    clear kd
                                                    generalize W11.drew = W12 at hHeld hOd hKd ⊢
                                                    refine tk 0 rfl ?_
                                                    refine tk 1 rfl ?_
                                                    refine tkL 2 rfl (yieldsIf_load_cell (by rfl) 80 (.tmp 192) rfl b14 2 rfl (.slice (some ⟨g3, o3, none⟩) full.length fc2) (fun _ s => (hf.out _ s).1) (fun w s => load_peersG w _ _ _ s)) ?_
                                                    refine tk 3 rfl ?_
                                                    refine tk 4 rfl ?_
                                                    refine tk 5 rfl ?_
                                                    refine tkL 6 rfl (yieldsIf_load_cell (by rfl) 40 (.tmp 196) rfl g3 (o3 + j * 2) rfl (.int .u32 pid) (fun _ s => (hf.out _ s).2.1) (fun w s => load_u32 w _ _ _ s)) ?_
                                                    refine tk 7 rfl ?_
                                                    refine tkL 8 rfl (yieldsIf_load_cell (by rfl) 40 (.tmp 198) rfl b12 1 rfl (.int .u32 addr) (fun _ s => (hf.out _ s).2.2.1) (fun w s => load_u32 w _ _ _ s)) ?_
                                                    refine tk 9 rfl ?_
                                                    refine tkL 10 rfl (yieldsIf_load_cell (by rfl) 3 (.tmp 200) rfl b12 3 rfl (.int .i64 cost) (fun _ s => (hf.out _ s).2.2.2) (fun w s => load_int w _ _ _ s)) ?_
                                                    refine tk 11 rfl ?_
                                                    have kA := (Keeps.refl (fun _ => False) W12).alloc (.cells #[.int .u32 pid, .int .u32 addr, .int .i64 1, .int .i64 cost] 98)
                                                    have hT9 := Lib.hid (hOd.out.keep kA (fun _ _ f => f))
                                                    have hKA := Lib.hid (hKd.out.trans kA)
                                                    clear kA
                                                    refine stepL 12 rfl (by kernel_rfl) (fun K hK => ?_)
                                                    go_simp
                                                    refine hK.out _ _ ((hHeld.trans ((Keeps.refl _ _).alloc _))) (fun hHeld => ?_)
                                                    clear hK K
                                                    try simp only [Act.put, sA, sZ, sS]
                                                    refine stepL 13 rfl (by kernel_rfl) (fun K hK => ?_)
                                                    rw [if_pos (by rfl)]
                                                    (refine wp_append_r (.tmp 191) (.tmp 203) 92 98 rfl i1 _ 24 Tryz.underlying92 hj0 hj1 hj2 hj3 rfl (by decide) (by decide) linkLenG W10 (.slice ql L.length dl) L.length L rfl rfl hT9.out _ rfl (LinkD.mk pid addr 1 cost) (cells_new (w := W12) rfl (linkVals ⟨pid, addr, 1, cost⟩) 98) (linkVals_one _) (by omega) ?_; intro q8 d8 W14 hO4 hg4; have hO4' := Lib.hid hO4; have hg4' := Lib.hid hg4; clear hO4 hg4)
                                                    refine hK.out _ _ ((hHeld.trans (hg4'.out.k.mono (G := fun i => W10.heap.size ≤ i) (fun i e => .inl (hT9.out.2.1 i e))))) (fun hHeld => ?_)
                                                    clear hK K
                                                    try simp only [Act.put, sA, sZ, sS]
                                                    refine tk 14 rfl ?_
                                                    refine wpAnyH_done (by kernel_rfl) (NoPanic.normal ?_) _
                                                    have hKk := Lib.hid (hKA.out.trans' hg4'.out.k (fun i e => .inr (hT9.out.2.1 i e)))
                                                    clear hHeld hf hnn hT9 hKA hg4' hOd hKd
                                                    go_wp2_with fail
                                                    go_meet
                                                    case rel => exact ⟨L ++ [⟨pid, addr, 1, cost⟩], q8, d8, by simp, by simp; omega, Lib.hid (by have := hL2.out; simpa using this), Lib.hid (by have := hO4'.out; simpa using this), hKk⟩
                                                case rest =>
                                                  as_aux_lemma =>
                                                    obtain ⟨L2, ql2, dl2, rfl, hLl2, hLe2, hO2, hK2⟩ := hcut
                                                    have hG12 := Lib.hid (hD12.out.keep hK2.out id)
                                                    have hG14 := Lib.hid (hD14.out.keep hK2.out id)
                                                    have hrow2 := Lib.hid ((hK10.out.trans hK2.out).rangeAt (by
                                                      obtain ⟨g3', o3', e, hrw⟩ := hful'.out.open (by omega)
                                                      injection e with e; injection e with e1 e2; subst e1; subst e2
                                                      exact hrw j _ hpx'.out) id)
                                                    generalize hgz : wc = W12 at hO2 hK2 hG12 hG14 hrow2 ⊢
                                                    clear hgz hO hKj hk411 hrow hE12 hE14 f2 s8 hL hL2
                                                    have f1 : Hid (∀ W, Keeps (fun _ => False) W12 W → W.cell? ⟨b14, 1, none⟩ = some (.int .u32 dr) ∧ W.cell? ⟨b14, 2, none⟩ = some (.slice (some ⟨g3, o3, none⟩) full.length fc2) ∧ W.cell? ⟨g3, o3 + j * 2 + 1, none⟩ = some (.int .u32 pad)) := Lib.hid (fun W s => ⟨(hG14.out.keep s id).cell 1 _ rfl, (hG14.out.keep s id).cell 2 _ rfl, s.rangeAt hrow2.out id 1 _ rfl⟩)
                                                    have y1 := y1'.out
                                                    have y3 := y3'.out
                                                    go_upto_region 44 with fail
                                                    cases wz with
                                                    | true =>
                                                      refine wp_region_noPanic ?_
                                                      refine wp_region_held_drew (S := (fun W => Keeps (fun _ => False) W12 W)) (by kernel_rfl) (((Keeps.refl _ _).drew)) (fun hHeld => ?_)
                                                      refine tk 0 rfl ?_
                                                      refine tk 1 rfl ?_
                                                      refine tkS 2 rfl ?_
                                                      refine tkS 3 rfl ?_
                                                      refine tkS 4 rfl ?_
                                                      refine tkS 5 rfl ?_
                                                      refine tkS 6 rfl ?_
                                                      refine tkS 7 rfl ?_
                                                      refine tkS 8 rfl ?_
                                                      refine tkS 9 rfl ?_
                                                      refine tkS 10 rfl ?_
                                                      refine tkS 11 rfl ?_
                                                      refine tkS 12 rfl ?_
                                                      refine tkS 13 rfl ?_
                                                      refine tkS 14 rfl ?_
                                                      refine tkS 15 rfl ?_
                                                      refine tk 16 rfl ?_
                                                      refine tk 17 rfl ?_
                                                      refine wpAnyH_done (by kernel_rfl) (NoPanic.normal ?_) _
                                                      have hKe := Lib.hid (hK2.out.trans hHeld)
                                                      have hOe := Lib.hid (hO2.out.keep hHeld (fun _ _ f => f))
                                                      clear hHeld
                                                      go_wp2_with fail
                                                      exact ⟨⟨j + 1, L2, ql2, dl2, true, by omega, by go_num, rfl, rfl, hLl2, Lib.hid (by rw [← hwz2.out]; rfl), hLe2, hOe, hKe⟩, by simp [intOf]; omega⟩
                                                    | false =>
                                                      cases b1 with
                                                      | false =>
                                                        refine wp_region_noPanic ?_
                                                        refine wp_region_held_drew (S := (fun W => Keeps (fun _ => False) W12 W)) (by kernel_rfl) (((Keeps.refl _ _).drew)) (fun hHeld => ?_)
                                                        refine tk 0 rfl ?_
                                                        refine tk 1 rfl ?_
                                                        refine tk 2 rfl ?_
                                                        refine tkL 3 rfl (yieldsIf_load_cell (by rfl) 40 (.tmp 207) rfl b14 1 rfl (.int .u32 dr) (fun _ s => (f1.out _ s).1) (fun w s => load_u32 w _ _ _ s)) ?_
                                                        refine tk 4 rfl ?_
                                                        refine tk 5 rfl ?_
                                                        refine tkS 6 rfl ?_
                                                        refine tkS 7 rfl ?_
                                                        refine tkS 8 rfl ?_
                                                        refine tkS 9 rfl ?_
                                                        refine tkS 10 rfl ?_
                                                        refine tkS 11 rfl ?_
                                                        refine tkS 12 rfl ?_
                                                        refine tkS 13 rfl ?_
                                                        refine tkS 14 rfl ?_
                                                        refine tk 15 rfl ?_
                                                        refine tk 16 rfl ?_
                                                        refine tk 17 rfl ?_
                                                        refine wpAnyH_done (by kernel_rfl) (NoPanic.normal ?_) _
                                                        have hKe := Lib.hid (hK2.out.trans hHeld)
                                                        have hOe := Lib.hid (hO2.out.keep hHeld (fun _ _ f => f))
                                                        clear hHeld
                                                        go_wp2_with fail
                                                        exact ⟨⟨j + 1, L2, ql2, dl2, false, by omega, by go_num, rfl, rfl, hLl2, Lib.hid (by rw [← hwz2.out]; rfl), hLe2, hOe, hKe⟩, by simp [intOf]; omega⟩
                                                      | true =>
                                                        refine wp_region_noPanic ?_
                                                        refine wp_region_held_drew (S := (fun W => Keeps (fun _ => False) W12 W)) (by kernel_rfl) (((Keeps.refl _ _).drew)) (fun hHeld => ?_)
                                                        refine tk 0 rfl ?_
                                                        refine tk 1 rfl ?_
                                                        refine tk 2 rfl ?_
                                                        refine tkL 3 rfl (yieldsIf_load_cell (by rfl) 40 (.tmp 207) rfl b14 1 rfl (.int .u32 dr) (fun _ s => (f1.out _ s).1) (fun w s => load_u32 w _ _ _ s)) ?_
                                                        refine tk 4 rfl ?_
                                                        refine tk 5 rfl ?_
                                                        refine tk 6 rfl ?_
                                                        refine tkL 7 rfl (yieldsIf_load_cell (by rfl) 80 (.tmp 211) rfl b14 2 rfl (.slice (some ⟨g3, o3, none⟩) full.length fc2) (fun _ s => (f1.out _ s).2.1) (fun w s => load_peersG w _ _ _ s)) ?_
                                                        refine tk 8 rfl ?_
                                                        refine tk 9 rfl ?_
                                                        refine tk 10 rfl ?_
                                                        refine tkL 11 rfl (yieldsIf_load_cell (by rfl) 40 (.tmp 215) rfl g3 (o3 + j * 2 + 1) rfl (.int .u32 pad) (fun _ s => (f1.out _ s).2.2) (fun w s => load_u32 w _ _ _ s)) ?_
                                                        refine tk 12 rfl ?_
                                                        refine tkL 13 rfl (yieldsIf_load_cell (by rfl) 40 (.tmp 217) rfl b14 1 rfl (.int .u32 dr) (fun _ s => (f1.out _ s).1) (fun w s => load_u32 w _ _ _ s)) ?_
                                                        refine tk 14 rfl ?_
                                                        refine tk 15 rfl ?_
                                                        refine tk 16 rfl ?_
                                                        refine tk 17 rfl ?_
                                                        refine wpAnyH_done (by kernel_rfl) (NoPanic.normal ?_) _
                                                        have hKe := Lib.hid (hK2.out.trans hHeld)
                                                        have hOe := Lib.hid (hO2.out.keep hHeld (fun _ _ f => f))
                                                        clear hHeld
                                                        go_wp2_with fail
                                                        exact ⟨⟨j + 1, L2, ql2, dl2, ya, by omega, by go_num, rfl, rfl, hLl2, Lib.hid (by rw [← hwz2.out]; rfl), hLe2, hOe, hKe⟩, by simp [intOf]; omega⟩
                                            · obtain rfl : j = full.length := by omega
                                              rw [List.take_length] at hwz hL
                                              have hE12 := Lib.hid (hD12.out.keep hKj.out id)
                                              have hE14 := Lib.hid (hD14.out.keep hKj.out id)
                                              have hE18 := Lib.hid (hB18.out.keep hKj.out id)
                                              have hZ11 := Lib.hid (hZ10.out.keep hKj.out)
                                              have hK11 := Lib.hid (hK10.out.trans hKj.out)
                                              have hful11 := Lib.hid (hful'.out.keep hK11.out)
                                              generalize hgz : wr = W11 at hO hKj hE12 hE14 hE18 hZ11 hK11 hful11 ⊢
                                              clear hgz hB18 hlj hj
                                              have hwl : Hid (linksS SD dr full = L ++ [if (!two && wz) = true then ⟨dr, addr, 2, cost⟩ else ⟨nid, mask, 3, cost⟩]) := Lib.hid (by
                                                unfold linksS
                                                rw [hsp.out, hnet.out, hSD'.out.2.2.2.2, hL.out, hwz.out]
                                                unfold heardB
                                                rw [hSD'.out.2.2.2.2, hb1'.out, hSD'.out.2.1, hSD'.out.2.2.2.1]
                                                cases two
                                                · simp
                                                  split <;> rfl
                                                · simp)
                                              have f2 := hE14.out.cell 2 _ rfl
                                              have s8 := hE12.out.cell 8 _ rfl
                                              go_upto_region 45 with fail
                                              clear f2
                                              go_cut [227] (fun tv wx => tv = .bool (!two && wz) ∧ W11 = wx)
                                              case first =>
                                                cases two with
                                                | true =>
                                                  go_wp2_with fail
                                                  go_meet
                                                  case rel => exact ⟨rfl, rfl⟩
                                                | false =>
                                                  go_wp2_with fail
                                                  go_meet
                                                  case rel => exact ⟨by simp, rfl⟩
                                              case rest =>
                                                as_aux_lemma =>
                                                  obtain ⟨rfl, rfl⟩ := hcut
                                                  obtain ⟨zw, hzw⟩ : ∃ z, (!two && wz) = z := ⟨_, rfl⟩
                                                  rw [hzw] at hwl ⊢
                                                  clear hzw hwz hL s8
                                                  go_upto_if 227 with fail
                                                  go_cut [19] (fun lv wx => ∃ (ql2 : Option Addr) (dl2 : Nat), lv = .slice ql2 (L.length + 1) dl2 ∧ Hid (OwnR 98 4 linkVals W10 wx lv (linksS SD dr full)) ∧ Hid (Keeps (fun _ => False) W10 wx))
                                                  case first =>
                                                    as_aux_lemma =>
                                                      have f1 := hE14.out.cell 1 _ rfl
                                                      have s1 := hE12.out.cell 1 _ rfl
                                                      have s3 := hE12.out.cell 3 _ rfl
                                                      cases zw with
                                                      | true =>
                                                        have hle : Hid (linksS SD dr full = L ++ [⟨dr, addr, 2, cost⟩]) := Lib.hid (by have := hwl.out; simpa using this)
                                                        have kA := (Keeps.refl (fun _ => False) W11).alloc (.cells #[.int .u32 dr, .int .u32 addr, .int .i64 2, .int .i64 cost] 98)
                                                        have hT9 := Lib.hid (hO.out.keep kA (fun _ _ f => f))
                                                        have hKA := Lib.hid kA
                                                        have hl9 : L.length ≤ 1000 := by omega
                                                        clear kA hZ11 hK11 hful11 hE18
                                                        go_wp2_with (first | ((with_reducible refine at_slot 236 ?_); refine wpList_link1 rfl (.tmp 235) rfl dr addr 2 cost rfl ?_) | ((with_reducible refine at_slot 237 ?_); refine wpList_append_r rfl (.tmp 228) (.tmp 236) 92 98 rfl i1 _ 24 Tryz.underlying92 hj0 hj1 hj2 hj3 rfl (by decide) (by decide) linkLenG W10 (.slice ql L.length dl) L.length L rfl rfl hT9.out _ rfl (LinkD.mk dr addr 2 cost) (cells_new (w := W11) rfl (linkVals ⟨dr, addr, 2, cost⟩) 98) (linkVals_one _) (by omega) ?_; intro q8 d8 W14 hO4 hg4))
                                                        go_meet
                                                        case rel => exact ⟨q8, d8, rfl, Lib.hid (by rw [hle.out]; exact hO4.out), Lib.hid ((hKj.out.trans hKA.out).trans' hg4.out.k (fun i e => .inr (hT9.out.2.1 i e)))⟩
                                                      | false =>
                                                        have hle : Hid (linksS SD dr full = L ++ [⟨nid, mask, 3, cost⟩]) := Lib.hid (by have := hwl.out; simpa using this)
                                                        have kA := (Keeps.refl (fun _ => False) W11).alloc (.cells #[.int .u32 nid, .int .u32 mask, .int .i64 3, .int .i64 cost] 98)
                                                        have hT9 := Lib.hid (hO.out.keep kA (fun _ _ f => f))
                                                        have hKA := Lib.hid kA
                                                        have hl9 : L.length ≤ 1000 := by omega
                                                        clear kA hZ11 hK11 hful11
                                                        go_wp2_with (first | ((with_reducible refine at_slot 239 ?_); refine wpList_load_mid rfl 98 (.tmp 18) rfl b18 0 rfl [.int .u32 nid, .int .u32 mask, .int .i64 3, .int .i64 cost] _ hE18.out.range Tryz.underlying98 rfl r10LinkInfoG ?_) | ((with_reducible refine at_slot 240 ?_); refine wpList_link1 rfl (.tmp 239) rfl nid mask 3 cost rfl ?_) | ((with_reducible refine at_slot 241 ?_); refine wpList_append_r rfl (.tmp 238) (.tmp 240) 92 98 rfl i1 _ 24 Tryz.underlying92 hj0 hj1 hj2 hj3 rfl (by decide) (by decide) linkLenG W10 (.slice ql L.length dl) L.length L rfl rfl hT9.out _ rfl (LinkD.mk nid mask 3 cost) (cells_new (w := W11) rfl (linkVals ⟨nid, mask, 3, cost⟩) 98) (linkVals_one _) (by omega) ?_; intro q8 d8 W14 hO4 hg4))
                                                        go_meet
                                                        case rel => exact ⟨q8, d8, rfl, Lib.hid (by rw [hle.out]; exact hO4.out), Lib.hid ((hKj.out.trans hKA.out).trans' hg4.out.k (fun i e => .inr (hT9.out.2.1 i e)))⟩
                                                  case rest =>
                                                    as_aux_lemma =>
                                                      obtain ⟨ql2, dl2, rfl, hO2, hk12⟩ := hcut
                                                      have hF12 := Lib.hid (hD12.out.keep hk12.out id)
                                                      have hF14 := Lib.hid (hD14.out.keep hk12.out id)
                                                      have hZ12 := Lib.hid (hZ10.out.keep hk12.out)
                                                      have hK12 := Lib.hid (hK10.out.trans hk12.out)
                                                      have hful12 := Lib.hid (hful'.out.keep hK12.out)
                                                      have hR12 := Lib.hid (hO2.out.at linkLenG)
                                                      have hl9 := linksS_len SD dr full hful8'
                                                      have hll : Hid ((linksS SD dr full).length = L.length + 1) := Lib.hid (by rw [hwl.out]; simp)
                                                      generalize hgz : wc = W12 at hO2 hR12 hF12 hF14 hZ12 hK12 hful12 ⊢
                                                      clear hgz hk12 hE12 hE14 hE18 hZ11 hK11 hful11 hO hO2 hKj hnet hZ10 hK10 hD12 hD14
                                                      obtain ⟨LS, hLS⟩ : ∃ l, linksS SD dr full = l := ⟨_, rfl⟩
                                                      rw [hLS] at hstep2 hR12 hl9 hll
                                                      clear hwl hLS hLj
                                                      generalize hln : L.length + 1 = ln at hR12 hll ⊢
                                                      clear hln
                                                      as_aux_lemma =>
                                                        obtain ⟨d0, hat⟩ := hAt.out
                                                        have hat' := Lib.hid hat
                                                        obtain ⟨⟨⟨ear, ety, eix, eme, ep5, en5, ec5, emk, ep7, en7, ec7⟩, zd⟩, hz⟩ : ∃ z, zs2[i]? = some z := ⟨_, List.getElem?_eq_getElem hiz⟩
                                                        have hzd : zd = d0 := by
                                                          have h1 := hat.get
                                                          rw [List.getElem?_map, hz] at h1
                                                          injection h1
                                                        subst hzd
                                                        have hoz := (hZ12.out.ok _ (List.mem_of_getElem? hz)).1
                                                        have hn5 : en5 = zd.links.length := hoz.n5
                                                        subst hn5
                                                        have hzl : Hid (RowsAt 4 linkVals W12 (.slice ep5 zd.links.length ec5) zd.links) := Lib.hid hoz.links
                                                        have hz40 : Hid (zd.links.length ≤ 40) := Lib.hid (by
                                                          rcases hat with ⟨-, -, -, e⟩ | ⟨-, h1, -⟩
                                                          · rw [e]; exact Nat.zero_le _
                                                          · exact hl40.out _ (List.mem_of_getElem? h1))
                                                        have hzm : (zs2.map (·.1))[i]? = some (OwnE.mk ear ety eix eme ep5 zd.links.length ec5 emk ep7 en7 ec7) := by rw [List.getElem?_map, hz]; rfl
                                                        obtain ⟨g2, rfl, -, hrow0, -, hg2⟩ := hZ12.out.own.row ownE_len hzm
                                                        have hrowl : Hid (W12.cell? ⟨g2, i * 10 + 6, none⟩ = some (.slice ep5 zd.links.length ec5)) := Lib.hid (hrow0 6 _ rfl)
                                                        have hg2' := Lib.hid hg2
                                                        have hz' := Lib.hid hz
                                                        have n1 : (0 : Int) ≤ (i : Int) := by omega
                                                        have n2 : (i : Int) < (zs2.length : Int) := by omega
                                                        have kA := (Keeps.refl (fun _ => False) W12).alloc (.cells #[] 98)
                                                        have hE0 := Lib.hid (links_emptyG W12 W12 (Nat.le_refl _))
                                                        have c6 : (W12.alloc (.cells #[] 98)).cell? ⟨g2, i * 10 + 6, none⟩ = some (.slice ep5 zd.links.length ec5) := (kA.cell (p := ⟨g2, i * 10 + 6, none⟩) (World.block_lt_of_cell? _ _ hrowl.out) id).trans hrowl.out
                                                        have hzlA := Lib.hid (hzl.out.keep kA)
                                                        have hkA := Lib.hid kA
                                                        clear hat hz hoz hzm hrow0 hg2 kA
                                                        have hlz : zd.links.length ≤ 1000000000 := by have := hz40.out; omega
                                                        have hz40' : zd.links.length ≤ 40 := hz40.out
                                                        go_upto_region 49 with (first | ((with_reducible refine at_slot 249 ?_); refine wpList_append_rows_nil rfl (.tmp 242) (.tmp 248) 92 98 rfl i1 _ 24 Tryz.underlying92 hj0 hj1 hj2 hj3 rfl (by decide) (by decide) linkLenG linkVals_one W12 _ rfl hE0.out _ rfl zd.links hzlA.out hlz ?_; intro q8 d8 W13 hO13 hg13; have hk13 := Lib.hid (hkA.out.trans' hg13.out.k (fun i e => .inr (hE0.out.2.1 i e))); have hR13 := Lib.hid (hR12.out.keep hk13.out)) | ((with_reducible refine at_slot 251 ?_); refine wpList_append_rows rfl (.tmp 249) (.tmp 250) 92 98 rfl i1 _ 24 Tryz.underlying92 hj0 hj1 hj2 hj3 rfl (by decide) (by decide) linkLenG linkVals_one W12 (.slice q8 zd.links.length d8) zd.links rfl hO13.out (.slice ql2 ln dl2) rfl LS hR13.out (by have := hll.out; omega) ?_; intro q9 d9 W14 hO14 hg14))
                                                        have hk14 := Lib.hid (hk13.out.trans' hg14.out.k (fun i e => .inr (hO13.out.2.1 i e)))
                                                        clear hO13 hg13 hk13 hg14 hE0 hzlA hkA hR13 c6 hR12
                                                        have hZ14 := Lib.hid (hZ12.out.keep hk14.out)
                                                        have hK14 := Lib.hid (hK12.out.trans hk14.out)
                                                        have hI12 := Lib.hid (hF12.out.keep hk14.out id)
                                                        have hI14 := Lib.hid (hF14.out.keep hk14.out id)
                                                        have hful14 := Lib.hid (hful12.out.keep hk14.out)
                                                        have hnew : Hid (∀ j, (Value.slice q9 (zd.links.length + LS.length) d9).ownBlock = some j → ¬ j = g2) := Lib.hid (fun j e e2 => by
                                                          have h1 := hO14.out.2.1 j e
                                                          have h2 : g2 < W12.heap.size := World.block_lt_of_cell? _ _ hrowl.out
                                                          omega)
                                                        have hAR := Lib.hid (hO14.out.at linkLenG)
                                                        have hll' : LS.length = ln := hll.out
                                                        obtain ⟨LT, hLT⟩ : ∃ l, zd.links ++ LS = l := ⟨_, rfl⟩
                                                        have hLTl : zd.links.length + LS.length = LT.length := by rw [← hLT, List.length_append]
                                                        rw [hLT, hLTl] at hAR
                                                        rw [hLTl] at hnew ⊢
                                                        have hLT' := Lib.hid hLT
                                                        clear hZ12 hK12 hF12 hF14 hful12 hk14 hO14 hLT
                                                        obtain ⟨m40, hm40⟩ : ∃ m, min LT.length 40 = m := ⟨_, rfl⟩
                                                        have hcapR : LT.length ≤ d9 := by
                                                          obtain ⟨p', c', e, -, hc, -⟩ := hAR.out
                                                          injection e with e1 e2 e3
                                                          omega
                                                        have hA40 : Hid (RowsAt 4 linkVals W14 (.slice q9 m40 d9) (LT.take m40)) := Lib.hid (hAR.out.take m40 (by omega))
                                                        have ht40 : (LT.take m40).length = m40 := by rw [List.length_take]; omega
                                                        have hlinks := hZ14.out.links hz'.out q9 d9 (LT.take m40) (by rw [ht40]; exact hA40.out) (fun h0 j e => hnew.out j (by cases q9 <;> exact e))
                                                        rw [ht40] at hlinks
                                                        have hlinks' := Lib.hid hlinks
                                                        have hzm2 : (zs2.map (·.1))[i]? = some (OwnE.mk ear ety eix eme ep5 zd.links.length ec5 emk ep7 en7 ec7) := by rw [List.getElem?_map, hz'.out]; rfl
                                                        obtain ⟨g2', e, -, hrow1, hth1, -⟩ := hZ14.out.own.row ownE_len hzm2
                                                        injection e with e; injection e with e _; subst e
                                                        have r1 := hrow1 6 _ rfl
                                                        have r2 := (hth1 6 (by decide)).2
                                                        have m5 : min (LT.length : Int) 40 = (m40 : Int) := by omega
                                                        have m6 : (0 : Int) ≤ (m40 : Int) := by omega
                                                        have m7 : (m40 : Int) ≤ (d9 : Int) := by omega
                                                        have hnt : ∀ (b : Nat) (t : TypeId) (cs : List Value), BlkAt W14 b t cs → t ≠ 96 → ¬ b = g2 := fun b t cs hb ht e => by
                                                          obtain ⟨c1, r1', h1⟩ := hZ14.out.own.type_ g2 rfl
                                                          subst e
                                                          have h2 : _ = some _ := hb
                                                          rw [h1] at h2
                                                          injection h2 with h2
                                                          injection h2 with _ h2 _
                                                          exact ht h2.symm
                                                        have hk15 : Hid (Keeps (fun _ => False) w4 (W14.setCell ⟨g2, i * 10 + 6, none⟩ (.slice q9 m40 d9))) := Lib.hid (hK14.out.trans' (Keeps.setCell (F := fun j => j = g2) (Keeps.refl _ W14) (.inl rfl) _) (fun j e => .inr (by rw [e]; exact hg2'.out)))
                                                        have hJ12 : Hid (BlkAt (W14.setCell ⟨g2, i * 10 + 6, none⟩ (.slice q9 m40 d9)) b12 48 [.int .u32 area, .int .u32 addr, .int .u32 mask, .int .i64 cost, .int .i64 hello, .int .i64 dead, .int .i64 again, .int .i64 prio, .bool two, .string AU]) := Lib.hid (hI12.out.keep (Keeps.setCell (F := fun j => j = g2) (Keeps.refl _ W14) (.inl rfl) _) (hnt _ _ _ hI12.out (by decide)))
                                                        have hJ14 : Hid (BlkAt (W14.setCell ⟨g2, i * 10 + 6, none⟩ (.slice q9 m40 d9)) b14 82 [NM, .int .u32 dr, .slice fp2 full.length fc2]) := Lib.hid (hI14.out.keep (Keeps.setCell (F := fun j => j = g2) (Keeps.refl _ W14) (.inl rfl) _) (hnt _ _ _ hI14.out (by decide)))
                                                        have hLTl' := Lib.hid hLTl
                                                        clear hnt hlinks hzm2 hrow1 hth1 hZ14 hI12 hI14 hful14 hA40 hAR hnew hLTl hll'
                                                        go_upto_region 50 with fail
                                                        as_aux_lemma =>
                                                          generalize hgz : W14.setCell ⟨g2, i * 10 + 6, none⟩ (.slice q9 m40 d9) = W15 at hlinks' hk15 hJ12 hJ14 ⊢
                                                          clear hgz r1 r2 m5 m6 m7 hcapR ht40 hrowl
                                                          have hrow15 : Hid ((docRow me area LS (zs.map (·.2))) = (zs2.set i ({ (OwnE.mk ear ety eix eme ep5 zd.links.length ec5 emk ep7 en7 ec7) with p5 := q9, n5 := m40, c5 := d9 }, { zd with links := LT.take m40 })).map (·.2)) := Lib.hid (by
                                                            rw [hat'.out.row LS, List.map_set, hLT'.out]
                                                            congr 2
                                                            rw [← hm40]
                                                            rcases Nat.le_total LT.length 40 with h | h
                                                            · rw [Nat.min_eq_left h, List.take_of_length_le h, List.take_of_length_le (Nat.le_refl _)]
                                                            · rw [Nat.min_eq_right h])
                                                          obtain ⟨zs3, hzs3⟩ : ∃ z, zs2.set i ({ (OwnE.mk ear ety eix eme ep5 zd.links.length ec5 emk ep7 en7 ec7) with p5 := q9, n5 := m40, c5 := d9 }, { zd with links := LT.take m40 }) = z := ⟨_, rfl⟩
                                                          have hzs3l : zs2.length = zs3.length := by rw [← hzs3, List.length_set]
                                                          have hL3 : Hid (DocS w4 W15 (.slice (some ⟨g2, 0, none⟩) zs3.length d2) zs3) := Lib.hid (by rw [← hzs3l, ← hzs3]; exact hlinks'.out)
                                                          rw [hzs3] at hrow15
                                                          rw [hzs3l] at hz2 ⊢
                                                          rw [hrow15.out] at hstep2
                                                          clear hlinks' hzs3 hzs3l hrow15
                                                          have s8 := hJ12.out.cell 8 _ rfl
                                                          as_aux_lemma =>
                                                            go_cut [267] (fun tv wx => tv = .bool (!two && sp) ∧ W15 = wx)
                                                            case first =>
                                                              cases two with
                                                              | true =>
                                                                go_wp2_with fail
                                                                go_meet
                                                                case rel => exact ⟨rfl, rfl⟩
                                                              | false =>
                                                                go_wp2_with fail
                                                                go_meet
                                                                case rel => exact ⟨by simp, rfl⟩
                                                            case rest =>
                                                              as_aux_lemma =>
                                                                obtain ⟨rfl, rfl⟩ := hcut
                                                                rw [hsp.out] at hstep2
                                                                obtain ⟨zw, hzw⟩ : ∃ z, (!two && sp) = z := ⟨_, rfl⟩
                                                                rw [hzw] at hstep2 ⊢
                                                                clear hzw s8
                                                                cases zw with
                                                                | false =>
                                                                  have hD2 : Hid (zs3.map (·.2) = docAll me (linksC fs) (fullC fs) ((ns.take (k + 1)).map (standOf ls fs))) := Lib.hid (by rw [hstep2.out, if_neg (by decide), List.append_nil])
                                                                  go_wp2_with fail
                                                                  exact ⟨⟨k + 1, zs3, _, d2, by omega, by go_num, rfl, by omega, hD2, hL3, hk15⟩, by simp [intOf]; omega⟩
                                                                | true =>
                                                                  as_aux_lemma =>
                                                                    have kA := (Keeps.refl (fun _ => False) W15).alloc (.cells #[.int .u32 me] 40)
                                                                    have hA0 : Hid (NumsAt (W15.alloc (.cells #[.int .u32 me] 40)) (.slice (some ⟨W15.heap.size, 0, none⟩) ([me] : List Nat).length 1) [me]) := Lib.hid ⟨_, _, rfl, (fun e => by cases e), Nat.le_refl _, fun _ => ⟨_, _, rfl, (BlkAt.new W15 40 [.int .u32 me]).range⟩⟩
                                                                    have hkA := Lib.hid kA
                                                                    have hgg : Hid (g2 < W15.heap.size) := Lib.hid (hL3.out.lt rfl)
                                                                    clear kA
                                                                    go_wp2_with fail
                                                                    go_loopw [24, 25] (fun av jv ws => ∃ (j : Nat) (A : List Nat) (qa : Option Addr) (da : Nat), j ≤ full.length ∧ jv = .int .i64 j ∧ av = .slice qa A.length da ∧ A.length ≤ j + 1 ∧ Hid (A = (full.take j).foldl (fun l p => insN l p.id) [me]) ∧ Hid (A.Pairwise (· < ·)) ∧ Hid (NumsAt ws (.slice qa A.length da) A) ∧ Hid (∀ i, (Value.slice qa A.length da).ownBlock = some i → W15.heap.size ≤ i) ∧ Hid (Keeps (fun _ => False) W15 ws)) (fun _ jv _ => full.length - (intOf jv).toNat)
                                                                    case atStart => exact ⟨0, [me], _, 1, by omega, rfl, rfl, by simp, Lib.hid rfl, Lib.hid (by simp), hA0, Lib.hid (fun i e => by
                                                                      have e : some W15.heap.size = some i := e
                                                                      injection e with e; omega), hkA⟩
                                                                    case round =>
                                                                      as_aux_lemma =>
                                                                        obtain ⟨j, A, qa, da, hj, rfl, rfl, hAl, hAe, hAp, hAn, hAb, hKj⟩ := hrel
                                                                        clear hA0 hkA
                                                                        have hJ14r := Lib.hid (hJ14.out.keep hKj.out id)
                                                                        have f2 := hJ14r.out.cell 2 _ rfl
                                                                        by_cases hlj : j < full.length
                                                                        · obtain ⟨⟨pid, pad⟩, hpx⟩ : ∃ x, full[j]? = some x := ⟨_, List.getElem?_eq_getElem hlj⟩
                                                                          obtain ⟨g3, o3, rfl, hrw⟩ := hful'.out.open (by omega)
                                                                          have hk4r := Lib.hid (hk15.out.trans hKj.out)
                                                                          have hrow := hk4r.out.rangeAt (hrw j _ hpx) id
                                                                          have r1 : wr.cell? ⟨g3, o3 + j * 2, none⟩ = some (.int .u32 pid) := hrow 0 _ rfl
                                                                          have n1 : (0 : Int) ≤ (j : Int) := by omega
                                                                          have n2 : (j : Int) < (full.length : Int) := by omega
                                                                          have hAe2 : Hid (insN A pid = (full.take (j + 1)).foldl (fun l p => insN l p.id) [me]) := Lib.hid (by rw [List.take_add_one, hpx, hAe.out, List.foldl_append]; rfl)
                                                                          have hAp2 := Lib.hid (insN_rise hAp.out pid)
                                                                          have hAl2 := insN_len A pid
                                                                          have hins := Lib.hid (ref15Insert_c (.slice qa A.length da) A pid wr hAn hAp (by omega))
                                                                          clear hrw hpx hrow hAe hAp
                                                                          go_wp2_with fail
                                                                          refine hins.out.mono ?_
                                                                          rintro e ws2 ⟨qb, db, rfl, hBn, hBk, hBb⟩
                                                                          have hBn' := Lib.hid hBn
                                                                          have hKk := Lib.hid (hKj.out.trans hBk)
                                                                          have hBb' : Hid (∀ i, (Value.slice qb (insN A pid).length db).ownBlock = some i → W15.heap.size ≤ i) := Lib.hid (fun i e => by
                                                                            rcases hBb i e with h | h
                                                                            · exact hAb.out i h
                                                                            · exact Nat.le_trans hKj.out.size h)
                                                                          clear hins hBn hBk hBb hAb hAn hKj f2 r1
                                                                          go_wp2_with fail
                                                                          exact ⟨⟨j + 1, insN A pid, qb, db, by omega, by go_num, rfl, by omega, hAe2, hAp2, hBn', hBb', hKk⟩, by simp [intOf]; omega⟩
                                                                        · obtain rfl : j = full.length := by omega
                                                                          have hAn2 : Hid (A = netIds me full) := Lib.hid (by rw [hAe.out, List.take_length]; rfl)
                                                                          have hk16 := Lib.hid (hk15.out.trans hKj.out)
                                                                          have hL4 := Lib.hid (hL3.out.keep hKj.out)
                                                                          have hJ12r := Lib.hid (hJ12.out.keep hKj.out id)
                                                                          have s0 := hJ12r.out.cell 0 _ rfl
                                                                          have s1 := hJ12r.out.cell 1 _ rfl
                                                                          have s2 := hJ12r.out.cell 2 _ rfl
                                                                          generalize hgz : wr = W16 at hAn hk16 hL4 f2 s0 s1 s2 ⊢
                                                                          clear hgz hAe hAp hKj hL3 hk15 hJ12r hJ14r hlj hj hJ12 hJ14
                                                                          have kA := (Keeps.refl (fun _ => False) W16).alloc (.cells #[.int .u32 area, .int .i64 0, .int .i64 2, .int .u32 addr, .int .u32 me, .int .i64 (-2147483647), .slice none 0 0, .int .u32 mask, .slice qa A.length da, .int .i64 0] 96)
                                                                          have hZa := Lib.hid (hL4.out.keep kA)
                                                                          have hOa := Lib.hid hZa.out.own
                                                                          have hKa := Lib.hid (hk16.out.trans kA)
                                                                          have hAna := Lib.hid (hAn.out.keepF kA (fun _ _ _ f => f))
                                                                          have hzl : Hid ((zs3.map (·.1)).length = zs3.length) := Lib.hid (by rw [List.length_map])
                                                                          clear kA hAn hk16 hL4
                                                                          go_wp2_with (first | ((with_reducible refine at_slot 295 ?_); refine wpList_built rfl 94 #[(1, .tmp 291), (2, .const (.int .i64 (-2147483647))), (4, .tmp 293), (5, .tmp 294)] rfl [(1, .agg #[.int .i64 2, .int .u32 addr, .int .u32 me]), (2, .int .i64 (-2147483647)), (4, .int .u32 mask), (5, .slice qa A.length da)] (by simp only [List.map_toArray, List.map_cons, List.map_nil]; rfl) _ (lsa_built 2 addr me mask qa A.length da) ?_) | ((with_reducible refine at_slot 296 ?_); refine wpList_built rfl 96 #[(0, .tmp 287), (1, .tmp 295)] rfl [(0, .int .u32 area), (1, .agg #[.int .i64 0, .int .i64 2, .int .u32 addr, .int .u32 me, .int .i64 (-2147483647), .slice none 0 0, .int .u32 mask, .slice qa A.length da, .int .i64 0])] (by simp only [List.map_toArray, List.map_cons, List.map_nil]; rfl) _ (own_built area 2 addr me mask none qa 0 0 A.length da) ?_) | ((with_reducible refine at_slot 297 ?_); refine wpList_own1 rfl (.tmp 296) rfl area 2 addr me mask none qa 0 0 A.length da rfl ?_) | ((with_reducible refine at_slot 298 ?_); refine wpList_append_r rfl (.tmp 285) (.tmp 297) 34 96 rfl i0 _ 104 Tryz.underlying34 hi0 hi1 hi2 hi3 rfl (by decide) (by decide) ownE_len w4 (.slice (some ⟨g2, 0, none⟩) zs3.length d2) zs3.length (zs3.map (·.1)) hzl.out rfl hOa.out _ rfl ⟨area, 2, addr, me, none, 0, 0, mask, qa, A.length, da⟩ (cells_new (w := W16) rfl (OwnE.mk area 2 addr me none 0 0 mask qa A.length da).vals 96) (ownE_one _) (by omega) ?_; intro q8 d8 w8 hO8 hg8))
                                                                          have hpush := hZa.out.push (e := ⟨area, 2, addr, me, none, 0, 0, mask, qa, A.length, da⟩) (d := ⟨area, 2, addr, me, mask, [], A⟩) ⟨rfl, rfl, rfl, rfl, rfl, rfl, rfl, RowsAt.nil _, hAna.out⟩ ⟨fun h => by simp at h, fun _ i e1 e2 => by
                                                                            have h1 := hAb.out i e1
                                                                            have h2 := hgg.out
                                                                            have e2 : some g2 = some i := e2
                                                                            injection e2 with e2
                                                                            omega⟩ hO8.out hg8.out
                                                                          have hK9 := Lib.hid (hKa.out.trans' hg8.out.k (fun i e => .inr (hOa.out.2.1 i e)))
                                                                          have hD2 : Hid ((zs3 ++ [((⟨area, 2, addr, me, none, 0, 0, mask, qa, A.length, da⟩ : OwnE), (⟨area, 2, addr, me, mask, [], A⟩ : TellD))]).map (·.2) = docAll me (linksC fs) (fullC fs) ((ns.take (k + 1)).map (standOf ls fs))) := Lib.hid (by rw [hstep2.out, List.map_append, ← hAn2.out]; simp)
                                                                          exact ⟨⟨k + 1, zs3 ++ [((⟨area, 2, addr, me, none, 0, 0, mask, qa, A.length, da⟩ : OwnE), (⟨area, 2, addr, me, mask, [], A⟩ : TellD))], q8, d8, by omega, by go_num, by simp, by simp; omega, hD2, Lib.hid (by simpa using hpush), hK9⟩, by simp [intOf]; omega⟩
            · obtain rfl : k = ns.length := by omega
              rw [List.take_length] at hD
              clear hlk hk
              as_aux_lemma =>
                have htold : Hid ((∀ d, d ∈ zs.map (·.2) ↔ IsTold me (linksC fs) (fullC fs) (standsC ls fs) d) ∧ ((zs.map (·.2)).map keyD).Nodup) := Lib.hid (by
                  have h := docAll_told me (linksC fs) (fullC fs) (standsC ls fs) hU.out (standsC ls fs).length (Nat.le_refl _)
                  rw [List.take_length] at h
                  rw [hD.out]
                  have e : ns.map (standOf ls fs) = standsC ls fs := by unfold standsC; rw [hns'.out]
                  rw [e]; exact h)
                generalize hgz : wr = W3 at hZ hK ⊢
                clear hgz hD
                have hzl : zs.length ≤ 200 := by omega
                go_wp2_with fail
                go_loopw [26] (fun iv ws => ∃ (i : Nat) (ys : List (OwnE × TellD)), 1 ≤ i ∧ i ≤ 1000 ∧ iv = .int .i64 i ∧ Hid (ys.Perm zs) ∧ Hid (SortR ltP15 ys i) ∧ Hid (DocS w4 ws (.slice q zs.length d) ys) ∧ Hid (Keeps (fun _ => False) w4 ws)) (fun iv _ => zs.length - (intOf iv).toNat)
                case atStart => exact ⟨1, zs, by omega, by omega, rfl, Lib.hid (List.Perm.refl _), Lib.hid (fun a b x y h1 h2 => by omega), hZ, hK⟩
                case round =>
                  as_aux_lemma =>
                    obtain ⟨i, ys, hi1, hi2, rfl, hP, hR, hY, hKi⟩ := hrel
                    by_cases hli : i < zs.length
                    · as_aux_lemma =>
                        generalize hgz : wr = W5 at hY hKi ⊢
                        clear hgz
                        have hyl : ys.length = zs.length := hP.out.length_eq
                        have m1 : (i : Int) < (zs.length : Int) := by omega
                        have hN0 := Lib.hid (near_startR hR.out)
                        have hY0 := hY
                        have hK0 := hKi
                        have hP0 := hP
                        clear hR
                        go_wp2_with fail
                        go_loopw [27] (fun kv ws => ∃ (k : Nat) (ys2 : List (OwnE × TellD)), k ≤ i ∧ kv = .int .i64 k ∧ Hid (ys2.Perm zs) ∧ Hid (NearR ltP15 ys2 i k) ∧ Hid (DocS w4 ws (.slice q zs.length d) ys2) ∧ Hid (Keeps (fun _ => False) w4 ws)) (fun kv _ => (intOf kv).toNat)
                        case atStart => exact ⟨i, ys, by omega, rfl, hP0, hN0, hY0, hK0⟩
                        case round =>
                          as_aux_lemma =>
                            obtain ⟨k, ys2, hk, rfl, hP2, hN2, hY2, hK2⟩ := hrel
                            clear hN0 hY0 hK0 hP0 hY hKi hP
                            have hyl2 : ys2.length = zs.length := hP2.out.length_eq
                            cases k with
                            | zero =>
                              have hS2 := Lib.hid (near_zeroR hN2.out)
                              clear hN2
                              go_upto_region 61 with fail
                              refine wp_region_noPanic ?_
                              refine wp_region_held_drew (S := (fun W => Keeps (fun _ => False) wr W)) (by kernel_rfl) (((Keeps.refl (fun _ => False) wr).drew)) (fun hHeld => ?_)
                              refine tk 0 rfl ?_
                              refine tk 1 rfl ?_
                              refine tk 2 rfl ?_
                              refine tkS 3 rfl ?_
                              refine tkS 4 rfl ?_
                              refine tkS 5 rfl ?_
                              refine tkS 6 rfl ?_
                              refine tkS 7 rfl ?_
                              refine tkS 8 rfl ?_
                              refine tkS 9 rfl ?_
                              refine tkS 10 rfl ?_
                              refine tkS 11 rfl ?_
                              refine tkS 12 rfl ?_
                              refine tk 13 rfl ?_
                              refine wpAnyH_done (by kernel_rfl) (NoPanic.normal ?_) _
                              have hY3 := Lib.hid (hY2.out.keep hHeld)
                              have hK3 := Lib.hid (hK2.out.trans hHeld)
                              generalize wr.drew = W6 at hY3 hK3 ⊢
                              clear hHeld hY2 hK2
                              go_wp2_with fail
                              exact ⟨⟨i + 1, ys2, by omega, by omega, by go_num, hP2, hS2, hY3, hK3⟩, by simp [intOf]; omega⟩
                            | succ j =>
                              obtain ⟨x, hx⟩ : ∃ x, ys2[j]? = some x := ⟨_, List.getElem?_eq_getElem (by omega)⟩
                              obtain ⟨y, hy⟩ : ∃ x, ys2[j + 1]? = some x := ⟨_, List.getElem?_eq_getElem (by omega)⟩
                              have hx1 : (ys2.map (·.1))[j]? = some x.1 := by rw [List.getElem?_map, hx]; rfl
                              have hy1 : (ys2.map (·.1))[j + 1]? = some y.1 := by rw [List.getElem?_map, hy]; rfl
                              obtain ⟨g, rfl, -, rx, -, hgw⟩ := hY2.out.own.row ownE_len hx1
                              obtain ⟨g', e, -, ry, -, -⟩ := hY2.out.own.row ownE_len hy1
                              injection e with e; injection e with e _; subst e
                              have hah : Hid ((aheadB y.1 x.1 = true) ↔ ltP15 y x) := Lib.hid (ahead_lt (hY2.out.ok y (List.mem_of_getElem? hy)).1 (hY2.out.ok x (List.mem_of_getElem? hx)).1 (by
                                have h1 := told_me ((htold.out.1 y.2).1 (List.mem_map.2 ⟨y, hP2.out.mem_iff.1 (List.mem_of_getElem? hy), rfl⟩))
                                have h2 := told_me ((htold.out.1 x.2).1 (List.mem_map.2 ⟨x, hP2.out.mem_iff.1 (List.mem_of_getElem? hx), rfl⟩))
                                rw [h1, h2]))
                              obtain ⟨z, hz⟩ : ∃ z, aheadB y.1 x.1 = z := ⟨_, rfl⟩
                              rw [hz] at hah
                              have hcall := Lib.hid (fun W => ref15Ahead_any y.1 x.1 W)
                              rw [hz] at hcall
                              obtain ⟨X, hX⟩ : ∃ X, x.1.vals = X := ⟨_, rfl⟩
                              obtain ⟨Y, hY⟩ : ∃ Y, y.1.vals = Y := ⟨_, rfl⟩
                              have hXl : X.length = 10 := by rw [← hX]; rfl
                              have hYl : Y.length = 10 := by rw [← hY]; rfl
                              have hi10x : Hid ((Tryz.prog.info? 96).map (·.size) = some X.length) := Lib.hid (by rw [hXl]; exact ownInfoG)
                              have hi10y : Hid ((Tryz.prog.info? 96).map (·.size) = some Y.length) := Lib.hid (by rw [hYl]; exact ownInfoG)
                              have hoX : Hid (X.toArray.all (·.oneCell') = true) := Lib.hid (by rw [← hX]; exact ownE_oneG _)
                              have hoY : Hid (Y.toArray.all (·.oneCell') = true) := Lib.hid (by rw [← hY]; exact ownE_oneG _)
                              have hsw : Hid (∀ W, DocS w4 W (.slice (some ⟨g, 0, none⟩) zs.length d) ys2 → DocS w4 ((W.setCells g ((j + 1) * 10) X).setCells g (j * 10) Y) (.slice (some ⟨g, 0, none⟩) zs.length d) ((ys2.set (j + 1) x).set j y)) := Lib.hid (fun W h => by rw [← hX, ← hY]; exact h.swap hx hy)
                              have hrows : Hid (∀ W, DocS w4 W (.slice (some ⟨g, 0, none⟩) zs.length d) ys2 → (W.rangeAt g (j * 10) X ∧ W.rangeAt g ((j + 1) * 10) Y) ∧ W.there g ((j + 1) * 10) 10) := Lib.hid (fun W h => by
                                obtain ⟨g1, e1, -, r1, t1, -⟩ := h.own.row ownE_len hx1
                                obtain ⟨g2, e2, -, r2, t2, -⟩ := h.own.row ownE_len hy1
                                injection e1 with e1; injection e1 with e1 _; subst e1
                                injection e2 with e2; injection e2 with e2 _; subst e2
                                rw [← hX, ← hY]
                                exact ⟨⟨r1, r2⟩, t2⟩)
                              have hrow2 : Hid (∀ W, DocS w4 W (.slice (some ⟨g, 0, none⟩) zs.length d) ys2 → (W.setCells g ((j + 1) * 10) X).there g (j * 10) 10) := Lib.hid (fun W h => by
                                have h1 := h.own.sets ownE_len hy1 x.1
                                rw [hX] at h1
                                obtain ⟨g1, e1, -, r1, t1, -⟩ := h1.row ownE_len (i := j) (x := x.1) (by rw [List.getElem?_set, if_neg (by omega)]; exact hx1)
                                injection e1 with e1; injection e1 with e1 _; subst e1
                                exact t1)
                              rw [hX, hY] at hcall
                              have hXa : X.toArray.size = 10 := by simp [hXl]
                              have hYa : Y.toArray.size = 10 := by simp [hYl]
                              have hx' := Lib.hid hx
                              have hy' := Lib.hid hy
                              have hgw' := Lib.hid hgw
                              clear hX hY rx ry hx hy hx1 hy1 hz hgw
                              have g0 : (0 : Int) < (j : Int) + 1 := by omega
                              have g1 : (j : Int) + 1 < (zs.length : Int) := by omega
                              have g2 : (0 : Int) ≤ (j : Int) + 1 := by omega
                              have g3 : (j : Int) < (zs.length : Int) := by omega
                              have g4 : (0 : Int) ≤ (j : Int) := by omega
                              have e1 : IntKind.i64.wrap (j : Int) = (j : Int) := IntWalk.i64_in _ (by omega)
                              go_upto_region 61 with fail
                              refine wp_region_noPanic ?_
                              refine wp_region_held_drew (S := (fun W => Keeps (fun _ => False) wr W)) (by kernel_rfl) (((Keeps.refl (fun _ => False) wr).drew)) (fun hHeld => ?_)
                              refine tk 0 rfl ?_
                              refine tk 1 rfl ?_
                              refine tk 2 rfl ?_
                              refine tk 3 rfl ?_
                              refine tk 4 rfl ?_
                              refine tk 5 rfl ?_
                              refine tkL 6 rfl (yieldsIf_load_mid (by rfl) 96 (.tmp 311) rfl g ((j + 1) * 10) rfl Y _ (fun _ s => (hrows.out _ (hY2.out.keep s)).1.2) Tryz.underlying96 rfl hi10y.out) ?_
                              refine tk 7 rfl ?_
                              refine tk 8 rfl ?_
                              refine tk 9 rfl ?_
                              refine tk 10 rfl ?_
                              refine tkL 11 rfl (yieldsIf_load_mid (by rfl) 96 (.tmp 316) rfl g (j * 10) rfl X _ (fun _ s => (hrows.out _ (hY2.out.keep s)).1.1) Tryz.underlying96 rfl hi10x.out) ?_
                              refine stepL 12 rfl (by kernel_rfl) (fun K hK => ?_)
                              go_simp
                              (refine (hcall.out _).mono ?_; rintro e w' ⟨rfl, kc⟩)
                              go_wp2_with fail
                              refine hK.out _ _ ((hHeld.trans kc)) (fun hHeld => ?_)
                              clear hK K
                              try simp only [Act.put, sA, sZ, sS]
                              refine tk 13 rfl ?_
                              refine wpAnyH_done (by kernel_rfl) (NoPanic.normal ?_) _
                              have hY3 := Lib.hid (hY2.out.keep hHeld)
                              have hK3 := Lib.hid (hK2.out.trans hHeld)
                              clear hHeld kc hY2 hK2 hcall
                              generalize hgz : w' = W6 at hY3 hK3 ⊢
                              clear hgz
                              cases z with
                              | true =>
                                have hlt := hah.out.1 rfl
                                have hN3 := Lib.hid (near_swapR ltP_as hN2.out hk hx'.out hy'.out hlt)
                                have hP3 := Lib.hid ((swap_perm hx'.out hy'.out).trans hP2.out)
                                clear hN2 hlt
                                go_upto_region 63 with fail
                                refine wp_region_noPanic ?_
                                refine wp_region_phase (S := fun W => Keeps (fun _ => False) W6 W) 14 (by kernel_rfl) ((Keeps.refl _ _).drew) (fun hHeld => ?_)
                                refine tkx 0 rfl ?_
                                refine tkx 1 rfl ?_
                                refine tkx 2 rfl ?_
                                refine tkx 3 rfl ?_
                                refine tkx 4 rfl ?_
                                refine tkx 5 rfl ?_
                                refine tkx 6 rfl ?_
                                refine tkx 7 rfl ?_
                                refine tkx 8 rfl ?_
                                refine tkxL 9 rfl (yieldsIf_load_mid (by rfl) 96 (.tmp 330) rfl g (j * 10) rfl X _ (fun _ s => (hrows.out _ (hY3.out.keep s)).1.1) Tryz.underlying96 rfl hi10x.out) ?_
                                refine tkx 10 rfl ?_
                                refine tkx 11 rfl ?_
                                refine tkx 12 rfl ?_
                                refine tkxL 13 rfl (yieldsIf_load_mid (by rfl) 96 (.tmp 334) rfl g ((j + 1) * 10) rfl Y _ (fun _ s => (hrows.out _ (hY3.out.keep s)).1.2) Tryz.underlying96 rfl hi10y.out) ?_
                                refine wpX_tail _ _ _ _ (allB (by kernel_rfl)) ?_
                                have hY4 := Lib.hid (hY3.out.keep ((Keeps.refl (fun _ => False) W6).drew))
                                have hK4 := Lib.hid hK3.out.drew
                                generalize W6.drew = W7 at hY4 hK4 ⊢
                                clear hHeld hY3 hK3
                                have hHeld : (fun _ : World => True) W7 := trivial
                                have q1 : Hid (W7.there g ((j + 1) * 10) X.toArray.size) := Lib.hid (by rw [hXa]; exact (hrows.out _ hY4.out).2)
                                have q2 : Hid ((W7.setCells g ((j + 1) * 10) X).there g (j * 10) Y.toArray.size) := Lib.hid (by rw [hYa]; exact hrow2.out _ hY4.out)
                                have hY5 := Lib.hid (hsw.out _ hY4.out)
                                have hK5 : Hid (Keeps (fun _ => False) w4 ((W7.setCells g ((j + 1) * 10) X).setCells g (j * 10) Y)) := Lib.hid ((hK4.out.trans' (Keeps.setCells (F := fun i => i = g) (.inl rfl) _ _ _ (Keeps.refl _ _)) (fun i e => .inr (by rw [e]; exact hgw'.out))).trans' (Keeps.setCells (F := fun i => i = g) (.inl rfl) _ _ _ (Keeps.refl _ _)) (fun i e => .inr (by rw [e]; exact hgw'.out)))
                                clear hY4 hK4 hsw hrows hrow2
                                refine tk 14 rfl ?_
                                refine stepL 15 rfl (by kernel_rfl) (fun K hK => ?_)
                                rw [if_pos (by rfl)]
                                (refine wp_store_mid 96 (.tmp 336) (.tmp 331) rfl g ((j + 1) * 10) X.toArray rfl rfl q1.out (by simpa using hi10x.out) hoX.out ?_)
                                refine hK.out _ _ (trivial) (fun hHeld => ?_)
                                clear hK K
                                try simp only [Act.put, sA, sZ, sS]
                                refine tk 16 rfl ?_
                                refine stepL 17 rfl (by kernel_rfl) (fun K hK => ?_)
                                rw [if_pos (by rfl)]
                                (refine wp_store_mid 96 (.tmp 337) (.tmp 335) rfl g (j * 10) Y.toArray rfl rfl q2.out (by simpa using hi10y.out) hoY.out ?_)
                                refine hK.out _ _ (trivial) (fun hHeld => ?_)
                                clear hK K
                                try simp only [Act.put, sA, sZ, sS]
                                refine wpAnyH_done (by kernel_rfl) (NoPanic.normal ?_) _
                                go_wp2_with fail
                                exact ⟨⟨j, (ys2.set (j + 1) x).set j y, by omega, by go_num, hP3, hN3, hY5, hK5⟩, by simp [intOf]⟩
                              | false =>
                                have hS2 := Lib.hid (near_stopR ltP_tr hN2.out hx'.out hy'.out (fun h => by have := hah.out.2 h; cases this))
                                clear hN2
                                go_wp2_with fail
                                exact ⟨⟨i + 1, ys2, by omega, by omega, by go_num, hP2, hS2, hY3, hK3⟩, by simp [intOf]; omega⟩
                    · have m1 : ¬ (i : Int) < (zs.length : Int) := by omega
                      have hend : Hid (AllPost15 ls fs me w (.returned (.tuple #[.slice q zs.length d, .int .i64 0])) wr) := Lib.hid (by
                        have hyl : ys.length = zs.length := hP.out.length_eq
                        refine ⟨fun _ => ⟨ys, q, d, by rw [hyl], by rw [hyl]; exact hY.out.own.at ownE_len, fun z hz => (hY.out.ok z hz).1, fun dd => ?_, ?_, hk04.out.trans hKi.out⟩, fun h => absurd (by rw [hns'.out]; exact hok.out) h⟩
                        · rw [(hP.out.map _).mem_iff]
                          exact htold.out.1 dd
                        · have h1 : SortR ltP15 ys ys.length := fun a b x y h1 h2 => hR.out a b x y h1 (by omega)
                          have h2 := sort_end h1
                          refine rise_of ?_ (((hP.out.map _).map _).nodup_iff.2 htold.out.2)
                          rw [List.pairwise_map]
                          exact h2)
                      clear hP hR hY hKi htold hZ hK
                      go_wp2_with fail
                      go_ret2
                      exact hend.out
end Go.Proofs.YtialookpnoaogaaGreat
