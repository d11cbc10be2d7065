/- The document's Put into a row of Lsas (gen_lmd.py writes this). -/
import Derived.Test.YtdaongflpllfhaaLS21
import Derived.Test.YtdaongflpllfhaaLS15
import Derived.Test.YtdaongflpllfhaaLS16
import Derived.OwnWalk
import Derived.Test.YtdaongflpllfhaaLS17
set_option linter.unusedVariables false
set_option linter.unusedSimpArgs false
set_option linter.unusedVariables false
set_option linter.unusedSimpArgs false
namespace Go.Proofs.Ytdaongflpllfhaa
open Go.RowKit

theorem lessB_lt (t t2 : Int) (i a i2 a2 : Nat) : lessB ⟨t, i, a⟩ ⟨t2, i2, a2⟩ = decide (ltK (t, i, a) (t2, i2, a2)) := by
  unfold lessB ltK
  by_cases h1 : t = t2
  · subst h1
    by_cases h2 : a = a2
    · subst h2
      simp
    · simp [h2]
  · simp [h1]
theorem putA_of {L : List LsaD} {x : LsaD} (hF : FineL L) (hc : canB x = true) (hn : ∀ z ∈ L, kOf z = kOf x → newerD x z = true) : putA L x = if 20 < (putR x L).length then (L, false, 5) else (putR x L, true, 0) := by
  unfold putA
  rw [if_pos hc, putR_len hF.up]
  have hf := hF.few
  cases hm : mapL L x.type x.id x.adv with
  | none =>
    simp only
    by_cases h : 20 ≤ L.length
    · rw [if_pos h, if_pos (by simp; omega)]
    · rw [if_neg h, if_neg (by simp; omega)]
  | some o =>
    obtain ⟨ho, hk⟩ := mapL_some hm
    simp only
    rw [if_pos (hn o ho hk), if_neg (by simp; omega)]
theorem putA_old {L : List LsaD} {x z : LsaD} (hF : FineL L) (hc : canB x = true) (hz : z ∈ L) (hk : kOf z = kOf x) (hn : newerD x z = false) : putA L x = (L, false, 0) := by
  unfold putA
  have h := mapL_mem hF.up hz
  have e : mapL L x.type x.id x.adv = some z := by
    injection hk with e1 e2
    injection e2 with e2 e3
    rw [← e1, ← e2, ← e3]; exact h
  rw [if_pos hc, e]
  simp only
  rw [hn]; rfl
theorem putA_no {L : List LsaD} {x : LsaD} (hc : canB x = false) : putA L x = (L, false, 1) := by unfold putA; rw [hc]; rfl
theorem putRM_mem {x z : LsaM} {L : List LsaM} (h : z ∈ putRM x L) : z = x ∨ z ∈ L := by
  induction L with
  | nil => exact .inl (by simpa [putRM] using h)
  | cons d L ih =>
    unfold putRM at h
    split at h
    · rcases List.mem_cons.1 h with h | h
      · exact .inl h
      · exact .inr (List.mem_cons_of_mem _ h)
    · split at h
      · rcases List.mem_cons.1 h with h | h
        · exact .inl h
        · exact .inr h
      · rcases List.mem_cons.1 h with h | h
        · exact .inr (by rw [h]; exact List.mem_cons_self)
        · rcases ih h with h | h
          · exact .inl h
          · exact .inr (List.mem_cons_of_mem _ h)
/-- what Put of a row tells -/
def PutPost (w : World) (ms : List LsaM) (x : LsaM) (e : Ending) (w' : World) : Prop :=
  (∃ u ns, e = .returned (.tuple #[u, .bool (putA (ms.map (·.d)) x.d).2.1, .int .i64 (putA (ms.map (·.d)) x.d).2.2]) ∧ RowsAt 9 lsaRow w' u ns ∧ ns.map (·.d) = (putA (ms.map (·.d)) x.d).1 ∧ ∀ m ∈ ns, m ∈ ms ∨ m = x) ∧ Keeps (fun _ => False) w w'
set_option maxRecDepth 100000 in
set_option maxHeartbeats 8000000 in
theorem r12Put_any (v : Value) (ms : List LsaM) (hF : Hid (FineL (ms.map (·.d)))) (x : LsaM) (hfx : Hid (LsaFine x.d)) (hl5 : x.d.links.length ≤ 9223372036854775807) (hl7 : x.d.routers.length ≤ 9223372036854775807) (w : World) (hv : Hid (RowsAt 9 lsaRow w v ms)) (hL : Hid (∀ m ∈ ms, LsaIn w m)) (hx : Hid (LsaIn w x)) :
    Calls Try.prog 18 #[v, .agg (lsaRow x).toArray] w (PutPost w ms x) := by
  have hlen : ms.length ≤ 20 := by have := hF.out.few; rw [List.length_map] at this; exact this
  have hvv := hv
  obtain ⟨p, c, e0, hp0, hc0, hr0⟩ := hv.out
  subst e0
  clear hp0 hc0 hr0
  obtain ⟨ik, hik, hkz, hksz, hkby⟩ := info_parts lsaInfoAllR
  obtain ⟨⟨age, type, id, adv, seq, links, mask, routers, cost⟩, p5, c5, p7, c7⟩ := x
  simp only at hfx hl5 hl7 hx
  have e0 : (lsaRow ⟨⟨age, type, id, adv, seq, links, mask, routers, cost⟩, p5, c5, p7, c7⟩).toArray = #[.int .i64 age, .int .i64 type, .int .u32 id, .int .u32 adv, .int .i64 seq, .slice p5 links.length c5, .int .u32 mask, .slice p7 routers.length c7, .int .i64 cost] := rfl
  rw [e0]
  clear e0
  obtain ⟨W0, hW0⟩ : ∃ W0, W0 = w.alloc (.cells #[.int .i64 age, .int .i64 type, .int .u32 id, .int .u32 adv, .int .i64 seq, .slice p5 links.length c5, .int .u32 mask, .slice p7 routers.length c7, .int .i64 cost] 48) := ⟨_, rfl⟩
  have hB : Hid (BlkAt W0 w.heap.size 48 [.int .i64 age, .int .i64 type, .int .u32 id, .int .u32 adv, .int .i64 seq, .slice p5 links.length c5, .int .u32 mask, .slice p7 routers.length c7, .int .i64 cost]) := Lib.hid (by rw [hW0]; exact BlkAt.new w 48 [.int .i64 age, .int .i64 type, .int .u32 id, .int .u32 adv, .int .i64 seq, .slice p5 links.length c5, .int .u32 mask, .slice p7 routers.length c7, .int .i64 cost])
  have hK0 : Hid (Keeps (fun _ => False) w W0) := Lib.hid (by rw [hW0]; exact (Keeps.refl _ _).alloc _)
  have hx0 := Lib.hid (hx.out.keepC hK0.out (fun _ _ _ _ _ f => f))
  have hW0' := Lib.hid hW0
  clear hW0
  obtain ⟨bx, hbx⟩ : ∃ z, w.heap.size = z := ⟨_, rfl⟩
  rw [hbx] at hB
  have hbx' := Lib.hid hbx
  clear hbx
  go_enter Try.func18, Try.ntmps18
  go_upto_region 1 with fail
  rw [← hW0'.out]
  rw [hbx'.out]
  clear hW0' hbx'
  obtain ⟨cz, hcz⟩ : ∃ z, canB ⟨age, type, id, adv, seq, links, mask, routers, cost⟩ = z := ⟨_, rfl⟩
  have hcz' := Lib.hid hcz
  clear hcz
  go_wp2_with ((with_reducible refine at_slot 10 ?_); refine wpList_load_mid rfl 48 (.tmp 3) rfl bx 0 rfl _ _ hB.out.range Try.underlying48 rfl lsaInfoR ?_)
  refine (r10Right_any age type seq cost id adv mask links routers p5 p7 c5 c7 cz _ (Lib.hid hx0.out.1) hl5 hl7 hcz').mono ?_
  rintro e w1 ⟨rfl, k1⟩
  have hB1 := Lib.hid (hB.out.keep k1 (fun f => f))
  have hx1 := Lib.hid (hx0.out.keepC k1 (fun _ _ _ _ _ f => f))
  have hK1 := Lib.hid (hK0.out.trans k1)
  clear k1 hB hK0 hx0 hx
  cases cz with
  | false =>
    go_wp2_with fail
    go_ret3
    exact ⟨⟨_, ms, by rw [putA_no hcz'.out]; rfl, hvv.out.keep hK1.out, by rw [putA_no hcz'.out], fun m hm => .inl hm⟩, hK1.out⟩
  | true =>
    have hgx : Hid (GoodL ⟨age, type, id, adv, seq, links, mask, routers, cost⟩) := Lib.hid (good_of hcz'.out hfx.out)
    obtain ⟨T, S, Ln, I, V, C, hd⟩ := hd_split ⟨age, type, id, adv, seq, links, mask, routers, cost⟩
    have hd' := Lib.hid hd
    have hAx := hgx.out.hA
    obtain ⟨A, hAe⟩ : ∃ A, hA ⟨age, type, id, adv, seq, links, mask, routers, cost⟩ = A := ⟨_, rfl⟩
    have hAe' := Lib.hid hAe
    rw [hAe] at hd' hAx
    have hup : Hid (RisesM ms) := Lib.hid (risesM hF.out.up)
    have hL1 := Lib.hid (fun m hm => (hL.out m hm).keepC hK1.out (fun _ _ _ _ _ f => f))
    have hv1 := Lib.hid (hvv.out.keep hK1.out)
    clear hd hAe hL
    go_wp2_with fail
    go_loopw [9, 7, 8] (fun iv ov pv wr => ∃ (i : Nat) (put : Bool) (out : List LsaM) (q : Option Addr) (d : Nat), i ≤ ms.length ∧ out.length ≤ 2 * i ∧ iv = .int .i64 i ∧ ov = .slice q out.length d ∧ pv = .bool put ∧ Hid (PutS ⟨⟨age, type, id, adv, seq, links, mask, routers, cost⟩, p5, c5, p7, c7⟩ ms i put out) ∧ Hid (∀ z ∈ ms.take i, kM z = (type, id, adv) → newerD ⟨age, type, id, adv, seq, links, mask, routers, cost⟩ z.d = true) ∧ Hid (OwnR 48 9 lsaRow w1 wr (.slice q out.length d) out) ∧ Hid (Keeps (fun _ => False) w1 wr)) (fun iv _ _ _ => ms.length - (intOf iv).toNat)
    case atStart => exact ⟨0, false, [], none, 0, by omega, by simp, rfl, rfl, rfl, Lib.hid (put_start _ _), Lib.hid (by simp), Lib.hid (OwnR.nil _ _ (Nat.le_refl _)), Lib.hid (Keeps.refl _ _)⟩
    case round =>
      obtain ⟨i, put, out, q, d, hi, hol, rfl, rfl, rfl, hS, hnw, hO, hK⟩ := hrel
      by_cases hil : i < ms.length
      · obtain ⟨m, hm⟩ : ∃ m, ms[i]? = some m := ⟨_, List.getElem?_eq_getElem hil⟩
        obtain ⟨g, o, rfl, hr⟩ := RowsAt.open hv1.out (by omega)
        have hr1 := Lib.hid hr
        have hmr0 : Hid (wr.rangeAt g (o + i * 9) (lsaRow m)) := Lib.hid (hK.out.rangeAt (hr i m hm) (fun f => f))
        have hmr : Hid (wr.rangeAt g (o + i * 9 + 1) [.int .i64 m.d.type, .int .u32 m.d.id, .int .u32 m.d.adv]) := Lib.hid (row_key hmr0.out)
        have hmm := List.mem_of_getElem? hm
        have hgm : Hid (GoodL m.d) := Lib.hid (hF.out.good m.d (List.mem_map.2 ⟨m, hmm, rfl⟩))
        have hIm := Lib.hid ((hL1.out m hmm).keepC hK.out (fun _ _ _ _ _ f => f))
        have hIx := Lib.hid (hx1.out.keepC hK.out (fun _ _ _ _ _ f => f))
        have hBx := Lib.hid (hB1.out.keep hK.out (fun f => f))
        have hbr : Hid (BlkAt wr bx 48 [.int .i64 age, .int .i64 type, .int .u32 id, .int .u32 adv, .int .i64 seq, .slice p5 links.length c5, .int .u32 mask, .slice p7 routers.length c7, .int .i64 cost]) := hBx
        have hkx : Hid (wr.rangeAt bx 1 [.int .i64 type, .int .u32 id, .int .u32 adv]) := Lib.hid (row_key (x := ⟨⟨age, type, id, adv, seq, links, mask, routers, cost⟩, p5, c5, p7, c7⟩) (g := bx) (o := 0) hBx.out.range)
        have m1 : (0 : Int) ≤ (i : Int) := by omega
        have m2 : (i : Int) < (ms.length : Int) := by omega
        obtain ⟨z, hz⟩ : ∃ z, decide (kM m = (type, id, adv)) = z := ⟨_, rfl⟩
        have hz' := Lib.hid hz
        have hm' := Lib.hid hm
        clear hr hm hz hmm
        go_upto_region 8 with fail
        refine wp_region_noPanic ?_
        refine wp_region_held_drew (S := (fun W => Keeps (fun _ => False) wr W)) (by kernel_rfl) (((Keeps.refl (fun _ => False) _).drew)) (fun hHeld => ?_)
        refine tk 0 rfl ?_
        refine tk 1 rfl ?_
        refine tk 2 rfl ?_
        refine tk 3 rfl ?_
        refine tkL 4 rfl (yieldsIf_load_mid (by rfl) 45 (.tmp 23) rfl g (o + i * 9 + 1) rfl _ _ (fun _ s => s.rangeAt hmr.out (fun f => f)) Try.underlying45 rfl r10KeyInfo) ?_
        refine tk 5 rfl ?_
        refine tkL 6 rfl (yieldsIf_load_mid (by rfl) 45 (.tmp 25) rfl bx 1 rfl [.int .i64 type, .int .u32 id, .int .u32 adv] _ (fun _ s => s.rangeAt hkx.out (fun f => f)) Try.underlying45 rfl r10KeyInfo) ?_
        refine tkL 7 rfl (yieldsIf_eqK (by rfl) (.tmp 24) (.tmp 26) _ rfl (kM m) (type, id, adv) z rfl rfl hz'.out) ?_
        refine wpAnyH_done (by kernel_rfl) (NoPanic.normal ?_) _
        have hK4 := Lib.hid (hK.out.trans hHeld)
        have hO4 := Lib.hid (hO.out.keep hHeld (fun _ _ f => f))
        have hm4 := Lib.hid (hHeld.rangeAt hmr0.out (fun f => f))
        have hmk4 := Lib.hid (hHeld.rangeAt hmr.out (fun f => f))
        have hxk4 := Lib.hid (hHeld.rangeAt hkx.out (fun f => f))
        have hB4 := Lib.hid (hBx.out.keep hHeld (fun f => f))
        have hIm4 := Lib.hid (hIm.out.keepC hHeld (fun _ _ _ _ _ f => f))
        have hIx4 := Lib.hid (hIx.out.keepC hHeld (fun _ _ _ _ _ f => f))
        generalize wr.drew = wq at hK4 hO4 hm4 hmk4 hxk4 hB4 hIm4 hIx4 ⊢
        clear hHeld hO hmr hmr0 hkx hBx hbr hIm hIx hK
        cases z with
        | true =>
          have hk : Hid (kM m = (type, id, adv)) := Lib.hid (by simpa using hz'.out)
          clear hz'
          obtain ⟨T', S', Ln', I', V', C', hdm⟩ := hd_split m.d
          have hAm := hgm.out.hA
          have hnd : newerD ⟨age, type, id, adv, seq, links, mask, routers, cost⟩ m.d = decide (cmpH A (hA m.d) S S' C C' = 1) := by unfold newerD; rw [hdm, hd'.out, hAe'.out]
          obtain ⟨A', hA'⟩ : ∃ A', hA m.d = A' := ⟨_, rfl⟩
          rw [hA'] at hdm hAm hnd
          obtain ⟨cv, hcv⟩ : ∃ z, cmpH A A' S S' C C' = z := ⟨_, rfl⟩
          rw [hcv] at hnd
          have hcv' := Lib.hid hcv
          have hdm' := Lib.hid hdm
          have hnd' := Lib.hid hnd
          obtain ⟨y, hy⟩ : ∃ y, (cv != 1) = y := ⟨_, rfl⟩
          have hy' := Lib.hid hy
          obtain ⟨X, hX⟩ : ∃ X, lsaRow m = X := ⟨_, rfl⟩
          have hX' := Lib.hid hX
          have hXl : Hid (X.length = 9) := Lib.hid (by rw [← hX]; rfl)
          rw [hX] at hm4
          clear hcv hdm hnd hA' hX
          go_upto_region 9 with fail
          refine wp_region_noPanic ?_
          refine wp_region_held_drew (S := (fun W => Keeps (fun _ => False) wq W)) (by kernel_rfl) (((Keeps.refl (fun _ => False) _).drew)) (fun hHeld => ?_)
          refine tkL 0 rfl (yieldsIf_load_mid (by rfl) 48 (.tmp 3) rfl bx 0 rfl [.int .i64 age, .int .i64 type, .int .u32 id, .int .u32 adv, .int .i64 seq, .slice p5 links.length c5, .int .u32 mask, .slice p7 routers.length c7, .int .i64 cost] _ (fun _ s => (hB4.out.keep s (fun f => f)).range) Try.underlying48 rfl lsaInfoR) ?_
          refine tk 2 rfl ?_
          refine tk 3 rfl ?_
          refine tk 4 rfl ?_
          refine tkL 5 rfl (yieldsIf_load_mid (by rfl) 48 (.tmp 32) rfl g (o + i * 9) rfl X _ (fun _ s => s.rangeAt hm4.out (fun f => f)) Try.underlying48 rfl (by rw [hXl.out]; exact lsaInfoR)) ?_
          have hIx5 := hIx4.out.keepC hHeld (fun _ _ _ _ _ f => f)
          refine stepL 1 rfl (by kernel_rfl) (fun K hK => ?_)
          go_simp
          (refine (r12Head_any ⟨⟨age, type, id, adv, seq, links, mask, routers, cost⟩, p5, c5, p7, c7⟩ hgx _ (Lib.hid hIx5)).mono ?_; rintro e w5 ⟨rfl, k5⟩; rw [hd'.out]; unfold headV)
          go_wp2_with fail
          refine hK.out _ _ ((hHeld.trans k5)) (fun hHeld => ?_)
          clear hK K
          try simp only [Act.put, sA, sZ, sS]
          have hIm5 := hIm4.out.keepC hHeld (fun _ _ _ _ _ f => f)
          rw [← hX'.out]
          refine stepL 6 rfl (by kernel_rfl) (fun K hK => ?_)
          go_simp
          (refine (r12Head_any m hgm _ (Lib.hid hIm5)).mono ?_; rintro e w6 ⟨rfl, k6⟩; rw [hdm'.out]; unfold headV)
          go_wp2_with fail
          refine hK.out _ _ ((hHeld.trans k6)) (fun hHeld => ?_)
          clear hK K
          try simp only [Act.put, sA, sZ, sS]
          refine stepL 7 rfl (by kernel_rfl) (fun K hK => ?_)
          go_simp
          (refine (r10Compare_any A A' C C' I I' V V' T T' S S' Ln Ln' cv hAx hAm _ hcv').mono ?_; rintro e w7 ⟨rfl, k7⟩)
          go_wp2_with fail
          refine hK.out _ _ ((hHeld.trans k7)) (fun hHeld => ?_)
          clear hK K
          try simp only [Act.put, sA, sZ, sS]
          refine tk 8 rfl ?_
          refine wpAnyH_done (by kernel_rfl) (NoPanic.normal ?_) _
          have hK7 := Lib.hid (hK4.out.trans hHeld)
          have hO7 := Lib.hid (hO4.out.keep hHeld (fun _ _ f => f))
          have hB7 := Lib.hid (hB4.out.keep hHeld (fun f => f))
          clear hHeld hIx5 hIm5 k5 k6 k7 hK4 hO4 hB4 hm4 hmk4 hxk4 hIm4 hIx4
          cases y with
          | true =>
            have hold : Hid (putA (ms.map (·.d)) ⟨age, type, id, adv, seq, links, mask, routers, cost⟩ = (ms.map (·.d), false, 0)) := Lib.hid (putA_old (z := m.d) hF.out hcz'.out (List.mem_map.2 ⟨m, List.mem_of_getElem? hm'.out, rfl⟩) hk.out (by rw [hnd'.out, decide_eq_false_iff_not]; have := hy'.out; simpa using this))
            go_wp2_with fail
            go_ret3
            exact ⟨⟨_, ms, by rw [hold.out]; rfl, hvv.out.keep (hK1.out.trans hK7.out), by rw [hold.out], fun m hm => .inl hm⟩, hK1.out.trans hK7.out⟩
          | false =>
            have hnew : newerD ⟨age, type, id, adv, seq, links, mask, routers, cost⟩ m.d = true := by rw [hnd'.out, decide_eq_true_iff]; have := hy'.out; simpa using this
            have hS2 := Lib.hid (put_same hup.out hS.out hm'.out hk.out)
            have hnw2 : Hid (∀ z ∈ ms.take (i + 1), kM z = (type, id, adv) → newerD ⟨age, type, id, adv, seq, links, mask, routers, cost⟩ z.d = true) := Lib.hid (by
              rw [take_snoc hm'.out]
              intro z hz
              rcases List.mem_append.1 hz with hz | hz
              · exact hnw.out z hz
              · rw [List.mem_singleton] at hz; subst hz; exact fun _ => hnew)
            clear hnew
            have kda := (Keeps.refl (fun _ => False) w7).alloc (.cells #[.int .i64 age, .int .i64 type, .int .u32 id, .int .u32 adv, .int .i64 seq, .slice p5 links.length c5, .int .u32 mask, .slice p7 routers.length c7, .int .i64 cost] 48)
            have hAda := Lib.hid (hO7.out.keep kda (fun _ _ f => f))
            have hKda := Lib.hid (hK7.out.trans kda)
            have hcna := Lib.hid (cells_newL (w := w7) rfl age type seq cost id adv mask links routers p5 p7 c5 c7)
            clear kda
            go_wp2_with (first | ((with_reducible refine at_slot 39 ?_); refine wpList_load_mid rfl 48 (.tmp 3) rfl bx 0 rfl [.int .i64 age, .int .i64 type, .int .u32 id, .int .u32 adv, .int .i64 seq, .slice p5 links.length c5, .int .u32 mask, .slice p7 routers.length c7, .int .i64 cost] _ hB7.out.range Try.underlying48 rfl lsaInfoR ?_) | ((with_reducible refine at_slot 41 ?_); refine wpList_append_r rfl (.tmp 38) (.tmp 40) 44 48 rfl ik _ 96 Try.underlying44 hik hkz hksz hkby rfl (by decide) (by decide) lsaRow_len w1 _ out.length out rfl rfl hAda.out _ rfl ⟨⟨age, type, id, adv, seq, links, mask, routers, cost⟩, p5, c5, p7, c7⟩ hcna.out (lsaRow_oneU _) (by omega) ?_; intro q8 d8 w8 hO8 hg8))
            have hK8 := Lib.hid (hKda.out.trans' hg8.out.k (fun i e => .inr (hAda.out.2.1 i e)))
            exact ⟨⟨i + 1, true, out ++ [⟨⟨age, type, id, adv, seq, links, mask, routers, cost⟩, p5, c5, p7, c7⟩], q8, d8, by omega, by simp; omega, by go_num, by simp, rfl, hS2, hnw2, by simpa using hO8, hK8⟩, by simp [intOf]; omega⟩
        | false =>
          have hk : Hid (kM m ≠ (type, id, adv)) := Lib.hid (by simpa using hz'.out)
          clear hz'
          have hnw2 : Hid (∀ z ∈ ms.take (i + 1), kM z = (type, id, adv) → newerD ⟨age, type, id, adv, seq, links, mask, routers, cost⟩ z.d = true) := Lib.hid (by
            rw [take_snoc hm'.out]
            intro z hz
            rcases List.mem_append.1 hz with hz | hz
            · exact hnw.out z hz
            · rw [List.mem_singleton] at hz; subst hz; exact fun e => absurd e hk.out)
          obtain ⟨⟨age2, type2, id2, adv2, seq2, links2, mask2, routers2, cost2⟩, q5, d5, q7, d7⟩ := m
          simp only at hmk4
          cases put with
          | true =>
            have hS2 := Lib.hid (put_after hS.out hm'.out)
            go_upto_region 12 with fail
            refine wp_region_noPanic ?_
            refine wp_region_held_drew (S := (fun W => Keeps (fun _ => False) wq W)) (by kernel_rfl) (((Keeps.refl (fun _ => False) _).drew)) (fun hHeld => ?_)
            refine tk 0 rfl ?_
            refine tk 1 rfl ?_
            refine tk 2 rfl ?_
            refine tkS 3 rfl ?_
            refine tkS 4 rfl ?_
            refine tkS 5 rfl ?_
            refine tkS 6 rfl ?_
            refine tkS 7 rfl ?_
            refine tkS 8 rfl ?_
            refine tkS 9 rfl ?_
            refine tkS 10 rfl ?_
            refine tk 11 rfl ?_
            refine tk 12 rfl ?_
            refine tkS 13 rfl ?_
            refine tkS 14 rfl ?_
            refine tkS 15 rfl ?_
            refine tkS 16 rfl ?_
            refine tkS 17 rfl ?_
            refine tk 18 rfl ?_
            refine wpAnyH_done (by kernel_rfl) (NoPanic.normal ?_) _
            have hK7 := Lib.hid (hK4.out.trans hHeld)
            have hO7 := Lib.hid (hO4.out.keep hHeld (fun _ _ f => f))
            have hm7 := Lib.hid (hHeld.rangeAt hm4.out (fun f => f))
            generalize wq.drew = w7 at hK7 hO7 hm7 ⊢
            clear hHeld hK4 hO4 hm4 hmk4 hxk4 hIm4 hIx4 hB4
            have kda := (Keeps.refl (fun _ => False) w7).alloc (.cells #[.int .i64 age2, .int .i64 type2, .int .u32 id2, .int .u32 adv2, .int .i64 seq2, .slice q5 links2.length d5, .int .u32 mask2, .slice q7 routers2.length d7, .int .i64 cost2] 48)
            have hAda := Lib.hid (hO7.out.keep kda (fun _ _ f => f))
            have hKda := Lib.hid (hK7.out.trans kda)
            have hcna := Lib.hid (cells_newL (w := w7) rfl age2 type2 seq2 cost2 id2 adv2 mask2 links2 routers2 q5 q7 d5 d7)
            clear kda
            go_wp2_with (first | ((with_reducible refine at_slot 69 ?_); refine wpList_load_mid rfl 48 (.tmp 68) rfl g (o + i * 9) rfl [.int .i64 age2, .int .i64 type2, .int .u32 id2, .int .u32 adv2, .int .i64 seq2, .slice q5 links2.length d5, .int .u32 mask2, .slice q7 routers2.length d7, .int .i64 cost2] _ hm7.out Try.underlying48 rfl lsaInfoR ?_) | ((with_reducible refine at_slot 71 ?_); refine wpList_append_r rfl (.tmp 65) (.tmp 70) 44 48 rfl ik _ 96 Try.underlying44 hik hkz hksz hkby rfl (by decide) (by decide) lsaRow_len w1 _ out.length out rfl rfl hAda.out _ rfl ⟨⟨age2, type2, id2, adv2, seq2, links2, mask2, routers2, cost2⟩, q5, d5, q7, d7⟩ hcna.out (lsaRow_oneU _) (by omega) ?_; intro q8 d8 w8 hO8 hg8))
            have hK8 := Lib.hid (hKda.out.trans' hg8.out.k (fun i e => .inr (hAda.out.2.1 i e)))
            exact ⟨⟨i + 1, true, out ++ [⟨⟨age2, type2, id2, adv2, seq2, links2, mask2, routers2, cost2⟩, q5, d5, q7, d7⟩], q8, d8, by omega, by simp; omega, by go_num, by simp, rfl, hS2, hnw2, by simpa using hO8, hK8⟩, by simp [intOf]; omega⟩
          | false =>
            obtain ⟨lz, hlz⟩ : ∃ z, decide (ltK (type, id, adv) (type2, id2, adv2)) = z := ⟨_, rfl⟩
            have hlz' : Hid (lessB ⟨type, id, adv⟩ ⟨type2, id2, adv2⟩ = lz) := Lib.hid ((lessB_lt _ _ _ _ _ _).trans hlz)
            have hlz0 := Lib.hid hlz
            clear hlz
            cases lz with
            | false =>
              have hS2 := Lib.hid (put_below hS.out hm'.out hk.out (fun hl => absurd hl (of_decide_eq_false hlz0.out)))
              go_upto_region 12 with fail
              refine wp_region_noPanic ?_
              refine wp_region_held_drew (S := (fun W => Keeps (fun _ => False) wq W)) (by kernel_rfl) (((Keeps.refl (fun _ => False) _).drew)) (fun hHeld => ?_)
              refine tk 0 rfl ?_
              refine tk 1 rfl ?_
              refine tk 2 rfl ?_
              refine tk 3 rfl ?_
              refine tkL 4 rfl (yieldsIf_load_mid (by rfl) 45 (.tmp 45) rfl bx 1 rfl [.int .i64 type, .int .u32 id, .int .u32 adv] _ (fun _ s => s.rangeAt hxk4.out (fun f => f)) Try.underlying45 rfl r10KeyInfo) ?_
              refine tk 5 rfl ?_
              refine tk 6 rfl ?_
              refine tk 7 rfl ?_
              refine tk 8 rfl ?_
              refine tkL 9 rfl (yieldsIf_load_mid (by rfl) 45 (.tmp 50) rfl g (o + i * 9 + 1) rfl [.int .i64 type2, .int .u32 id2, .int .u32 adv2] _ (fun _ s => s.rangeAt hmk4.out (fun f => f)) Try.underlying45 rfl r10KeyInfo) ?_
              refine stepL 10 rfl (by kernel_rfl) (fun K hK => ?_)
              go_simp
              (refine (r12Less_any ⟨type, id, adv⟩ ⟨type2, id2, adv2⟩ false _ hlz').mono ?_; rintro e w5 ⟨rfl, k5⟩)
              go_wp2_with fail
              refine hK.out _ _ ((hHeld.trans k5)) (fun hHeld => ?_)
              clear hK K
              try simp only [Act.put, sA, sZ, sS]
              refine tk 11 rfl ?_
              refine tk 12 rfl ?_
              refine tkS 13 rfl ?_
              refine tkS 14 rfl ?_
              refine tkS 15 rfl ?_
              refine tkS 16 rfl ?_
              refine tkS 17 rfl ?_
              refine tk 18 rfl ?_
              refine wpAnyH_done (by kernel_rfl) (NoPanic.normal ?_) _
              have hK7 := Lib.hid (hK4.out.trans hHeld)
              have hO7 := Lib.hid (hO4.out.keep hHeld (fun _ _ f => f))
              have hm7 := Lib.hid (hHeld.rangeAt hm4.out (fun f => f))
              clear hHeld k5 hK4 hO4 hm4 hmk4 hxk4 hIm4 hIx4 hB4
              have kda := (Keeps.refl (fun _ => False) w5).alloc (.cells #[.int .i64 age2, .int .i64 type2, .int .u32 id2, .int .u32 adv2, .int .i64 seq2, .slice q5 links2.length d5, .int .u32 mask2, .slice q7 routers2.length d7, .int .i64 cost2] 48)
              have hAda := Lib.hid (hO7.out.keep kda (fun _ _ f => f))
              have hKda := Lib.hid (hK7.out.trans kda)
              have hcna := Lib.hid (cells_newL (w := w5) rfl age2 type2 seq2 cost2 id2 adv2 mask2 links2 routers2 q5 q7 d5 d7)
              clear kda
              go_wp2_with (first | ((with_reducible refine at_slot 69 ?_); refine wpList_load_mid rfl 48 (.tmp 68) rfl g (o + i * 9) rfl [.int .i64 age2, .int .i64 type2, .int .u32 id2, .int .u32 adv2, .int .i64 seq2, .slice q5 links2.length d5, .int .u32 mask2, .slice q7 routers2.length d7, .int .i64 cost2] _ hm7.out Try.underlying48 rfl lsaInfoR ?_) | ((with_reducible refine at_slot 71 ?_); refine wpList_append_r rfl (.tmp 65) (.tmp 70) 44 48 rfl ik _ 96 Try.underlying44 hik hkz hksz hkby rfl (by decide) (by decide) lsaRow_len w1 _ out.length out rfl rfl hAda.out _ rfl ⟨⟨age2, type2, id2, adv2, seq2, links2, mask2, routers2, cost2⟩, q5, d5, q7, d7⟩ hcna.out (lsaRow_oneU _) (by omega) ?_; intro q8 d8 w8 hO8 hg8))
              have hK8 := Lib.hid (hKda.out.trans' hg8.out.k (fun i e => .inr (hAda.out.2.1 i e)))
              exact ⟨⟨i + 1, false, out ++ [⟨⟨age2, type2, id2, adv2, seq2, links2, mask2, routers2, cost2⟩, q5, d5, q7, d7⟩], q8, d8, by omega, by simp; omega, by go_num, by simp, rfl, hS2, hnw2, by simpa using hO8, hK8⟩, by simp [intOf]; omega⟩
            | true =>
              have hlt : Hid (ltK (type, id, adv) (type2, id2, adv2)) := Lib.hid (by have := hlz0.out; simpa using this)
              obtain ⟨hz, hhz⟩ : ∃ z, (ms.any fun m => decide (kM m = (type, id, adv))) = z := ⟨_, rfl⟩
              have hhz' := Lib.hid hhz
              clear hhz
              go_upto_region 12 with fail
              refine wp_region_noPanic ?_
              refine wp_region_held_drew (S := (fun W => Keeps (fun _ => False) wq W)) (by kernel_rfl) (((Keeps.refl (fun _ => False) _).drew)) (fun hHeld => ?_)
              refine tk 0 rfl ?_
              refine tk 1 rfl ?_
              refine tk 2 rfl ?_
              refine tk 3 rfl ?_
              refine tkL 4 rfl (yieldsIf_load_mid (by rfl) 45 (.tmp 45) rfl bx 1 rfl [.int .i64 type, .int .u32 id, .int .u32 adv] _ (fun _ s => s.rangeAt hxk4.out (fun f => f)) Try.underlying45 rfl r10KeyInfo) ?_
              refine tk 5 rfl ?_
              refine tk 6 rfl ?_
              refine tk 7 rfl ?_
              refine tk 8 rfl ?_
              refine tkL 9 rfl (yieldsIf_load_mid (by rfl) 45 (.tmp 50) rfl g (o + i * 9 + 1) rfl [.int .i64 type2, .int .u32 id2, .int .u32 adv2] _ (fun _ s => s.rangeAt hmk4.out (fun f => f)) Try.underlying45 rfl r10KeyInfo) ?_
              refine stepL 10 rfl (by kernel_rfl) (fun K hK => ?_)
              go_simp
              (refine (r12Less_any ⟨type, id, adv⟩ ⟨type2, id2, adv2⟩ true _ hlz').mono ?_; rintro e w5 ⟨rfl, k5⟩)
              go_wp2_with fail
              refine hK.out _ _ ((hHeld.trans k5)) (fun hHeld => ?_)
              clear hK K
              try simp only [Act.put, sA, sZ, sS]
              refine tk 11 rfl ?_
              refine tk 12 rfl ?_
              refine tk 13 rfl ?_
              refine tk 14 rfl ?_
              refine tkL 15 rfl (yieldsIf_load_mid (by rfl) 45 (.tmp 56) rfl bx 1 rfl [.int .i64 type, .int .u32 id, .int .u32 adv] _ (fun _ s => s.rangeAt hxk4.out (fun f => f)) Try.underlying45 rfl r10KeyInfo) ?_
              have hv5 := hv1.out.keep (hK4.out.trans hHeld)
              refine stepL 16 rfl (by kernel_rfl) (fun K hK => ?_)
              go_simp
              (refine (r12has_any _ ms (by omega) type id adv _ (Lib.hid hv5)).mono ?_; rintro e w6 ⟨rfl, k6⟩; rw [hhz'.out])
              go_wp2_with fail
              refine hK.out _ _ ((hHeld.trans k6)) (fun hHeld => ?_)
              clear hK K
              try simp only [Act.put, sA, sZ, sS]
              refine tk 17 rfl ?_
              refine tk 18 rfl ?_
              refine wpAnyH_done (by kernel_rfl) (NoPanic.normal ?_) _
              have hK7 := Lib.hid (hK4.out.trans hHeld)
              have hO7 := Lib.hid (hO4.out.keep hHeld (fun _ _ f => f))
              have hm7 := Lib.hid (hHeld.rangeAt hm4.out (fun f => f))
              have hB7 := Lib.hid (hB4.out.keep hHeld (fun f => f))
              clear hHeld k5 k6 hv5 hK4 hO4 hm4 hmk4 hxk4 hIm4 hIx4 hB4
              cases hz with
              | true =>
                have hS2 := Lib.hid (put_below hS.out hm'.out hk.out (fun _ hno => by
                  have h1 := hhz'.out
                  rw [any_none (k := (type, id, adv)) hno] at h1
                  cases h1))
                have kda := (Keeps.refl (fun _ => False) w6).alloc (.cells #[.int .i64 age2, .int .i64 type2, .int .u32 id2, .int .u32 adv2, .int .i64 seq2, .slice q5 links2.length d5, .int .u32 mask2, .slice q7 routers2.length d7, .int .i64 cost2] 48)
                have hAda := Lib.hid (hO7.out.keep kda (fun _ _ f => f))
                have hKda := Lib.hid (hK7.out.trans kda)
                have hcna := Lib.hid (cells_newL (w := w6) rfl age2 type2 seq2 cost2 id2 adv2 mask2 links2 routers2 q5 q7 d5 d7)
                clear kda
                go_wp2_with (first | ((with_reducible refine at_slot 69 ?_); refine wpList_load_mid rfl 48 (.tmp 68) rfl g (o + i * 9) rfl [.int .i64 age2, .int .i64 type2, .int .u32 id2, .int .u32 adv2, .int .i64 seq2, .slice q5 links2.length d5, .int .u32 mask2, .slice q7 routers2.length d7, .int .i64 cost2] _ hm7.out Try.underlying48 rfl lsaInfoR ?_) | ((with_reducible refine at_slot 71 ?_); refine wpList_append_r rfl (.tmp 65) (.tmp 70) 44 48 rfl ik _ 96 Try.underlying44 hik hkz hksz hkby rfl (by decide) (by decide) lsaRow_len w1 _ out.length out rfl rfl hAda.out _ rfl ⟨⟨age2, type2, id2, adv2, seq2, links2, mask2, routers2, cost2⟩, q5, d5, q7, d7⟩ hcna.out (lsaRow_oneU _) (by omega) ?_; intro q8 d8 w8 hO8 hg8))
                have hK8 := Lib.hid (hKda.out.trans' hg8.out.k (fun i e => .inr (hAda.out.2.1 i e)))
                exact ⟨⟨i + 1, false, out ++ [⟨⟨age2, type2, id2, adv2, seq2, links2, mask2, routers2, cost2⟩, q5, d5, q7, d7⟩], q8, d8, by omega, by simp; omega, by go_num, by simp, rfl, hS2, hnw2, by simpa using hO8, hK8⟩, by simp [intOf]; omega⟩
              | false =>
                have hS2 := Lib.hid (put_here hup.out hS.out hm'.out hlt.out (fun z hz e => by
                  have h1 := hhz'.out
                  rw [List.any_eq_false] at h1
                  exact h1 z hz (decide_eq_true (show kM z = (type, id, adv) from e))))
                have kda := (Keeps.refl (fun _ => False) w6).alloc (.cells #[.int .i64 age, .int .i64 type, .int .u32 id, .int .u32 adv, .int .i64 seq, .slice p5 links.length c5, .int .u32 mask, .slice p7 routers.length c7, .int .i64 cost] 48)
                have hAda := Lib.hid (hO7.out.keep kda (fun _ _ f => f))
                have hKda := Lib.hid (hK7.out.trans kda)
                have hcna := Lib.hid (cells_newL (w := w6) rfl age type seq cost id adv mask links routers p5 p7 c5 c7)
                clear kda
                go_wp2_with (first | ((with_reducible refine at_slot 62 ?_); refine wpList_load_mid rfl 48 (.tmp 3) rfl bx 0 rfl [.int .i64 age, .int .i64 type, .int .u32 id, .int .u32 adv, .int .i64 seq, .slice p5 links.length c5, .int .u32 mask, .slice p7 routers.length c7, .int .i64 cost] _ hB7.out.range Try.underlying48 rfl lsaInfoR ?_) | ((with_reducible refine at_slot 64 ?_); refine wpList_append_r rfl (.tmp 61) (.tmp 63) 44 48 rfl ik _ 96 Try.underlying44 hik hkz hksz hkby rfl (by decide) (by decide) lsaRow_len w1 _ out.length out rfl rfl hAda.out _ rfl ⟨⟨age, type, id, adv, seq, links, mask, routers, cost⟩, p5, c5, p7, c7⟩ hcna.out (lsaRow_oneU _) (by omega) ?_; intro q6 d6 w8 hA7 hg7; have hKm := Lib.hid (hKda.out.trans' hg7.out.k (fun i e => .inr (hAda.out.2.1 i e))); have hm8 := Lib.hid (hKm.out.rangeAt (hr1.out i _ hm'.out) (fun f => f)); have kdb := (Keeps.refl (fun _ => False) w8).alloc (.cells #[.int .i64 age2, .int .i64 type2, .int .u32 id2, .int .u32 adv2, .int .i64 seq2, .slice q5 links2.length d5, .int .u32 mask2, .slice q7 routers2.length d7, .int .i64 cost2] 48); have hAdb := Lib.hid (hA7.out.keep kdb (fun _ _ f => f)); have hKdb := Lib.hid (hKm.out.trans kdb); have hcnb := Lib.hid (cells_newL (w := w8) rfl age2 type2 seq2 cost2 id2 adv2 mask2 links2 routers2 q5 q7 d5 d7); clear kdb hA7) | ((with_reducible refine at_slot 69 ?_); refine wpList_load_mid rfl 48 (.tmp 68) rfl g (o + i * 9) rfl [.int .i64 age2, .int .i64 type2, .int .u32 id2, .int .u32 adv2, .int .i64 seq2, .slice q5 links2.length d5, .int .u32 mask2, .slice q7 routers2.length d7, .int .i64 cost2] _ hm8.out Try.underlying48 rfl lsaInfoR ?_) | ((with_reducible refine at_slot 71 ?_); refine wpList_append_r rfl (.tmp 65) (.tmp 70) 44 48 rfl ik _ 96 Try.underlying44 hik hkz hksz hkby rfl (by decide) (by decide) lsaRow_len w1 (.slice q6 (out.length + 1) d6) (out.length + 1) (out ++ [⟨⟨age, type, id, adv, seq, links, mask, routers, cost⟩, p5, c5, p7, c7⟩]) (by simp) rfl hAdb.out _ rfl ⟨⟨age2, type2, id2, adv2, seq2, links2, mask2, routers2, cost2⟩, q5, d5, q7, d7⟩ hcnb.out (lsaRow_oneU _) (by omega) ?_; intro q8 d8 w9 hO8 hg8))
                have hK8 := Lib.hid (hKdb.out.trans' hg8.out.k (fun i e => .inr (hAdb.out.2.1 i e)))
                exact ⟨⟨i + 1, true, out ++ [⟨⟨age, type, id, adv, seq, links, mask, routers, cost⟩, p5, c5, p7, c7⟩] ++ [⟨⟨age2, type2, id2, adv2, seq2, links2, mask2, routers2, cost2⟩, q5, d5, q7, d7⟩], q8, d8, by omega, by simp; omega, by go_num, by simp, rfl, hS2, hnw2, by simpa using hO8, hK8⟩, by simp [intOf]; omega⟩
      · obtain rfl : i = ms.length := by omega
        have he := Lib.hid (put_end hS.out)
        rw [List.take_length] at hnw
        have hpa := Lib.hid (putA_of hF.out hcz'.out (fun z hz hk => by
          obtain ⟨m, hm, rfl⟩ := List.mem_map.1 hz
          exact hnw.out m hm hk))
        have hrl : Hid ((putR ⟨age, type, id, adv, seq, links, mask, routers, cost⟩ (ms.map (·.d))).length = (putRM ⟨⟨age, type, id, adv, seq, links, mask, routers, cost⟩, p5, c5, p7, c7⟩ ms).length) := Lib.hid (by rw [← List.length_map (f := fun m : LsaM => m.d), putRM_map])
        cases put with
        | true =>
          have he' : Hid (putRM ⟨⟨age, type, id, adv, seq, links, mask, routers, cost⟩, p5, c5, p7, c7⟩ ms = out) := Lib.hid he.out
          rw [he'.out] at hrl
          by_cases h20 : 20 < out.length
          · have hpa2 : Hid (putA (ms.map (·.d)) ⟨age, type, id, adv, seq, links, mask, routers, cost⟩ = (ms.map (·.d), false, 5)) := Lib.hid (by rw [hpa.out, hrl.out, if_pos h20])
            have h20i : (out.length : Int) > 20 := by omega
            clear h20
            go_wp2_with fail
            go_ret3
            exact ⟨⟨_, ms, by rw [hpa2.out]; rfl, hv1.out.keep hK.out, by rw [hpa2.out], fun m hm => .inl hm⟩, hK1.out.trans hK.out⟩
          · have hpa2 : Hid (putA (ms.map (·.d)) ⟨age, type, id, adv, seq, links, mask, routers, cost⟩ = (putR ⟨age, type, id, adv, seq, links, mask, routers, cost⟩ (ms.map (·.d)), true, 0)) := Lib.hid (by rw [hpa.out, hrl.out, if_neg h20])
            have h20i : ¬ (out.length : Int) > 20 := by omega
            clear h20
            go_wp2_with fail
            go_ret3
            exact ⟨⟨_, out, by rw [hpa2.out]; rfl, hO.out.at lsaRow_len, by rw [hpa2.out, ← he'.out, putRM_map], fun m hm => by rw [← he'.out] at hm; exact (putRM_mem hm).symm⟩, hK1.out.trans hK.out⟩
        | false =>
          have he' : Hid (putRM ⟨⟨age, type, id, adv, seq, links, mask, routers, cost⟩, p5, c5, p7, c7⟩ ms = out ++ [⟨⟨age, type, id, adv, seq, links, mask, routers, cost⟩, p5, c5, p7, c7⟩]) := Lib.hid he.out
          rw [he'.out] at hrl
          have hBx := Lib.hid (hB1.out.keep hK.out (fun f => f))
          have kda := (Keeps.refl (fun _ => False) wr).alloc (.cells #[.int .i64 age, .int .i64 type, .int .u32 id, .int .u32 adv, .int .i64 seq, .slice p5 links.length c5, .int .u32 mask, .slice p7 routers.length c7, .int .i64 cost] 48)
          have hAda := Lib.hid (hO.out.keep kda (fun _ _ f => f))
          have hKda := Lib.hid (hK.out.trans kda)
          have hcna := Lib.hid (cells_newL (w := wr) rfl age type seq cost id adv mask links routers p5 p7 c5 c7)
          clear kda
          by_cases h20 : 20 < out.length + 1
          · have hpa2 : Hid (putA (ms.map (·.d)) ⟨age, type, id, adv, seq, links, mask, routers, cost⟩ = (ms.map (·.d), false, 5)) := Lib.hid (by rw [hpa.out, hrl.out, if_pos (by simpa using h20)])
            have h20i : (out.length : Int) + 1 > 20 := by omega
            clear h20
            go_wp2_with (first | ((with_reducible refine at_slot 75 ?_); refine wpList_load_mid rfl 48 (.tmp 3) rfl bx 0 rfl [.int .i64 age, .int .i64 type, .int .u32 id, .int .u32 adv, .int .i64 seq, .slice p5 links.length c5, .int .u32 mask, .slice p7 routers.length c7, .int .i64 cost] _ hBx.out.range Try.underlying48 rfl lsaInfoR ?_) | ((with_reducible refine at_slot 77 ?_); refine wpList_append_r rfl (.tmp 74) (.tmp 76) 44 48 rfl ik _ 96 Try.underlying44 hik hkz hksz hkby rfl (by decide) (by decide) lsaRow_len w1 _ out.length out rfl rfl hAda.out _ rfl ⟨⟨age, type, id, adv, seq, links, mask, routers, cost⟩, p5, c5, p7, c7⟩ hcna.out (lsaRow_oneU _) (by omega) ?_; intro q8 d8 w8 hO8 hg8; have hK8 := Lib.hid (hKda.out.trans' hg8.out.k (fun i e => .inr (hAda.out.2.1 i e)))))
            go_ret3
            exact ⟨⟨_, ms, by rw [hpa2.out]; rfl, hv1.out.keep hK8.out, by rw [hpa2.out], fun m hm => .inl hm⟩, hK1.out.trans hK8.out⟩
          · have hpa2 : Hid (putA (ms.map (·.d)) ⟨age, type, id, adv, seq, links, mask, routers, cost⟩ = (putR ⟨age, type, id, adv, seq, links, mask, routers, cost⟩ (ms.map (·.d)), true, 0)) := Lib.hid (by rw [hpa.out, hrl.out, if_neg (by simpa using h20)])
            have h20i : ¬ (out.length : Int) + 1 > 20 := by omega
            clear h20
            go_wp2_with (first | ((with_reducible refine at_slot 75 ?_); refine wpList_load_mid rfl 48 (.tmp 3) rfl bx 0 rfl [.int .i64 age, .int .i64 type, .int .u32 id, .int .u32 adv, .int .i64 seq, .slice p5 links.length c5, .int .u32 mask, .slice p7 routers.length c7, .int .i64 cost] _ hBx.out.range Try.underlying48 rfl lsaInfoR ?_) | ((with_reducible refine at_slot 77 ?_); refine wpList_append_r rfl (.tmp 74) (.tmp 76) 44 48 rfl ik _ 96 Try.underlying44 hik hkz hksz hkby rfl (by decide) (by decide) lsaRow_len w1 _ out.length out rfl rfl hAda.out _ rfl ⟨⟨age, type, id, adv, seq, links, mask, routers, cost⟩, p5, c5, p7, c7⟩ hcna.out (lsaRow_oneU _) (by omega) ?_; intro q8 d8 w8 hO8 hg8; have hK8 := Lib.hid (hKda.out.trans' hg8.out.k (fun i e => .inr (hAda.out.2.1 i e)))))
            go_ret3
            exact ⟨⟨_, out ++ [⟨⟨age, type, id, adv, seq, links, mask, routers, cost⟩, p5, c5, p7, c7⟩], by rw [hpa2.out]; rfl, hO8.out.at lsaRow_len, by rw [hpa2.out, ← he'.out, putRM_map], fun m hm => by rw [← he'.out] at hm; exact (putRM_mem hm).symm⟩, hK1.out.trans hK8.out⟩
end Go.Proofs.Ytdaongflpllfhaa
/- lsdb.Copy of a Db of whatever Lsas (gen_lme.py writes this). -/
set_option linter.unusedVariables false
set_option linter.unusedSimpArgs false
namespace Go.Proofs.Ytdaongflpllfhaa
open Go.RowKit

theorem DbL.keepC {F : Nat → Prop} {w w' : World} {b r N : Nat} {L : List LsaD} (h : DbL w b r N L) (k : Keeps F w w') (hF : ∀ i cur t x, w.heap[i]? = some (.cells cur t x) → ¬ F i) (hr : ¬ F r) : DbL w' b r N L := by
  obtain ⟨K, h⟩ := h
  exact ⟨K, h.blk.keep k (hF _ _ _ _ h.blk), h.map.keep k hr, fun t i a ho => (h.val t i a ho).keep k hF⟩
theorem KRng.not_cells {w : World} {b r N n cnt : Nat} {K : KMap} {L : Int → Nat → Nat → Bool} (h : KRng w b r N K L n cnt) (i : Nat) (cur : Array Value) (t : TypeId) (x : Nat × Nat) (hc : w.heap[i]? = some (.cells cur t x)) : ¬ i = r := fun e => by
  subst e
  obtain ⟨D, left, ⟨es, clock, since, seen, c0, e1, f1, f2, f3, e2, rest⟩, -⟩ := h
  rw [e2] at hc
  cases hc
theorem KRng.lt {w : World} {b r N n cnt : Nat} {K : KMap} {L : Int → Nat → Nat → Bool} (h : KRng w b r N K L n cnt) : r < w.heap.size := by
  obtain ⟨D, left, h1, -⟩ := h
  exact h1.lt
/-- a Db of whatever, that could have been put -/
def DbS (w : World) (b r N : Nat) (L : List LsaD) : Prop := DbL w b r N L ∧ FineL L
set_option maxRecDepth 100000 in
set_option maxHeartbeats 8000000 in
theorem ldCopy_g (b r N : Nat) (L : List LsaD) (hF : Hid (FineL L)) (w : World) (h : Hid (DbL w b r N L)) :
    Calls Try.prog 15 #[.pointer (some ⟨b, 0, none⟩)] w fun e w' => (∃ b2 r2 N2 L2, e = .returned (.pointer (some ⟨b2, 0, none⟩)) ∧ DbL w' b2 r2 N2 L2 ∧ FineL L2 ∧ N2 ≤ 20 ∧ w.heap.size ≤ b2 ∧ w.heap.size ≤ r2) ∧ Keeps (fun _ => False) w w' := by
  have hfew := hF.out.few
  go_enter Try.func15, Try.ntmps15
  go_wp2_with fail
  refine (ldNew_g w).mono ?_
  rintro e w1 ⟨b2, r2, rfl, hD2, hb2, hr2, k1⟩
  obtain ⟨K, hDK⟩ := h.out.keep k1
  obtain ⟨w2, hrun, hR, k2, hs2⟩ := hDK.map.range
  have hDb := Lib.hid hDK.blk
  have hc := hDK.blk.cell 0 _ rfl
  have hval := Lib.hid hDK.val
  have hlt2 := hD2.lt
  have hlt := h.out.lt
  have hK2 := Lib.hid (k1.trans k2)
  have hK12 := Lib.hid k2
  have hD22 := Lib.hid (hD2.keep k2)
  have hR' := Lib.hid hR
  have hnum : Hid (w.heap.size ≤ b2 ∧ w.heap.size ≤ r2 ∧ b2 < w1.heap.size ∧ r2 < w1.heap.size ∧ r < w.heap.size ∧ b < w.heap.size ∧ w.heap.size ≤ w1.heap.size) := Lib.hid ⟨hb2, hr2, hlt2.1, hlt2.2, hlt.2, hlt.1, k1.size⟩
  clear hD2 hb2 hr2 k2 hDK hR hs2 hlt2 hlt k1
  generalize hgi : w1.heap.size = ir at hrun hR' hnum
  have hgi' := Lib.hid hgi
  clear hgi
  go_wp2_with fail
  clear hrun hc
  have hK1r : Hid (Keeps (fun _ => False) w w2) := hK2
  clear hK2
  go_loopw [4] (fun _ wr => ∃ (Lf : Int → Nat → Nat → Bool) (cnt N2 : Nat) (L2 : List LsaD), L2.length + cnt ≤ L.length ∧ N2 + cnt ≤ L.length ∧ Hid (KRng wr r ir N K Lf L.length cnt) ∧ Hid (DbL wr b2 r2 N2 L2) ∧ Hid (FineL L2) ∧ Hid (Keeps (fun _ => False) w wr) ∧ Hid (ir < wr.heap.size ∧ ∀ t i a, kOk t i a → ValK wr (K t i a) (mapL L t i a))) (fun _ wr => wr.rangeLeft r ir)
  case atStart => exact ⟨_, L.length, 0, [], by simp, by simp, hR', hD22, Lib.hid ⟨List.Pairwise.nil, by simp, by simp⟩, hK1r, Lib.hid ⟨hR'.out.lt, fun t i a ho => (hval.out t i a ho).keep hK12.out (fun _ _ _ _ _ f => f)⟩⟩
  case round =>
    obtain ⟨Lf, cnt, N2, L2, hn1, hn2, hRg, hD, hFL, hK, hV⟩ := hrel
    rcases hRg.out.next 0 with ⟨h0, hL, hnx⟩ | ⟨t, i, a, va, w8, cnt2, hko, hLx, hKx, hnx, hRg2, hlt, hk8, hs8, hen⟩
    · go_wp2_with fail
      go_ret
      exact ⟨⟨b2, r2, N2, L2, rfl, hD.out, hFL.out, by omega, hnum.out.1, hnum.out.2.1⟩, hK.out⟩
    · have hvv := hV.out.2 t i a hko
      rw [hKx] at hvv
      cases hm : mapL L t i a with
      | none => rw [hm] at hvv; exact (Option.some_ne_none _ hvv).elim
      | some dx =>
        rw [hm] at hvv
        obtain ⟨m, hm1, hm2, hm3⟩ := hvv
        obtain rfl : va = .agg (lsaRow m).toArray := by injection hm1
        have hgx : Hid (GoodL m.d) := Lib.hid (by rw [hm2]; exact hF.out.good dx (mapL_some hm).1)
        have hkk : kOf m.d = (t, i, a) := by rw [hm2]; exact (mapL_some hm).2
        have hll := canB_lens hgx.out.can
        obtain ⟨⟨age, type, id, adv, seq, links, mask, routers, cost⟩, p5, c5, p7, c7⟩ := m
        simp only at hll
        obtain ⟨rfl, rfl, rfl⟩ : type = t ∧ id = i ∧ adv = a := by
          injection hkk with e1 e2
          injection e2 with e2 e3
          exact ⟨e1, e2, e3⟩
        have hko' := Lib.hid hko
        have e0 : (lsaRow ⟨⟨age, type, id, adv, seq, links, mask, routers, cost⟩, p5, c5, p7, c7⟩).toArray = #[.int .i64 age, .int .i64 type, .int .u32 id, .int .u32 adv, .int .i64 seq, .slice p5 links.length c5, .int .u32 mask, .slice p7 routers.length c7, .int .i64 cost] := rfl
        rw [e0] at hnx hen
        have hnc := hRg.out.not_cells
        have hir := hV.out.1
        have hI8 := Lib.hid (hm3.keepC hk8 (fun j cur t x hc => hnc j cur t x hc))
        have hV8 : Hid (∀ t i a, kOk t i a → ValK w8 (K t i a) (mapL L t i a)) := Lib.hid (fun t i a ho => (hV.out.2 t i a ho).keep hk8 (fun j cur t x hc => hnc j cur t x hc))
        have hD8 := Lib.hid (hD.out.keepC hk8 (fun j cur t x hc => hnc j cur t x hc) (by have := hnum.out; have := hgi'.out; omega))
        have hK8 := Lib.hid (hK.out.trans' hk8 (fun j e => .inr (by have := hnum.out; have := hgi'.out; omega)))
        have hRg2' := Lib.hid hRg2
        have hlt' : Hid (cnt2 < cnt) := Lib.hid hlt
        have hmeas : Hid (wr.rangeLeft r ir = cnt) := Lib.hid hRg.out.left_eq
        unfold keyA at hnx hen
        have hZ1 : Hid (BlkAt ((w8.alloc (.cells #[.int .i64 0, .int .u32 0, .int .u32 0] 25)).alloc (.cells #[.int .i64 0, .int .i64 0, .int .u32 0, .int .u32 0, .int .i64 0, .slice none 0 0, .int .u32 0, .slice none 0 0, .int .i64 0] 29)) w8.heap.size 25 [.int .i64 0, .int .u32 0, .int .u32 0]) := Lib.hid ((BlkAt.new w8 25 [.int .i64 0, .int .u32 0, .int .u32 0]).alloc _)
        have hZ2 : Hid (BlkAt ((w8.alloc (.cells #[.int .i64 0, .int .u32 0, .int .u32 0] 25)).alloc (.cells #[.int .i64 0, .int .i64 0, .int .u32 0, .int .u32 0, .int .i64 0, .slice none 0 0, .int .u32 0, .slice none 0 0, .int .i64 0] 29)) (w8.heap.size + 1) 29 [.int .i64 0, .int .i64 0, .int .u32 0, .int .u32 0, .int .i64 0, .slice none 0 0, .int .u32 0, .slice none 0 0, .int .i64 0]) := Lib.hid (by
          have := BlkAt.new (w8.alloc (.cells #[.int .i64 0, .int .u32 0, .int .u32 0] 25)) 29 [.int .i64 0, .int .i64 0, .int .u32 0, .int .u32 0, .int .i64 0, .slice none 0 0, .int .u32 0, .slice none 0 0, .int .i64 0]
          simpa using this)
        have hKz : Hid (Keeps (fun _ => False) w8 ((w8.alloc (.cells #[.int .i64 0, .int .u32 0, .int .u32 0] 25)).alloc (.cells #[.int .i64 0, .int .i64 0, .int .u32 0, .int .u32 0, .int .i64 0, .slice none 0 0, .int .u32 0, .slice none 0 0, .int .i64 0] 29))) := Lib.hid (((Keeps.refl _ _).alloc _).alloc _)
        have hs8' := Lib.hid hs8
        clear hm1 hm2 hm3 hRg2 hlt hk8 hnc hm hkk hV hD hK hRg hLx hKx hko hs8
        go_upto_region 7 with (first | ((with_reducible refine at_store 4 ?_); refine wpList_store_blk rfl 25 (.tmp 4) (.tmp 17) rfl w8.heap.size #[.int .i64 type, .int .u32 id, .int .u32 adv] rfl rfl (BlkAt.there hZ1.out 0 3 (Nat.le_refl 3)) keyInfo (key_oneK _ _ _) ?_; intro wS1 hr1 hs1; have hZ22 := Lib.hid (hZ2.out.keep hs1.out (by omega))) | ((with_reducible refine at_store 5 ?_); refine wpList_store_blk rfl 29 (.tmp 5) (.tmp 18) rfl (w8.heap.size + 1) #[.int .i64 age, .int .i64 type, .int .u32 id, .int .u32 adv, .int .i64 seq, .slice p5 links.length c5, .int .u32 mask, .slice p7 routers.length c7, .int .i64 cost] rfl rfl (BlkAt.there hZ22.out 0 9 (Nat.le_refl 9)) lsaInfo (lsa_one _ _ _ _ _ _ _ _ _ (slice_one _ _ _) (slice_one _ _ _)) ?_; intro wS2 hr2 hs2))
        have hkr : Hid (wS2.rangeAt w8.heap.size 0 [.int .i64 type, .int .u32 id, .int .u32 adv]) := Lib.hid (hs2.out.rangeAt hr1.out (by omega))
        have hS : Hid (Keeps (fun _ => False) w8 wS2) := Lib.hid ((hKz.out.trans' hs1.out (fun j e => .inr (by rw [e]; exact Nat.le_refl _))).trans' hs2.out (fun j e => .inr (by omega)))
        have hI9 := Lib.hid (hI8.out.keepC hS.out (fun _ _ _ _ _ f => f))
        have hV9 : Hid (∀ t i a, kOk t i a → ValK wS2 (K t i a) (mapL L t i a)) := Lib.hid (fun t i a ho => (hV8.out t i a ho).keep hS.out (fun _ _ _ _ _ f => f))
        have hD9 := Lib.hid (hD8.out.keep hS.out)
        have hK9 := Lib.hid (hK8.out.trans hS.out)
        have hRg9 := Lib.hid (hRg2'.out.keep hS.out (fun f => f) (fun f => f))
        obtain ⟨K2, hDK2⟩ := hD9.out
        have hDb2 := Lib.hid hDK2.blk
        have hne2 := Lib.hid hDK2.ne
        have hsz : Hid (ir < wS2.heap.size) := Lib.hid hRg9.out.lt
        obtain ⟨bk, hbk⟩ : ∃ z, w8.heap.size = z := ⟨_, rfl⟩
        rw [hbk] at hkr hr2 ⊢
        have hbig : Hid (ir < bk) := Lib.hid (by have h1 := hRg2'.out.lt; omega)
        clear hZ1 hZ2 hZ22 hKz hs1 hs2 hr1 hI8 hV8 hD8 hK8 hRg2' hS hDK2 hs8' hbk hnx hen
        refine wp_region_noPanic ?_
        refine wp_region_held_drew (S := (fun W => Keeps (fun j => j = r2) wS2 W)) (by kernel_rfl) (((Keeps.refl (fun j => j = r2) _).drew)) (fun hHeld => ?_)
        refine tk 0 rfl ?_
        refine tk 1 rfl ?_
        refine tk 2 rfl ?_
        refine tkL 3 rfl (yieldsIf_load_cell (by rfl) 84 (.tmp 21) rfl b2 0 rfl _ (fun _ s => (hDb2.out.keep s hne2.out).cell 0 (.map (some r2)) rfl) (fun w s => load_ldmap w _ _ _ s)) ?_
        refine tkL 4 rfl (yieldsIf_load_mid (by rfl) 25 (.tmp 4) rfl bk 0 rfl [.int .i64 type, .int .u32 id, .int .u32 adv] _ (fun _ s => s.rangeAt hkr.out (by have := hnum.out; have := hgi'.out; have := hbig.out; omega)) Try.underlying25 rfl keyInfo) ?_
        refine tkL 5 rfl (yieldsIf_load_mid (by rfl) 29 (.tmp 5) rfl (bk + 1) 0 rfl [.int .i64 age, .int .i64 type, .int .u32 id, .int .u32 adv, .int .i64 seq, .slice p5 links.length c5, .int .u32 mask, .slice p7 routers.length c7, .int .i64 cost] _ (fun _ s => s.rangeAt hr2.out (by have := hnum.out; have := hgi'.out; have := hbig.out; omega)) Try.underlying29 rfl lsaInfo) ?_
        have hI10 := hI9.out.keepC ((Keeps.refl (fun _ => False) wS2).drew) (fun _ _ _ _ _ f => f)
        refine stepL 6 rfl (by kernel_rfl) (fun K hK => ?_)
        go_simp
        (refine (ldClone_any ⟨⟨age, type, id, adv, seq, links, mask, routers, cost⟩, p5, c5, p7, c7⟩ _ (Lib.hid hI10.1) (Lib.hid hI10.2) (by simp only; omega) (by simp only; omega)).mono ?_; rintro e wC ⟨⟨dC, q5, d5, q7, d7⟩, rfl, hdC, hIC, -, kC⟩; have hdC : dC = ⟨age, type, id, adv, seq, links, mask, routers, cost⟩ := hdC; subst hdC)
        go_wp2_with fail
        refine hK.out _ _ ((hHeld.trans (kC.mono (fun i f => f.elim)))) (fun hHeld => ?_)
        clear hK K
        try simp only [Act.put, sA, sZ, sS]
        have hK10 := ((Keeps.refl (fun _ => False) wS2).drew).trans kC
        have hDC := hD9.out.keep hK10
        obtain ⟨wD, hrD, hDD, hkD, -⟩ := hDC.put hFL.out.up (by omega) ⟨⟨age, type, id, adv, seq, links, mask, routers, cost⟩, q5, d5, q7, d7⟩ hko'.out hIC
        refine stepL 7 rfl (by kernel_rfl) (fun K hK => ?_)
        rw [if_pos (by rfl)]
        (refine wp_mapUpdate_run 84 (.tmp 22) (.tmp 23) (.tmp 25) rfl _ _ _ rfl rfl rfl _ hrD ?_)
        refine hK.out _ _ ((hHeld.trans hkD)) (fun hHeld => ?_)
        clear hK K
        try simp only [Act.put, sA, sZ, sS]
        refine wpAnyH_done (by kernel_rfl) (NoPanic.normal ?_) _
        have hDD' := Lib.hid hDD
        have hHe := Lib.hid hHeld
        have hkD' := Lib.hid hkD
        have hKC := Lib.hid hK10
        have hncR := Lib.hid hDC.not_cells
        have hpl := putR_len hFL.out.up ⟨age, type, id, adv, seq, links, mask, routers, cost⟩
        have hpl2 : (putR ⟨age, type, id, adv, seq, links, mask, routers, cost⟩ L2).length ≤ L2.length + 1 := by rw [hpl]; split <;> omega
        clear hHeld hDD hkD hrD hDC hIC kC hpl hK10 hI10
        have hlt2 := hlt'.out
        have hm2 := hmeas.out
        go_wp2_with fail
        have hRgD := hRg9.out.keep hHe.out (by have := hnum.out; have := hgi'.out; omega) (by have := hnum.out; have := hgi'.out; omega)
        refine ⟨⟨_, cnt2, N2 + 1, putR ⟨age, type, id, adv, seq, links, mask, routers, cost⟩ L2, by omega, by omega, Lib.hid hRgD, hDD', Lib.hid ⟨rises_put hFL.out.up _, fun d hd => ?_, by omega⟩, Lib.hid (hK9.out.trans' hHe.out (fun j e => .inr (by have := hnum.out; have := hgi'.out; omega))), Lib.hid ⟨hRgD.lt, fun t i a ho => ((hV9.out t i a ho).keep hKC.out (fun _ _ _ _ _ f => f)).keep hkD'.out (fun j cur t x hc => hncR.out j cur t x hc)⟩⟩, ?_⟩
        · rcases putR_mem hd with rfl | hd
          · exact hgx.out
          · exact hFL.out.good d hd
        · rw [hm2, hRgD.left_eq]; exact hlt2
end Go.Proofs.Ytdaongflpllfhaa
/- LsaAlike, walked (gen_laa.py writes this). -/
namespace Go.Proofs.Ytdaongflpllfhaa
open Go.RowKit

theorem linksEq_self (l : List LinkD) : linksEq l l = true := by
  induction l with
  | nil => rfl
  | cons a l ih => simp [linksEq, linkEq, ih]
theorem numsEq_self (l : List Nat) : numsEq l l = true := by
  induction l with
  | nil => rfl
  | cons a l ih => simp [numsEq, ih]
theorem alikeB_self (l : LsaD) : alikeB l l = true := by
  unfold alikeB; simp [linksEq_self, numsEq_self, keyEq]
theorem links_lt {w : World} {v : Value} {ls : List LinkD} (h : LinksAt w v ls) : 0 < ls.length → ∀ i, v.ownBlock = some i → i < w.heap.size := by
  intro h0 i e
  obtain ⟨p, c, rfl, -, -, hr⟩ := h
  obtain ⟨g, o, rfl, hrr⟩ := hr h0
  have e : some g = some i := e
  injection e with e; subst e
  have := hrr 0 ls[0] (List.getElem?_eq_getElem h0) 0 (.int .u32 ls[0].id) rfl
  exact World.block_lt_of_cell? _ _ this
theorem nums_lt {w : World} {v : Value} {ns : List Nat} (h : NumsAt w v ns) : 0 < ns.length → ∀ i, v.ownBlock = some i → i < w.heap.size := fun h0 i e => (old_block h h0 i e).1
end Go.Proofs.Ytdaongflpllfhaa
