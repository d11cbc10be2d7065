/- Append. -/
import Derived.Test.YtdannodhlaaoiaaGreatDoorWT37
set_option linter.unusedVariables false
set_option linter.unusedSimpArgs false
set_option linter.unusedVariables false
set_option linter.unusedSimpArgs false
namespace Go.Proofs.YtdannodhlaaoiaaGreatDoor
open Go.RowKit
section
variable [Inhabited BaseN]

end
theorem Dk.wr_same (D : Dk) (gen half place used : Nat) (e : List UInt8) : (D.wr gen half place used e).2.b = D.b ∧ (D.wr gen half place used e).2.bs = D.bs ∧ (D.wr gen half place used e).2.n = D.n := by
  unfold Dk.wr
  split
  · exact ⟨rfl, rfl, rfl⟩
  · obtain ⟨P, hP⟩ : ∃ P : Int × Dk, (if 1 < wrM D gen half place used e then D.writes (2 + half * hsz D + used + 1) (secsOf ((wrB D gen half place used e).drop 64) (wrM D gen half place used e - 1)) else (0, D)) = P := ⟨_, rfl⟩
    have hs : P.2.b = D.b ∧ P.2.bs = D.bs ∧ P.2.n = D.n := by
      rw [← hP]; split
      · exact D.writes_same _ _
      · exact ⟨rfl, rfl, rfl⟩
    rw [hP]
    simp only
    split
    · exact hs
    · have h := P.2.writes_same (2 + half * hsz D + used) (secsOf ((wrB D gen half place used e).take 64) 1)
      rw [h.1, h.2.1, h.2.2]; exact hs
section
variable [Inhabited BaseN]
/-- a journal in memory, with its entries -/
structure JAt (w0 w : World) (jb : Nat) (D : Dk) (gen half : Nat) (ev : Value) (L : List (List UInt8)) (ended : Bool) : Prop where
  head : JHead w jb D.b gen half ev (usedOf L) ended
  ents : OwnE w0 w ev L
  dk : DkAt D w
theorem JAt.keep {w0 w w' : World} {jb : Nat} {D : Dk} {gen half : Nat} {ev : Value} {L : List (List UInt8)} {ended : Bool} (h : JAt w0 w jb D gen half ev L ended) (k : Keeps (fun _ => False) w w') : JAt w0 w' jb D gen half ev L ended := ⟨h.head.keep k id, h.ents.keep k, h.dk.keep k⟩
def allowedB (e : List UInt8) : Bool := decide (1 ≤ e.length ∧ e.length ≤ 8192)
/-- what Append answers, and what it makes -/
def apR (D : Dk) (gen half : Nat) (L : List (List UInt8)) (e : List UInt8) : Int × Dk × List (List UInt8) × Bool :=
  if allowedB e = false then (1, D, L, false) else if hsz D - usedOf L < takes e.length then (5, D, L, false) else
  if (D.wr gen half L.length (usedOf L) e).1 = 0 then (0, (D.wr gen half L.length (usedOf L) e).2, L ++ [e], false) else ((D.wr gen half L.length (usedOf L) e).1, (D.wr gen half L.length (usedOf L) e).2, [], true)
def JKeep (jb : Nat) (ev : Value) (w w' : World) : Prop := Keeps (fun k => DTy w k ∨ k = jb ∨ ev.ownBlock = some k) w w'
theorem JKeep.of {jb : Nat} {ev : Value} {w w' : World} (k : Keeps (fun _ => False) w w') : JKeep jb ev w w' := Keeps.mono k (fun i f => f.elim)
def ApPost (w0 : World) (jb : Nat) (gen half : Nat) (ev : Value) (r : Int × Dk × List (List UInt8) × Bool) (w : World) (x : Ending) (w' : World) : Prop :=
  x = .returned (.int .i64 r.1) ∧ ∃ ev', JAt w0 w' jb r.2.1 gen half ev' r.2.2.1 r.2.2.2 ∧ JKeep jb ev w w'
set_option maxRecDepth 100000 in
set_option maxHeartbeats 8000000 in
theorem append_any (w0 : World) (jb gen half : Nat) (ev : Value) (L : List (List UInt8)) (D : Dk) (v : Value) (e : List UInt8) (w : World) (hJ : Hid (JAt w0 w jb D gen half ev L false)) (hv : Hid (BytesAt w v e)) (he : e.length ≤ 1000000) (hvd : Hid (∀ k, v.ownBlock = some k → ¬ DTy w k))
    (h4 : 4 ≤ D.n) (hh : half ≤ 1) (hg : gen < 18446744073709551616) (hu : usedOf L ≤ hsz D) (hL : L.length ≤ hsz D) :
    Calls Tryz.prog 12 #[.pointer (some ⟨jb, 0, none⟩), v] w (ApPost w0 jb gen half ev (apR D gen half L e) w) := by
  obtain ⟨p, c, rfl⟩ : ∃ p c, v = .slice p e.length c := by obtain ⟨p, c, x, -⟩ := hv.out; exact ⟨p, c, x⟩
  obtain ⟨i0, hi0, hi1, hi2, hi3⟩ := bytesAll
  obtain ⟨pe, ce, rfl⟩ := hJ.out.ents.slice
  have hn := hJ.out.dk.n1.2
  have hst := Lib.hid (jstate_any jb D.b gen half _ (usedOf L) false w hJ.out.head)
  obtain ⟨U, hU⟩ : ∃ U, usedOf L = U := ⟨_, rfl⟩
  obtain ⟨T, hT⟩ : ∃ T, takes e.length = T := ⟨_, rfl⟩
  obtain ⟨H, hH⟩ : ∃ H, hsz D = H := ⟨_, rfl⟩
  have hHl : H ≤ 511 := by rw [← hH]; unfold hsz; omega
  have hTk := Lib.hid (fun W => takes_any e.length he W)
  rw [hT] at hTk
  rw [hU, hH] at hu
  rw [hH] at hL
  have hfr := Lib.hid (free_any jb gen half _ U _ D w (by have h := hJ.out.head; rw [hU] at h; exact h) hJ.out.dk.own hn h4 (by have h : (D.n - 2) / 2 = H := hH; rw [h]; exact hu))
  have hH2 : (D.n - 2) / 2 = H := hH
  rw [hH2] at hfr
  obtain ⟨al, hal⟩ : ∃ al, allowedB e = al := ⟨_, rfl⟩
  have hal2 : decide (1 ≤ e.length ∧ e.length ≤ 8192) = al := hal
  have hAl := Lib.hid (allowed_any p e.length c w)
  rw [hal2] at hAl
  have hU' := Lib.hid hU
  have hT' := Lib.hid hT
  have hH' := Lib.hid hH
  have hal' := Lib.hid hal
  clear hU hT hH hH2 hal hal2
  go_enter Tryz.func12, Tryz.ntmps12
  go_wp2_with fail
  refine hst.out.mono ?_
  rintro x w1 ⟨rfl, rfl⟩
  go_wp2_with fail
  refine hAl.out.mono ?_
  rintro x w1 ⟨rfl, rfl⟩
  cases al with
  | false =>
    have hres : Hid (apR D gen half L e = (1, D, L, false)) := Lib.hid (by unfold apR; rw [hal'.out, if_pos rfl])
    go_wp2_with fail
    go_ret
    exact ⟨by rw [hres.out]; rfl, _, by rw [hres.out]; exact hJ.out, JKeep.of (Keeps.refl _ _)⟩
  | true =>
    have hal3 : 1 ≤ e.length ∧ e.length ≤ 8192 := of_decide_eq_true hal'.out
    have hT2 : T ≤ 200 := by rw [← hT'.out]; unfold takes; omega
    go_wp2_with fail
    refine (hTk.out _).mono ?_
    rintro x w1 ⟨rfl, rfl⟩
    go_wp2_with fail
    refine hfr.out.mono ?_
    rintro x w1 ⟨rfl, rfl⟩
    clear hst hAl hfr
    by_cases hful : H - U < T
    · have l1 : ((H - U : Nat) : Int) < (T : Int) := by omega
      have hres : Hid (apR D gen half L e = (5, D, L, false)) := Lib.hid (by unfold apR; rw [hal'.out, if_neg (by decide), hH'.out, hU'.out, hT'.out, if_pos hful])
      go_wp2_with fail
      go_ret
      exact ⟨by rw [hres.out]; rfl, _, by rw [hres.out]; exact hJ.out.keep ((Keeps.refl _ _).drew), JKeep.of ((Keeps.refl _ _).drew)⟩
    · have l1 : ¬ ((H - U : Nat) : Int) < (T : Int) := by omega
      obtain ⟨r, hr⟩ : ∃ r, D.wr gen half L.length U e = r := ⟨_, rfl⟩
      have hW := Lib.hid (jwrite_any jb gen half pe ce L.length U D _ e w.drew (Lib.hid (by have h := hJ.out.head.keep ((Keeps.refl (fun _ => False) _).drew) id; rw [hU'.out] at h; exact h)) (Lib.hid (hJ.out.dk.keep ((Keeps.refl _ _).drew))) (Lib.hid (hv.out.keep ((Keeps.refl _ _).drew))) hal3.1 hal3.2 h4 hh hg (by omega) (by omega))
      rw [hr] at hW
      have hrb : r.2.b = D.b := by
        rw [← hr]
        exact (D.wr_same _ _ _ _ _).1
      go_wp2_with fail
      refine hW.out.mono ?_
      rintro x w2 ⟨rfl, hD2, hk2⟩
      have hk2' : Hid (KeepD w w2) := Lib.hid ((KeepD.of ((Keeps.refl _ _).drew)).trans hk2)
      have hJ2 := Lib.hid (hJ.out.head.keepD hk2'.out)
      have hE2 := Lib.hid (hJ.out.ents.keepD hk2'.out)
      have hD2' := Lib.hid hD2
      have hv2 : Hid (w.heap.size ≤ w2.heap.size) := Lib.hid hk2'.out.size
      clear hD2 hk2 hW
      obtain ⟨rc, rD⟩ := r
      by_cases h0 : rc = 0
      · subst h0
        have hres : Hid (apR D gen half L e = (0, rD, L ++ [e], false)) := Lib.hid (by unfold apR; rw [hal'.out, if_neg (by decide), hH'.out, hU'.out, hT'.out, if_neg hful, hr, if_pos rfl])
        have hvb := Lib.hid (hv.out.keepD hk2'.out hvd.out)
        have hC := Lib.hid (fun W (k : Keeps (fun _ => False) w2 W) => bytesClone_any _ e W (hvb.out.keep k) (by omega) he)
        have hjl : Hid (jb < w2.heap.size) := Lib.hid (lt_of_block hJ2.out.hd)
        have c3 := hJ2.out.c3
        have f3 := hJ2.out.fr 3
        obtain ⟨vs, hvs, hOv, hvbs⟩ := hE2.out
        have hvs' := Lib.hid hvs
        have hOv' := Lib.hid hOv
        have hvbs' := Lib.hid hvbs
        have hjne : Hid (∀ k, (Value.slice pe L.length ce).ownBlock = some k → k ≠ jb) := Lib.hid (fun k e1 e2 => by
          obtain ⟨cs, r, h1⟩ := hOv.ty e1
          rw [e2, hJ2.out.hd] at h1
          injection h1 with h1
          injection h1 with _ h1 _
          revert h1; decide)
        clear hvs hOv hvbs hful hr
        go_upto_region 11 with fail
        go_cut [] (fun wx => ∃ ev', Hid (JHead wx jb D.b gen half ev' U false ∧ OwnE w0 wx ev' (L ++ [e]) ∧ DkAt rD wx ∧ JKeep jb (.slice pe L.length ce) w wx))
        case first =>
          refine wp_region_noPanic ?_
          refine wp_region_phase (S := fun W => W.cell? ⟨jb, 3, none⟩ = some (.slice pe L.length ce)) 9 (by kernel_rfl) (by exact c3) (fun hHeld => ?_)
          refine tkx 0 rfl ?_
          refine tkx 1 rfl ?_
          refine tkx 2 rfl ?_
          refine tkx 3 rfl ?_
          refine tkxL 4 rfl (yieldsIf_load_cell (by rfl) 43 (.tmp 32) rfl jb 3 rfl _ (fun _ s => s) (fun w s => load_rows w _ _ _ s)) ?_
          refine tkx 5 rfl ?_
          refine stepX 6 rfl (by kernel_rfl) rfl (fun K hK => ?_)
          go_simp
          refine (hC.out _ ((Keeps.refl _ _).drew)).mono ?_
          rintro x w9 ⟨v9, rfl, hO9, hk9⟩
          obtain ⟨p9, c9, rfl⟩ := hO9.slice
          have hk9' : Hid (Keeps (fun _ => False) w2 w9) := Lib.hid (((Keeps.refl _ _).drew).trans hk9)
          have hO9' : Hid (OwnB w0 w9 (.slice p9 e.length c9) e) := Lib.hid (hO9.older (Nat.le_trans (hOv'.out.2.2) (Keeps.refl (fun _ => False) _).drew.size))
          have c39 : w9.cell? ⟨jb, 3, none⟩ = some (.slice pe L.length ce) := (hk9'.out.cell (p := ⟨jb, 3, none⟩) hjl.out id).trans c3
          clear hO9 hk9
          go_wp2_with fail
          refine hK _ _ ⟨fun _ _ => c39, ?_⟩
          clear hK K
          have ka : Keeps (fun _ => False) w9 (w9.alloc (.cells #[.slice p9 e.length c9] 31)) := (Keeps.refl _ _).alloc _
          have c3a : (w9.alloc (.cells #[.slice p9 e.length c9] 31)).cell? ⟨jb, 3, none⟩ = some (.slice pe L.length ce) := (ka.cell (p := ⟨jb, 3, none⟩) (Nat.lt_of_lt_of_le hjl.out hk9'.out.size) id).trans c39
          refine stepX 7 rfl (by kernel_rfl) rfl (fun K hK => ?_)
          go_simp
          refine hK _ _ ⟨fun _ _ => c3a, ?_⟩
          clear hK K
          have hOk := Lib.hid (hOv'.out.keep (hk9'.out.trans ka) (fun _ _ f => f))
          refine stepX 8 rfl (by kernel_rfl) rfl (fun K hK => ?_)
          refine wp_append_r (.tmp 33) (.tmp 36) 43 31 rfl i0 _ 24 Tryz.underlying43 hi0 hi1 hi2 hi3 rfl (by decide) (by decide) vv_len w0 _ L.length vs hvs'.out rfl hOk.out _ rfl (.slice p9 e.length c9) (cells_new rfl [.slice p9 e.length c9] _) vv_one (by omega) ?_
          intro q8 d8 w8 hO8 hg8
          have hJ8 := Lib.hid ((hJ2.out.keep (hk9'.out.trans ka) id).keep hg8.k (fun e => hjne.out jb e rfl))
          have hE8 := Lib.hid (OwnE.snoc hvs'.out hOk.out (fun i u z a b => (hvbs'.out i u z a b).keep (hk9'.out.trans ka) (fun _ _ f => f)) (hO9'.out.keep ka (fun _ _ f => f)) hO8 hg8)
          have hD8 : Hid (DkAt rD w8) := Lib.hid (by
            obtain ⟨v9, hm, hb9⟩ := (hD2'.out.keep (hk9'.out.trans ka))
            exact ⟨v9, hm.keep hg8.k (fun i hi hj => by
              have h := foot_ty hm hb9 i hi
              obtain ⟨cs, r, h1⟩ := hOk.out.ty hj
              obtain ⟨_, cs2, t2, r2, h2, h3⟩ := h
              rw [h1] at h2
              injection h2 with h2
              injection h2 with _ h2 _
              subst h2
              revert h3; decide), hb9⟩)
          have hk8 : Hid (JKeep jb (.slice pe L.length ce) w w8) := Lib.hid (Keeps.trans' (Keeps.mono (hk2'.out.thenK (hk9'.out.trans ka)) (fun i hi => .inl (.inl hi))) hg8.k (fun i hi => .inl (.inr (.inr hi))))
          refine hK _ _ ⟨fun _ _ => hJ8.out.c3, ?_⟩
          clear hK K hO8 hg8 hOk c3a ka c39 hk9' hO9'
          refine wpX_tail _ _ _ _ (allB (by kernel_rfl)) ?_
          have c38 := hJ8.out.c3
          have f38 := hJ8.out.fr 3
          clear hHeld
          have hHeld : (fun _ : World => True) w8 := trivial
          refine tk 9 rfl ?_
          refine tk 10 rfl ?_
          refine stepL 11 rfl (by kernel_rfl) (fun K hK => ?_)
          go_simp
          refine hK.out _ _ (trivial) (fun hHeld => ?_)
          clear hK K
          try simp only [Act.put, sA, sZ, sS]
          refine wpAnyH_done (by kernel_rfl) (NoPanic.normal ?_) _
          have hJ9 := Lib.hid (hJ8.out.set3 (.slice q8 (L.length + 1) d8))
          have hk89 : Keeps (fun i => i = jb) w8 (w8.setCell ⟨jb, 3, none⟩ (.slice q8 (L.length + 1) d8)) := Keeps.setCell (F := fun i => i = jb) (Keeps.refl _ _) (p := ⟨jb, 3, none⟩) (.inl rfl) _
          have hE9 := Lib.hid (hE8.out.keepF hk89 (fun i hi ⟨cs, t, r, a, b⟩ => by
            rw [hi, hJ8.out.hd] at a
            injection a with a
            injection a with _ a _
            subst a
            revert b; decide))
          have hD9 : Hid (DkAt rD (w8.setCell ⟨jb, 3, none⟩ (.slice q8 (L.length + 1) d8))) := Lib.hid (by
            obtain ⟨v9, hm, hb9⟩ := hD8.out
            exact ⟨v9, hm.keep hk89 (fun i hi hj => by
              have h := foot_ty hm hb9 i hi
              rw [hj] at h
              exact hJ8.out.noD h), hb9⟩)
          have hk9 : Hid (JKeep jb (.slice pe L.length ce) w (w8.setCell ⟨jb, 3, none⟩ (.slice q8 (L.length + 1) d8))) := Lib.hid (Keeps.trans' hk8.out hk89 (fun i hi => .inl (.inr (.inl hi))))
          rw [hU'.out] at hJ9
          clear hHeld c38 f38 hk89 hJ8 hE8 hD8 hk8
          go_wp2_with fail
          go_meet
          case rel => exact ⟨_, Lib.hid ⟨hJ9.out, hE9.out, hD9.out, hk9.out⟩⟩
        case rest =>
          obtain ⟨ev', hJE⟩ := hcut
          generalize hgz : wc = w5 at hJE ⊢
          clear hgz hJ2 hE2 hD2' hC hjl c3 f3 hvs' hOv' hvbs' hjne hvb
          have c4 := hJE.out.1.c4
          have hjl5 : Hid (jb < w5.heap.size) := Lib.hid (lt_of_block hJE.out.1.hd)
          have e7 : IntKind.i64.wrap ((U : Int) + (T : Int)) = ((U + T : Nat) : Int) := by rw [IntWalk.i64_in _ (by omega)]; omega
          go_upto_region 12 with fail
          refine wp_region_noPanic ?_
          refine wp_region_phase (S := fun W => Keeps (fun _ => False) w5 W) 8 (by kernel_rfl) ((Keeps.refl _ _).drew) (fun hHeld => ?_)
          refine tkx 0 rfl ?_
          refine tkx 1 rfl ?_
          refine tkx 2 rfl ?_
          refine tkxL 3 rfl (yieldsIf_load_cell (by rfl) 3 (.tmp 42) rfl jb 4 rfl _ (fun _ s => (s.cell (p := ⟨jb, 4, none⟩) hjl5.out id).trans c4) (fun w s => load_int w _ _ _ s)) ?_
          refine tkx 4 rfl ?_
          refine tkx 5 rfl ?_
          refine stepX 6 rfl (by kernel_rfl) rfl (fun K hK => ?_)
          go_simp
          refine (hTk.out _).mono ?_
          rintro x w9 ⟨rfl, rfl⟩
          go_wp2_with fail
          refine hK _ _ ⟨fun _ h => h, ?_⟩
          clear hK K
          refine tkx 7 rfl ?_
          refine wpX_tail _ _ _ _ (allB (by kernel_rfl)) ?_
          have hdr := (Keeps.refl (fun _ => False) w5).drew
          have hJ1 : Hid (JHead w5.drew jb D.b gen half ev' U false) := Lib.hid (hJE.out.1.keep hdr id)
          have hE1 := Lib.hid (hJE.out.2.1.keep hdr)
          have hD1 := Lib.hid (hJE.out.2.2.1.keep hdr)
          have hk1 : Hid (JKeep jb (.slice pe L.length ce) w w5.drew) := Lib.hid (Keeps.trans' hJE.out.2.2.2 hdr (fun i f => f.elim))
          generalize w5.drew = W1 at hJ1 hE1 hD1 hk1 ⊢
          clear hHeld c4 hdr hJE
          have f4 := hJ1.out.fr 4
          have c4 := hJ1.out.c4
          have hHeld : (fun _ : World => True) W1 := trivial
          refine tk 8 rfl ?_
          refine tk 9 rfl ?_
          refine stepL 10 rfl (by kernel_rfl) (fun K hK => ?_)
          go_simp
          refine hK.out _ _ (trivial) (fun hHeld => ?_)
          clear hK K
          try simp only [Act.put, sA, sZ, sS]
          refine wpAnyH_done (by kernel_rfl) (NoPanic.normal ?_) _
          have e8 : ((U : Int) + (T : Int)) = ((U + T : Nat) : Int) := by omega
          rw [e8]
          have hJ2 := Lib.hid (hJ1.out.set4 (U + T))
          have hk89 : Keeps (fun i => i = jb) W1 (W1.setCell ⟨jb, 4, none⟩ (.int .i64 ((U + T : Nat) : Int))) := Keeps.setCell (F := fun i => i = jb) (Keeps.refl _ _) (p := ⟨jb, 4, none⟩) (.inl rfl) _
          have hE2 := Lib.hid (hE1.out.keepF hk89 (fun i hi ⟨cs, t, r, a, b⟩ => by
            rw [hi, hJ1.out.hd] at a
            injection a with a
            injection a with _ a _
            subst a
            revert b; decide))
          have hD2 : Hid (DkAt rD (W1.setCell ⟨jb, 4, none⟩ (.int .i64 ((U + T : Nat) : Int)))) := Lib.hid (by
            obtain ⟨v9, hm, hb9⟩ := hD1.out
            exact ⟨v9, hm.keep hk89 (fun i hi hj => by
              have h := foot_ty hm hb9 i hi
              rw [hj] at h
              exact hJ1.out.noD h), hb9⟩)
          have hk2 : Hid (JKeep jb (.slice pe L.length ce) w (W1.setCell ⟨jb, 4, none⟩ (.int .i64 ((U + T : Nat) : Int)))) := Lib.hid (Keeps.trans' hk1.out hk89 (fun i hi => .inl (.inr (.inl hi))))
          have hus : usedOf (L ++ [e]) = U + T := by rw [usedOf_snoc, hU'.out, hT'.out]
          have hus' := Lib.hid hus
          clear hJ1 hE1 hD1 hk1 hk89 f4 c4 hHeld e7 e8 hus
          go_wp2_with fail
          go_ret
          exact ⟨by rw [hres.out]; rfl, ev', by rw [hres.out]; exact ⟨by have h := hJ2.out; rw [← hrb] at h; show JHead _ jb rD.b gen half ev' (usedOf (L ++ [e])) false; rw [hus'.out]; exact h, hE2.out, hD2.out⟩, hk2.out⟩
      · have hres : Hid (apR D gen half L e = (rc, rD, [], true)) := Lib.hid (by unfold apR; rw [hal'.out, if_neg (by decide), hH'.out, hU'.out, hT'.out, if_neg hful, hr, if_neg h0])
        have hEn := Lib.hid (jend_any jb D.b gen half _ (usedOf L) false rc w2 hJ2.out)
        have e1 : (rc == 0) = false := by simpa using h0
        clear hful h0 hr
        go_wp2_with fail
        refine hEn.out.mono ?_
        rintro x w3 ⟨rfl, hJ3, hk3⟩
        have hD3 : Hid (DkAt rD w3) := Lib.hid (by
          obtain ⟨v9, hm, hb9⟩ := hD2'.out
          exact ⟨v9, hm.keep hk3 (fun i hi hj => by
            have h := foot_ty hm hb9 i hi
            rw [hj] at h
            exact hJ2.out.noD h), hb9⟩)
        have hJ3' := Lib.hid hJ3
        have hk3' : Hid (JKeep jb (.slice pe L.length ce) w w3) := Lib.hid (Keeps.trans' (Keeps.mono hk2'.out (fun i hi => .inl (.inl hi))) hk3 (fun i hi => .inl (.inr (.inl hi))))
        clear hJ3 hk3 hEn
        go_wp2_with fail
        go_ret
        exact ⟨by rw [hres.out]; rfl, _, by rw [hres.out]; exact ⟨by have h := hJ3'.out; rw [← hrb] at h; exact h, OwnE.nil _ _ (Nat.le_trans (hJ.out.ents.choose_spec.2.1.2.2) hk3'.out.size), hD3.out⟩, hk3'.out⟩
end
end Go.Proofs.YtdannodhlaaoiaaGreatDoor
/- All and clear. -/
set_option linter.unusedVariables false
set_option linter.unusedSimpArgs false
namespace Go.Proofs.YtdannodhlaaoiaaGreatDoor
open Go.RowKit
section
variable [Inhabited BaseN]

set_option maxRecDepth 100000 in
set_option maxHeartbeats 4000000 in
theorem all_any (w0 : World) (jb gen half : Nat) (ev : Value) (L : List (List UInt8)) (ended : Bool) (D : Dk) (w : World) (hJ : Hid (JAt w0 w jb D gen half ev L ended)) (hL : L.length ≤ 1000000) (hl : Hid (∀ l ∈ L, 1 ≤ l.length ∧ l.length ≤ 1000000)) :
    Calls Tryz.prog 15 #[.pointer (some ⟨jb, 0, none⟩)] w (EntsRes L w) := by
  obtain ⟨pe, ce, rfl⟩ := hJ.out.ents.slice
  have c3 := hJ.out.head.c3
  have hC := Lib.hid (clones_any _ L w (Lib.hid hJ.out.ents.at) hL hl)
  go_enter Tryz.func15, Tryz.ntmps15
  go_wp2_with fail
  refine hC.out.mono ?_
  rintro e w2 ⟨p, c, rfl, hO, k2⟩
  go_wp2_with fail
  go_ret
  exact ⟨p, c, rfl, hO, k2⟩

end
theorem made_noughtsB (n : Nat) : madeCells #[Value.int .u8 0] (n * 1) = ((noughts n).map bv).toArray := by
  apply Array.ext
  · rw [size_madeCells]; simp [noughts_len]
  · intro i h1 h2
    simp [madeCells, noughts, Nat.mod_one]
    try rfl
/-- a make of bytes -/
theorem wp_make_z {P : Program} {w : World} {o : Oper} {a : Act} {K : Act → World → Prop} {Q : Exit → Act → World → Prop} (l c : Operand) (t : TypeId) (ho : o.op = .makeSlice t l c) (i : TypeInfo)
    (ht : P.underlying t = some (.slice 5)) (hi : P.info? 5 = some i) (hz : i.zero = some (.int .u8 0)) (hsize : i.size = 1) (hby : i.bytes = 1) (n : Nat) (C : Int) (hC : C = (n : Int)) (hl : a.eval l = .int .i64 C) (hc : a.eval c = .int .i64 C) (hn : n ≤ 1000000)
    (h : OwnB w (w.alloc (.cells ((noughts n).map bv).toArray 5)) (.slice (some ⟨w.heap.size, 0, none⟩) n n) (noughts n) → K (a.put o.dst (.slice (some ⟨w.heap.size, 0, none⟩) n n)) (w.alloc (.cells ((noughts n).map bv).toArray 5))) : Oper.wp P o a w K Q := by
  subst hC
  have hrun := run_make (P := P) w t 5 i (.int .u8 0) ht hi hz .i64 .i64 n n (by omega) (by omega) (by rw [hby]; omega) (by omega)
  rw [hsize] at hrun
  have e1 : (n : Int).toNat = n := by omega
  rw [e1, show (Value.cells (.int .u8 0)) = #[Value.int .u8 0] from rfl, made_noughtsB] at hrun
  unfold Oper.wp
  simp [execOp, ho, hl, hc, hrun, Result.andThen]
  have h2 := h (OwnB.new w w (Nat.le_refl _) (noughts n) (noughts_len n) (by unfold maxLen; omega))
  exact h2

section
variable [Inhabited BaseN]
/-- what clear answers, and what it makes of the disk -/
def clR (D : Dk) (gen half : Nat) : Int × Dk := if (leftR D gen half 0 0).2 ≠ 0 ∨ (leftR D gen half 0 0).1 = false then ((leftR D gen half 0 0).2, D) else D.writes (2 + half * hsz D) (secsOf (noughts 64) 1)
set_option maxRecDepth 100000 in
set_option maxHeartbeats 4000000 in
theorem clear_any (jb gen half : Nat) (ev : Value) (used : Nat) (ended : Bool) (D : Dk) (w : World) (hJ : Hid (JHead w jb D.b gen half ev used ended)) (hD : Hid (DkAt D w)) (h4 : 4 ≤ D.n) (hh : half ≤ 1) (hg : gen < 18446744073709551616) :
    Calls Tryz.prog 33 #[.pointer (some ⟨jb, 0, none⟩)] w fun e w' => e = .returned (.int .i64 (clR D gen half).1) ∧ DkAt (clR D gen half).2 w' ∧ KeepD w w' := by
  have hn := hD.out.n1.2
  obtain ⟨i0, hi0, hi1, hi2, hi3⟩ := info_parts u8InfoAll
  have hLf := Lib.hid (leftover_any jb gen half ev used ended D 0 0 w hJ hD h4 hh (by omega) hg (by omega))
  obtain ⟨lz, le, hlr⟩ : ∃ lz le, leftR D gen half 0 0 = (lz, le) := ⟨_, _, rfl⟩
  rw [hlr] at hLf
  have hcl : Hid (clR D gen half = if le ≠ 0 ∨ lz = false then (le, D) else D.writes (2 + half * hsz D) (secsOf (noughts 64) 1)) := Lib.hid (by unfold clR; rw [hlr])
  clear hlr
  obtain ⟨H, hH⟩ : ∃ H, hsz D = H := ⟨_, rfl⟩
  have hHl : H ≤ 511 := by rw [← hH]; unfold hsz; omega
  obtain ⟨S, hS⟩ : ∃ S, 2 + half * H = S := ⟨_, rfl⟩
  have hSl : S ≤ 600 := by
    have : half * H ≤ 1 * H := Nat.mul_le_mul_right H hh
    omega
  have hst := Lib.hid (fun W (k : Keeps (fun _ => False) w W) => by
    have h := halfStart_any _ D half hh W (hD.out.keep k).own hn h4
    rw [show 2 + half * ((D.n - 2) / 2) = S by rw [← hS, ← hH]; rfl] at h
    exact h)
  rw [hH, hS] at hcl
  clear hH hS
  go_enter Tryz.func33, Tryz.ntmps33
  go_wp2_with fail
  refine hLf.out.mono ?_
  rintro e w1 ⟨rfl, k1⟩
  clear hLf
  have k1' := Lib.hid k1
  clear k1
  by_cases hle : le = 0
  · subst hle
    cases lz with
    | false =>
      have hres : Hid (clR D gen half = (0, D)) := Lib.hid (by rw [hcl.out]; rfl)
      go_wp2_with fail
      go_ret
      exact ⟨by rw [hres.out]; rfl, by rw [hres.out]; exact hD.out.keep k1'.out, KeepD.of k1'.out⟩
    | true =>
      have hres : Hid (clR D gen half = D.writes S (secsOf (noughts 64) 1)) := Lib.hid (by rw [hcl.out, if_neg (by simp)])
      have hW := Lib.hid (fun W (k : Keeps (fun _ => False) w W) (g : Nat) (hO : OwnB w1 W (.slice (some ⟨g, 0, none⟩) 64 64) (noughts 64)) => writeSectors_any D S 1 g 0 64 (noughts 64) W (Lib.hid (hD.out.keep k)) (by rw [noughts_len]) (by rw [noughts_len]; omega) (by omega) (Lib.hid (by
            obtain ⟨g9, o9, e9, -, h9⟩ := hO.bytes.open (by rw [noughts_len]; omega)
            injection e9 with e9; injection e9 with e91 e92
            subst e91; subst e92; exact h9)) (Lib.hid (hO.noD rfl)))
      rw [noughts_len] at hW
      have c0 := hJ.out.c0
      have c2 := hJ.out.c2
      have hjl : Hid (jb < w.heap.size) := Lib.hid (lt_of_block hJ.out.hd)
      clear hcl
      go_upto_region 4 with fail
      refine wp_region_noPanic ?_
      refine wp_region_held_drew (S := (fun W => KeepD w W)) (by kernel_rfl) ((KeepD.of (k1'.out.trans (Keeps.refl _ _).drew))) (fun hHeld => ?_)
      refine tk 0 rfl ?_
      refine tk 1 rfl ?_
      refine tk 2 rfl ?_
      refine tkL 3 rfl (yieldsIf_load_cell (by rfl) 34 (.tmp 19) rfl jb 0 rfl _ (fun _ s => (hJ.out.keepD s).c0) (fun w s => load_dskp w _ _ _ s)) ?_
      refine tk 4 rfl ?_
      refine tk 5 rfl ?_
      refine tk 6 rfl ?_
      refine tkL 7 rfl (yieldsIf_load_cell (by rfl) 34 (.tmp 23) rfl jb 0 rfl _ (fun _ s => (hJ.out.keepD s).c0) (fun w s => load_dskp w _ _ _ s)) ?_
      refine tk 8 rfl ?_
      refine tk 9 rfl ?_
      refine tk 10 rfl ?_
      refine tk 11 rfl ?_
      refine tkL 12 rfl (yieldsIf_load_cell (by rfl) 3 (.tmp 28) rfl jb 2 rfl _ (fun _ s => (hJ.out.keepD s).c2) (fun w s => load_int w _ _ _ s)) ?_
      refine step2L 13 14 rfl rfl (by kernel_rfl) (fun K hK => ?_) (fun K hK => ?_)
      · skip
        have hk0 : Keeps (fun _ => False) w1 w1.drew := (Keeps.refl _ _).drew
        go_simp
        refine (hst.out _ (k1'.out.trans (hk0))).mono ?_
        rintro x w9 ⟨rfl, rfl⟩
        go_wp2_with fail
        refine hK.out _ _ hHeld (fun hHeld => ?_)
        clear hK K
        try simp only [Act.put, sA, sZ, sS]
        refine stepL 14 rfl (by kernel_rfl) (fun K hK => ?_)
        rw [if_pos (by rfl)]
        (refine wp_make_z (.const (.int .i64 64)) (.const (.int .i64 64)) 31 rfl i0 Tryz.underlying31 hi0 hi1 hi2 hi3 64 64 rfl rfl rfl (by omega) ?_; intro hO9; have hOz := Lib.hid (hO9.older hk0.size); clear hO9)
        refine hK.out _ _ ((hHeld.thenK ((Keeps.refl _ _).alloc _))) (fun hHeld => ?_)
        clear hK K
        try simp only [Act.put, sA, sZ, sS]
        refine stepL 15 rfl (by kernel_rfl) (fun K hK => ?_)
        go_simp
        (refine (hW.out _ (k1'.out.trans (hk0.alloc _)) _ hOz.out).mono ?_; rintro x w9 ⟨rfl, hD9, hk9⟩; have hD9' := Lib.hid hD9; have hk9' := Lib.hid ((KeepD.of (k1'.out.trans (hk0.alloc _))).trans hk9); clear hD9 hk9)
        go_wp2_with fail
        refine hK.out _ _ (hk9'.out) (fun hHeld => ?_)
        clear hK K
        try simp only [Act.put, sA, sZ, sS]
        refine tk 16 rfl ?_
        refine wpAnyH_done (by kernel_rfl) (NoPanic.normal ?_) _
        go_wp2_with fail
        go_ret
        exact ⟨by rw [hres.out]; rfl, by rw [hres.out]; exact hD9'.out, hk9'.out⟩
      · skip
        have hk0 : Keeps (fun _ => False) w1 w1.drew := (Keeps.refl _ _).drew
        rw [if_pos (by rfl)]
        refine wp_make_z (.const (.int .i64 64)) (.const (.int .i64 64)) 31 rfl i0 Tryz.underlying31 hi0 hi1 hi2 hi3 64 64 rfl rfl rfl (by omega) ?_; intro hO9; have hOz := Lib.hid (hO9.older hk0.size); clear hO9
        refine hK.out _ _ (hHeld.thenK ((Keeps.refl _ _).alloc _)) (fun hHeld => ?_)
        clear hK K
        try simp only [Act.put, sA, sZ, sS]
        refine stepL 13 rfl (by kernel_rfl) (fun K hK => ?_)
        go_simp
        (refine (hst.out _ (k1'.out.trans (hk0.alloc _))).mono ?_; rintro x w9 ⟨rfl, rfl⟩)
        go_wp2_with fail
        refine hK.out _ _ (hHeld) (fun hHeld => ?_)
        clear hK K
        try simp only [Act.put, sA, sZ, sS]
        refine stepL 15 rfl (by kernel_rfl) (fun K hK => ?_)
        go_simp
        (refine (hW.out _ (k1'.out.trans (hk0.alloc _)) _ hOz.out).mono ?_; rintro x w9 ⟨rfl, hD9, hk9⟩; have hD9' := Lib.hid hD9; have hk9' := Lib.hid ((KeepD.of (k1'.out.trans (hk0.alloc _))).trans hk9); clear hD9 hk9)
        go_wp2_with fail
        refine hK.out _ _ (hk9'.out) (fun hHeld => ?_)
        clear hK K
        try simp only [Act.put, sA, sZ, sS]
        refine tk 16 rfl ?_
        refine wpAnyH_done (by kernel_rfl) (NoPanic.normal ?_) _
        go_wp2_with fail
        go_ret
        exact ⟨by rw [hres.out]; rfl, by rw [hres.out]; exact hD9'.out, hk9'.out⟩
  · have hres : Hid (clR D gen half = (le, D)) := Lib.hid (by rw [hcl.out, if_pos (.inl hle)])
    go_wp2_with fail
    go_ret
    exact ⟨by rw [hres.out]; rfl, by rw [hres.out]; exact hD.out.keep k1'.out, KeepD.of k1'.out⟩
end
end Go.Proofs.YtdannodhlaaoiaaGreatDoor
