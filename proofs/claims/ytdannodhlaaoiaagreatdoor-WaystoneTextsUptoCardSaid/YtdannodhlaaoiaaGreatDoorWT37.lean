/- write. -/
import Derived.Test.YtdannodhlaaoiaaGreatDoorWT36
set_option linter.unusedVariables false
set_option linter.unusedSimpArgs false
set_option linter.unusedVariables false
set_option linter.unusedSimpArgs false
namespace Go.Proofs.YtdannodhlaaoiaaGreatDoor
open Go.RowKit
section
variable [Inhabited BaseN]

end
theorem BufAt.own {w0 w : World} {g : Nat} {x : List UInt8} (h : BufAt w g x) (h0 : w0.heap.size ≤ g) (hl : x.length ≤ 1000000) : OwnB w0 w (.slice (some ⟨g, 0, none⟩) x.length x.length) x := by
  refine ⟨⟨by simp, .inr ⟨g, x.length, (x.map bv).toArray, rfl, Nat.zero_le _, h, Nat.le_refl _, by unfold maxLen; omega, by simp, by rw [Nat.mul_one]; exact List.take_of_length_le (by simp)⟩⟩, fun k e => ?_, by have := h.lt; omega⟩
  simp [Value.ownBlock] at e; omega
theorem OwnB.ptr {w0 w : World} {p : Option Addr} {n c : Nat} {x : List UInt8} (h : OwnB w0 w (.slice p n c) x) (h0 : 0 < x.length) : ∃ g, p = some ⟨g, 0, none⟩ ∧ x.length ≤ c := by
  rcases h.1.2 with ⟨e, h1⟩ | ⟨g, cap, cur, e, -, -, hnc, -⟩
  · have h2 : x.map bv = [] := by simpa using h1
    have h3 := congrArg List.length h2
    rw [List.length_map] at h3
    simp at h3
    rw [h3] at h0; simp at h0
  · injection e with e1 e2 e3
    subst e3
    exact ⟨g, e1, hnc⟩
section
variable [Inhabited BaseN]
theorem OwnB.noD {w0 w : World} {v : Value} {x : List UInt8} (h : OwnB w0 w v x) {k : Nat} (e : v.ownBlock = some k) : ¬ DTy w k := fun ⟨_, cs, t, r, h1, h2⟩ => by
  obtain ⟨cs2, r2, h3⟩ := h.ty e
  rw [h1] at h3
  injection h3 with h3
  injection h3 with _ h3 _
  subst h3
  revert h2; decide
theorem OwnB.keepD {w0 w w' : World} {v : Value} {x : List UInt8} (h : OwnB w0 w v x) (k : KeepD w w') : OwnB w0 w' v x := h.keep k (fun i e => h.noD e)
/-- the bytes of an entry's frame, with noughts behind where a frame was left -/
def wrB (D : Dk) (gen half : Nat) (place used : Nat) (e : List UInt8) : List UInt8 := if (leftR D gen half (used + takes e.length) (place + 1)).1 = true then frameB gen place e ++ noughts 64 else frameB gen place e
def wrM (D : Dk) (gen half : Nat) (place used : Nat) (e : List UInt8) : Nat := if (leftR D gen half (used + takes e.length) (place + 1)).1 = true then takes e.length + 1 else takes e.length
/-- what write makes of a disk -/
def Dk.wr (D : Dk) (gen half place used : Nat) (e : List UInt8) : Int × Dk :=
  if (leftR D gen half (used + takes e.length) (place + 1)).2 ≠ 0 then ((leftR D gen half (used + takes e.length) (place + 1)).2, D) else
  let p := if 1 < wrM D gen half place used e then D.writes (2 + half * hsz D + used + 1) (secsOf ((wrB D gen half place used e).drop 64) (wrM D gen half place used e - 1)) else (0, D)
  if p.1 ≠ 0 then p else p.2.writes (2 + half * hsz D + used) (secsOf ((wrB D gen half place used e).take 64) 1)
end
theorem wrB_len (D : Dk) (gen half place used : Nat) (e : List UInt8) : (wrB D gen half place used e).length = wrM D gen half place used e * 64 := by
  unfold wrB wrM
  split
  · rw [List.length_append, frameB_len, noughts_len]; omega
  · rw [frameB_len]
theorem load_rows (w : World) (b o : Nat) (v : Value) (h : w.cell? ⟨b, o, none⟩ = some v) : (loadVar 43 ⟨b, o, none⟩).run Tryz.prog w = .ok v w := by simp [go_sem, h]
section
variable [Inhabited BaseN]
set_option maxRecDepth 100000 in
set_option maxHeartbeats 8000000 in
theorem jwrite_any (jb gen half : Nat) (pe : Option Addr) (ce place used : Nat) (D : Dk) (v : Value) (e : List UInt8) (w : World) (hJ : Hid (JHead w jb D.b gen half (.slice pe place ce) used false)) (hD : Hid (DkAt D w)) (hv : Hid (BytesAt w v e)) (h1 : 1 ≤ e.length) (h2 : e.length ≤ 8192)
    (h4 : 4 ≤ D.n) (hh : half ≤ 1) (hg : gen < 18446744073709551616) (hp : place ≤ 1000) (hu : used ≤ 1000) :
    Calls Tryz.prog 43 #[.pointer (some ⟨jb, 0, none⟩), v] w fun x w' => x = .returned (.int .i64 (D.wr gen half place used e).1) ∧ DkAt (D.wr gen half place used e).2 w' ∧ KeepD w w' := by
  obtain ⟨p, c, rfl⟩ : ∃ p c, v = .slice p e.length c := by obtain ⟨p, c, x, -⟩ := hv.out; exact ⟨p, c, x⟩
  obtain ⟨i0, hi0, hi1, hi2, hi3⟩ := info_parts u8InfoAll
  have hn := hD.out.n1.2
  have c0 := hJ.out.c0
  have c1 := hJ.out.c1
  have c2 := hJ.out.c2
  have c3 := hJ.out.c3
  have c4 := hJ.out.c4
  obtain ⟨T, hT⟩ : ∃ T, takes e.length = T := ⟨_, rfl⟩
  have hT1 : 1 ≤ T := by rw [← hT]; unfold takes; omega
  have hT2 : T ≤ 200 := by rw [← hT]; unfold takes; omega
  have hF := Lib.hid (fun W (k : Keeps (fun _ => False) w W) => frame_any gen place hg (by omega) _ e h1 h2 W (hv.out.keep k))
  have hTk := Lib.hid (fun W => takes_any e.length (by omega) W)
  rw [hT] at hTk
  obtain ⟨H, hH⟩ : ∃ H, hsz D = H := ⟨_, rfl⟩
  have hHl : H ≤ 511 := by rw [← hH]; unfold hsz; omega
  obtain ⟨S0, hS0⟩ : ∃ S, 2 + half * H = S := ⟨_, rfl⟩
  have hS0l : S0 ≤ 600 := by
    have : half * H ≤ 1 * H := Nat.mul_le_mul_right H hh
    omega
  have hjl : Hid (jb < w.heap.size) := Lib.hid (lt_of_block hJ.out.hd)
  go_enter Tryz.func43, Tryz.ntmps43
  go_wp2_with fail
  refine (hF.out _ (Keeps.refl _ _)).mono ?_
  rintro x w2 ⟨g, rfl, hg2, hB2, hk2⟩
  have hO2 : Hid (OwnB w w2 (.slice (some ⟨g, 0, none⟩) (frameB gen place e).length (frameB gen place e).length) (frameB gen place e)) := Lib.hid (hB2.own hg2 (by rw [frameB_len, hT]; omega))
  have hFl : (frameB gen place e).length = T * 64 := by rw [frameB_len, hT]
  have hk2' := Lib.hid hk2
  clear hB2 hk2 hF hg2
  obtain ⟨lr, hlr⟩ : ∃ r, leftR D gen half (used + T) (place + 1) = r := ⟨_, rfl⟩
  have hLf := Lib.hid (fun W (k : Keeps (fun _ => False) w W) => leftover_any jb gen half _ used false D (used + T) (place + 1) W (Lib.hid (hJ.out.keep k id)) (Lib.hid (hD.out.keep k)) h4 hh (by omega) hg (by omega))
  rw [hlr] at hLf
  obtain ⟨lz, le⟩ := lr
  have e8 : IntKind.i64.wrap ((used : Int) + (T : Int)) = ((used + T : Nat) : Int) := by rw [IntWalk.i64_in _ (by omega)]; omega
  have e10 : IntKind.i64.wrap ((place : Int) + 1) = ((place + 1 : Nat) : Int) := by rw [IntWalk.i64_in _ (by omega)]; omega
  have c4' := (hk2'.out.cell (p := ⟨jb, 4, none⟩) hjl.out id).trans c4
  have hjl2 : Hid (jb < w2.heap.size) := Lib.hid (Nat.lt_of_lt_of_le hjl.out hk2'.out.size)
  go_upto_region 3 with fail
  go_cut [7, 8] (fun zv ev wx => zv = .bool lz ∧ ev = .int .i64 le ∧ Hid (Keeps (fun _ => False) w2 wx))
  case first =>
    refine wp_region_noPanic ?_
    refine wp_region_held_drew (S := (fun W => Keeps (fun _ => False) w2 W)) (by kernel_rfl) (((Keeps.refl _ _).drew)) (fun hHeld => ?_)
    refine tk 0 rfl ?_
    refine tk 1 rfl ?_
    refine tk 2 rfl ?_
    refine tk 3 rfl ?_
    refine tkL 4 rfl (yieldsIf_load_cell (by rfl) 3 (.tmp 28) rfl jb 4 rfl _ (fun _ s => (s.cell (p := ⟨jb, 4, none⟩) hjl2.out id).trans c4') (fun w s => load_int w _ _ _ s)) ?_
    refine tk 5 rfl ?_
    refine tk 6 rfl ?_
    refine tk 9 rfl ?_
    refine tk 10 rfl ?_
    refine stepL 7 rfl (by kernel_rfl) (fun K hK => ?_)
    go_simp
    (refine (hTk.out _).mono ?_; rintro x w9 ⟨rfl, rfl⟩)
    go_wp2_with fail
    refine hK.out _ _ (hHeld) (fun hHeld => ?_)
    clear hK K
    try simp only [Act.put, sA, sZ, sS]
    refine tk 8 rfl ?_
    refine stepL 11 rfl (by kernel_rfl) (fun K hK => ?_)
    go_simp
    (refine (hLf.out _ (hk2'.out.trans hHeld)).mono ?_; rintro x w9 ⟨rfl, hk9⟩)
    go_wp2_with fail
    refine hK.out _ _ ((hHeld.trans hk9)) (fun hHeld => ?_)
    clear hK K
    try simp only [Act.put, sA, sZ, sS]
    refine tk 12 rfl ?_
    refine tk 13 rfl ?_
    refine tk 14 rfl ?_
    refine tk 15 rfl ?_
    refine tk 16 rfl ?_
    refine wpAnyH_done (by kernel_rfl) (NoPanic.normal ?_) _
    have hK := Lib.hid hHeld
    clear hHeld
    go_wp2_with fail
    go_meet
    case rel => exact ⟨rfl, rfl, hK⟩
  case rest =>
    obtain ⟨rfl, rfl, hk3⟩ := hcut
    have hk3' := Lib.hid (hk2'.out.trans hk3.out)
    have hO3 := Lib.hid (hO2.out.keep hk3.out (fun _ _ f => f))
    generalize hgz : wc = w3 at hk3' hO3 ⊢
    clear hgz hk3 hk2' hO2 hLf c4' hjl2 e8 e10
    have hD3 := Lib.hid (hD.out.keep hk3'.out)
    have hJ3 := Lib.hid (hJ.out.keep hk3'.out id)
    have hlr' := Lib.hid hlr
    have hT' := Lib.hid hT
    by_cases hle : le = 0
    · subst hle
      obtain ⟨B, hB⟩ : ∃ B, wrB D gen half place used e = B := ⟨_, rfl⟩
      obtain ⟨M, hM⟩ : ∃ M, wrM D gen half place used e = M := ⟨_, rfl⟩
      have hBl : B.length = M * 64 := by rw [← hB, ← hM]; exact wrB_len D gen half place used e
      have hM1 : 1 ≤ M ∧ M ≤ 201 := by rw [← hM]; unfold wrM; split <;> omega
      have hBB : Hid (B = if lz = true then frameB gen place e ++ noughts 64 else frameB gen place e) := Lib.hid (by rw [← hB]; unfold wrB; rw [hT, hlr])
      have hres : Hid (D.wr gen half place used e = (let p := if 1 < M then D.writes (S0 + used + 1) (secsOf (B.drop 64) (M - 1)) else (0, D); if p.1 ≠ 0 then p else p.2.writes (S0 + used) (secsOf (B.take 64) 1))) := Lib.hid (by
        unfold Dk.wr
        rw [hT, hlr, if_neg (by simp), hB, hM, hH, hS0])
      clear hlr hlr' hB hM
      obtain ⟨Fb, hFb⟩ : ∃ F, frameB gen place e = F := ⟨_, rfl⟩
      rw [hFb] at hO3 hFl hBB
      clear hFb
      go_upto_if 42 with fail
      go_cut [6] (fun bv_ wx => ∃ (gb cb : Nat), bv_ = .slice (some ⟨gb, 0, none⟩) (M * 64) cb ∧ M * 64 ≤ cb ∧ Hid (OwnB w wx bv_ B) ∧ Hid (Keeps (fun _ => False) w wx))
      case first =>
        cases lz with
        | false =>
          have hBF : B = Fb := by rw [hBB.out, if_neg (by decide)]
          subst hBF
          rw [hFl] at hO3 hBl
          have hMT : M = T := by omega
          subst hMT
          go_wp2_with fail
          go_meet
          case rel => exact ⟨g, M * 64, rfl, Nat.le_refl _, hO3, hk3'⟩
        | true =>
          have hBF : Hid (B = Fb ++ noughts 64) := Lib.hid (by rw [hBB.out, if_pos rfl])
          rw [hFl] at hO3
          have hMT : Hid (M * 64 = Fb.length + 64) := Lib.hid (by rw [← hBl, hBF.out, List.length_append, noughts_len])
          have hO3' := hO3
          go_wp2_with ((with_reducible refine at_slot 44 ?_); go_must (refine wpList_append_z rfl (.tmp 43) (.const (.int .i64 64)) 31 3 9 rfl i0 Tryz.underlying31 Tryz.underlying3 Tryz.underlying9 hi0 hi1 hi2 hi3 w g _ _ Fb rfl hO3'.out 64 rfl (by omega) (by omega) ?_); intro q8 d8 w8 hO8 hg8)
          have hO9 : OwnB w w8 (.slice q8 (T * 64 + 64) d8) B := by
            have h := hO8.out
            rw [hFl] at h
            rw [hBF.out]; exact h
          obtain ⟨gb, hgb, hcb⟩ := hO9.ptr (by omega)
          subst hgb
          have hK9 := Lib.hid (Keeps.trans' hk3'.out hg8.out.k (fun i e => .inr (hO3'.out.2.1 i e)))
          have hMT2 : Hid (M * 64 = T * 64 + 64) := Lib.hid (by rw [hMT.out, hFl])
          go_meet
          case rel => exact ⟨gb, d8, by rw [hMT2.out], by omega, Lib.hid hO9, hK9⟩
      case rest =>
        obtain ⟨gb, cb, rfl, hcb, hOB, hkB⟩ := hcut
        have hDB := Lib.hid (hD.out.keep hkB.out)
        have hjB : Hid (jb < wc.heap.size) := Lib.hid (Nat.lt_of_lt_of_le hjl.out hkB.out.size)
        have d0 := (hkB.out.cell (p := ⟨jb, 0, none⟩) hjl.out id).trans c0
        have d2 := (hkB.out.cell (p := ⟨jb, 2, none⟩) hjl.out id).trans c2
        have d4 := (hkB.out.cell (p := ⟨jb, 4, none⟩) hjl.out id).trans c4
        generalize hgz : wc = w4 at hOB hkB hDB hjB d0 d2 d4 ⊢
        clear hgz hO3 hk3' hD3 hJ3 hBB
        have hSt := Lib.hid (fun W (k : Keeps (fun _ => False) w4 W) => halfStart_any _ D half hh W (hDB.out.keep k).own hn h4)
        have hHH : 2 + half * ((D.n - 2) / 2) = S0 := by rw [← hS0, ← hH]; rfl
        rw [hHH] at hSt
        have e14 : IntKind.i64.wrap ((S0 : Int) + (used : Int)) = ((S0 + used : Nat) : Int) := by rw [IntWalk.i64_in _ (by omega)]; omega
        go_upto_region 8 with fail
        go_cut [9] (fun sv wx => sv = .int .i64 ((S0 + used : Nat) : Int) ∧ Hid (Keeps (fun _ => False) w4 wx))
        case first =>
          refine wp_region_noPanic ?_
          refine wp_region_held_drew (S := (fun W => Keeps (fun _ => False) w4 W)) (by kernel_rfl) (((Keeps.refl _ _).drew)) (fun hHeld => ?_)
          refine tk 0 rfl ?_
          refine tk 1 rfl ?_
          refine tk 2 rfl ?_
          refine tkL 3 rfl (yieldsIf_load_cell (by rfl) 34 (.tmp 47) rfl jb 0 rfl _ (fun _ s => (s.cell (p := ⟨jb, 0, none⟩) hjB.out id).trans d0) (fun w s => load_dskp w _ _ _ s)) ?_
          refine tk 4 rfl ?_
          refine tk 5 rfl ?_
          refine tk 6 rfl ?_
          refine tk 7 rfl ?_
          refine tkL 8 rfl (yieldsIf_load_cell (by rfl) 3 (.tmp 52) rfl jb 2 rfl _ (fun _ s => (s.cell (p := ⟨jb, 2, none⟩) hjB.out id).trans d2) (fun w s => load_int w _ _ _ s)) ?_
          refine tk 10 rfl ?_
          refine tk 11 rfl ?_
          refine tk 12 rfl ?_
          refine tkL 13 rfl (yieldsIf_load_cell (by rfl) 3 (.tmp 57) rfl jb 4 rfl _ (fun _ s => (s.cell (p := ⟨jb, 4, none⟩) hjB.out id).trans d4) (fun w s => load_int w _ _ _ s)) ?_
          refine stepL 9 rfl (by kernel_rfl) (fun K hK => ?_)
          go_simp
          (refine (hSt.out _ hHeld).mono ?_; rintro x w9 ⟨rfl, rfl⟩)
          go_wp2_with fail
          refine hK.out _ _ (hHeld) (fun hHeld => ?_)
          clear hK K
          try simp only [Act.put, sA, sZ, sS]
          refine tk 14 rfl ?_
          refine tk 15 rfl ?_
          refine wpAnyH_done (by kernel_rfl) (NoPanic.normal ?_) _
          have hK := Lib.hid hHeld
          clear hHeld
          go_wp2_with fail
          go_meet
          case rel => exact ⟨by first | rfl | (congr 1; omega), hK⟩
        case rest =>
          obtain ⟨rfl, hk5⟩ := hcut
          have hOC := Lib.hid (hOB.out.keep hk5.out (fun _ _ f => f))
          have hDC := Lib.hid (hDB.out.keep hk5.out)
          have hkC := Lib.hid (hkB.out.trans hk5.out)
          generalize hgz : wc = w5 at hOC hDC hkC ⊢
          clear hgz hk5 hOB hkB hDB hjB d0 d2 d4 hSt e14 hHH
          obtain ⟨st, hst⟩ : ∃ st, S0 + used = st := ⟨_, rfl⟩
          rw [hst]
          rw [hst] at hres
          have hstl : st ≤ 1600 := by omega
          clear hst
          have hJC := Lib.hid (hJ.out.keep hkC.out id)
          obtain ⟨P, hP⟩ : ∃ P : Int × Dk, (if 1 < M then D.writes (st + 1) (secsOf (B.drop 64) (M - 1)) else (0, D)) = P := ⟨_, rfl⟩
          have hres2 : Hid (D.wr gen half place used e = (if P.1 ≠ 0 then P else P.2.writes st (secsOf (B.take 64) 1))) := Lib.hid (by rw [hres.out, hP])
          have hPb : P.2.b = D.b := by
            rw [← hP]; split
            · exact (D.writes_same _ _).1
            · rfl
          have hP' := Lib.hid hP
          have hPb' := Lib.hid hPb
          have hgr := hOC.out.bytes
          have hrg' : Hid (w5.rangeAt gb 0 (B.map bv)) := Lib.hid (by
            obtain ⟨g9, o9, e9, -, h9⟩ := hgr.open (by rw [hBl]; omega)
            injection e9 with e9; injection e9 with e91 e92
            subst e91; subst e92; exact h9)
          have hnd : Hid (¬ DTy w5 gb) := Lib.hid (hOC.out.noD rfl)
          have hbig : Hid (B.length = M * 64) := Lib.hid hBl
          clear hres hP hPb hgr
          have hdr : Hid (Keeps (fun _ => False) w5 w5.drew) := Lib.hid ((Keeps.refl _ _).drew)
          go_upto_if 62 with fail
          go_cut [10] (fun _ wx => P.1 = 0 ∧ Hid (DkAt P.2 wx) ∧ Hid (KeepD w5 wx))
          case first =>
            by_cases hM2 : 1 < M
            · have hW := Lib.hid (writeSectors_any D (st + 1) (M - 1) gb 64 (cb - 64) (B.drop 64) w5.drew (Lib.hid (hDC.out.keep hdr.out)) (by rw [List.length_drop, hBl]; omega) (by rw [List.length_drop, hBl]; omega) (by omega) (Lib.hid (fun j u hu => by
                rw [List.map_drop, List.getElem?_drop] at hu
                have h := hrg'.out (64 + j) u hu
                rw [Nat.zero_add] at h; exact h)) (Lib.hid (fun ⟨hb0, cs, t, r, a, b⟩ => hnd.out ⟨hb0, cs, t, r, a, b⟩)))
              have hPw : Hid (P = D.writes (st + 1) (secsOf (B.drop 64) (M - 1))) := Lib.hid (by rw [← hP'.out, if_pos hM2])
              rw [← hPw.out, List.length_drop, hBl] at hW
              have l1 : (64 : Int) < ((M * 64 : Nat) : Int) := by omega
              have l2 : ¬ cb = 64 := by omega
              have l3 : (64 : Int) ≤ (cb : Int) := by omega
              have l4 : (64 : Int) ≤ ((M * 64 : Nat) : Int) := by omega
              have l5 : (64 : Int) < (M : Int) * 64 := by omega
              have l6 : (64 : Int) ≤ (M : Int) * 64 := by omega
              have e5 : IntKind.i64.wrap ((st : Int) + 1) = ((st + 1 : Nat) : Int) := by rw [IntWalk.i64_in _ (by omega)]; omega
              have d0 := hJC.out.c0
              have hjl5 : Hid (jb < w5.heap.size) := Lib.hid (lt_of_block hJC.out.hd)
              clear hrg' hnd hbig
              go_upto_region 10 with fail
              refine wp_region_noPanic ?_
              refine wp_region_held_drew (S := (fun W => KeepD w5 W)) (by kernel_rfl) ((KeepD.of ((Keeps.refl _ _).drew))) (fun hHeld => ?_)
              refine tk 0 rfl ?_
              refine tk 1 rfl ?_
              refine tk 2 rfl ?_
              refine tkL 3 rfl (yieldsIf_load_cell (by rfl) 34 (.tmp 65) rfl jb 0 rfl _ (fun _ s => (hJC.out.keepD s).c0) (fun w s => load_dskp w _ _ _ s)) ?_
              refine tk 4 rfl ?_
              refine tk 5 rfl ?_
              refine tk 6 rfl ?_
              refine tk 7 rfl ?_
              refine stepL 8 rfl (by kernel_rfl) (fun K hK => ?_)
              go_simp
              (refine hW.out.mono ?_; rintro x w9 ⟨rfl, hD9, hk9⟩; have hD9' := Lib.hid hD9; have hk9' := Lib.hid ((KeepD.of hdr.out).trans hk9); clear hD9 hk9)
              go_wp2_with fail
              refine hK.out _ _ (hk9'.out) (fun hHeld => ?_)
              clear hK K
              try simp only [Act.put, sA, sZ, sS]
              refine tk 9 rfl ?_
              refine wpAnyH_done (by kernel_rfl) (NoPanic.normal ?_) _
              clear hHeld hW l1 l2 l3 l4 l5 l6 e5 d0
              by_cases h0 : P.1 = 0
              · have e1 : (P.1 == 0) = true := by simp [h0]
                obtain ⟨pc, hpc⟩ : ∃ pc, P.1 = pc := ⟨_, rfl⟩
                rw [hpc] at h0 ⊢
                subst h0
                clear e1
                go_wp2_with fail
                go_meet
                case rel => exact ⟨hpc, hD9', hk9'⟩
              · have hr3 : Hid (D.wr gen half place used e = P) := Lib.hid (by rw [hres2.out, if_pos h0])
                obtain ⟨pc, hpc⟩ : ∃ pc, P.1 = pc := ⟨_, rfl⟩
                rw [hpc] at h0 ⊢
                have e1 : (pc == 0) = false := by simpa using h0
                clear h0
                have hpc' := Lib.hid hpc
                clear hpc
                go_wp2_with fail
                go_ret
                exact ⟨by rw [hr3.out, hpc'.out]; rfl, by rw [hr3.out]; exact hD9'.out, (KeepD.of hkC.out).trans hk9'.out⟩
            · have hPw : Hid (P = (0, D)) := Lib.hid (by rw [← hP'.out, if_neg hM2])
              have hM1e : M = 1 := by omega
              have l1 : ¬ ((64 : Int) < ((M * 64 : Nat) : Int)) := by omega
              have l5 : ¬ ((64 : Int) < (M : Int) * 64) := by omega
              clear hM2 hM1e
              go_wp2_with fail
              go_meet
              case rel => exact ⟨by rw [hPw.out], by rw [hPw.out]; exact hDC, Lib.hid (KeepD.refl _)⟩
          case rest =>
            obtain ⟨hP0, hD6, hk6⟩ := hcut
            have hJ6 := Lib.hid (hJC.out.keepD hk6.out)
            have hr6 : Hid (wc.rangeAt gb 0 (B.map bv)) := Lib.hid (hk6.out.rangeAt hrg'.out hnd.out)
            have hnd6 : Hid (¬ DTy wc gb) := Lib.hid ((hOC.out.keepD hk6.out).noD rfl)
            have hk7 := Lib.hid ((KeepD.of hkC.out).trans hk6.out)
            have hr3 : Hid (D.wr gen half place used e = P.2.writes st (secsOf (B.take 64) 1)) := Lib.hid (by rw [hres2.out, if_neg (by rw [hP0]; decide)])
            generalize hgz : wc = w6 at hD6 hJ6 hr6 hnd6 hk7 ⊢
            clear hgz hk6 hrg' hnd hP' hP0 hres2 hdr hJC hDC hOC
            have hdr6 : Hid (Keeps (fun _ => False) w6 w6.drew) := Lib.hid ((Keeps.refl _ _).drew)
            have hW := Lib.hid (writeSectors_any P.2 st 1 gb 0 cb (B.take 64) w6.drew (Lib.hid (hD6.out.keep hdr6.out)) (by rw [List.length_take, hBl]; omega) (by rw [List.length_take, hBl]; omega) (by omega) (Lib.hid (fun j u hu => by
                rw [List.map_take, List.getElem?_take] at hu
                split at hu
                · exact hr6.out j u hu
                · cases hu)) (Lib.hid (fun ⟨hb0, cs, t, r, a, b⟩ => hnd6.out ⟨hb0, cs, t, r, a, b⟩)))
            have hB64 : (B.take 64).length = 64 := by rw [List.length_take, hBl]; omega
            rw [hB64, hPb'.out] at hW
            have l2 : (64 : Int) ≤ (cb : Int) := by omega
            clear hr6 hnd6 hB64
            go_upto_region 13 with fail
            refine wp_region_noPanic ?_
            refine wp_region_held_drew (S := (fun W => KeepD w6 W)) (by kernel_rfl) ((KeepD.of ((Keeps.refl _ _).drew))) (fun hHeld => ?_)
            refine tk 0 rfl ?_
            refine tk 1 rfl ?_
            refine tk 2 rfl ?_
            refine tkL 3 rfl (yieldsIf_load_cell (by rfl) 34 (.tmp 77) rfl jb 0 rfl _ (fun _ s => (hJ6.out.keepD s).c0) (fun w s => load_dskp w _ _ _ s)) ?_
            refine tk 4 rfl ?_
            refine tk 5 rfl ?_
            refine tk 6 rfl ?_
            refine stepL 7 rfl (by kernel_rfl) (fun K hK => ?_)
            go_simp
            (refine hW.out.mono ?_; rintro x w9 ⟨rfl, hD9, hk9⟩; have hD9' := Lib.hid hD9; have hk9' := Lib.hid ((KeepD.of hdr6.out).trans hk9); clear hD9 hk9)
            go_wp2_with fail
            refine hK.out _ _ (hk9'.out) (fun hHeld => ?_)
            clear hK K
            try simp only [Act.put, sA, sZ, sS]
            refine tk 8 rfl ?_
            refine wpAnyH_done (by kernel_rfl) (NoPanic.normal ?_) _
            clear hHeld hW
            go_wp2_with fail
            go_ret
            exact ⟨by rw [hr3.out]; rfl, by rw [hr3.out]; exact hD9'.out, hk7.out.trans hk9'.out⟩
    · have hres : Hid (D.wr gen half place used e = (le, D)) := Lib.hid (by unfold Dk.wr; rw [hT, hlr, if_pos hle])
      have e1 : (le == 0) = false := by simpa using hle
      clear hle hlr hlr' hT'
      go_wp2_with fail
      go_ret
      exact ⟨by rw [hres.out]; rfl, by rw [hres.out]; exact hD3.out, KeepD.of hk3'.out⟩
end
end Go.Proofs.YtdannodhlaaoiaaGreatDoor
