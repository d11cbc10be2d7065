/- Begin. -/
import Derived.Test.YtdannodhlaaoiaaGreatDoorWT38
set_option linter.unusedVariables false
set_option linter.unusedSimpArgs false
set_option linter.unusedVariables false
set_option linter.unusedSimpArgs false
namespace Go.Proofs.YtdannodhlaaoiaaGreatDoor
open Go.RowKit
section
variable [Inhabited BaseN]

end
theorem slotInfo : (Tryz.prog.info? 90).map (·.size) = some 2 := by kernel_rfl
theorem JHead.slotR {w : World} {jb db gen half : Nat} {ev : Value} {used : Nat} {ended : Bool} (h : JHead w jb db gen half ev used ended) : w.rangeAt jb 1 [.int .u64 gen, .int .i64 half] := fun j u hu => by
  match j, hu with
  | 0, hu => simp at hu; subst hu; exact h.c1
  | 1, hu => simp at hu; subst hu; exact h.c2
  | j + 2, hu => simp at hu
theorem JHead.new (w : World) (db gen half : Nat) : JHead (w.alloc (.cells #[.pointer (some ⟨db, 0, none⟩), .int .u64 gen, .int .i64 half, .slice none 0 0, .int .i64 0, .bool false] 94)) w.heap.size db gen half (.slice none 0 0) 0 false := ⟨heap_alloc_last w _⟩
theorem wpList_make_z {P : Program} {w : World} {ops : Array Oper} {rest : List Oper} {o : Oper} {a : Act} {Q : Exit → Act → World → Prop} (hgd : o.guard = none) (l c : Operand) (t : TypeId) (ho : o.op = .makeSlice t l c) (i : TypeInfo)
    (ht : P.underlying t = some (.slice 5)) (hi : P.info? 5 = some i) (hz : i.zero = some (.int .u8 0)) (hsize : i.size = 1) (hby : i.bytes = 1) (n : Nat) (C : Int) (hC : C = (n : Int)) (hl : a.eval l = .int .i64 C) (hc : a.eval c = .int .i64 C) (hn : n ≤ 1000000)
    (h : Hid (OwnB w (w.alloc (.cells ((noughts n).map bv).toArray 5)) (.slice (some ⟨w.heap.size, 0, none⟩) n n) (noughts n)) → wpList P ops Q rest (a.put o.dst (.slice (some ⟨w.heap.size, 0, none⟩) n n)) (w.alloc (.cells ((noughts n).map bv).toArray 5))) : wpList P ops Q (o :: rest) a w :=
  wpList_plain hgd fun _ hK => wp_make_z l c t ho i ht hi hz hsize hby n C hC hl hc hn (fun h1 => hK _ _ (h (Lib.hid h1)))

set_option maxRecDepth 100000 in
set_option maxHeartbeats 4000000 in
theorem newest_off (F : Nat → Prop) (D : Dk) (w : World) (h : OwnDisk F D w) (hoff : D.on = false) : Calls Tryz.prog 32 #[.pointer (some ⟨D.b, 0, none⟩)] w fun e w' => e = .returned (.tuple #[.agg #[.int .u64 0, .int .i64 0], .bool false, .int .i64 2]) ∧ Keeps (fun _ => False) w w' := by
  have hN := Lib.hid (NI.start h)
  clear h
  go_enter Tryz.func32, Tryz.ntmps32
  go_wp2
  go_loopw [6, 13] (fun fv iv wr => iv = .int .i64 0 ∧ fv = .bool false ∧ Hid (NI D w none wr)) (fun _ iv _ => 2 - (intOf iv).toNat)
  case atStart => exact ⟨rfl, rfl, hN⟩
  case round =>
    clear hN
    obtain ⟨rfl, rfl, hP⟩ := hrel
    have hrd : D.read 0 = 2 := by unfold Dk.read; rw [hoff, if_pos rfl]
    have hR := Lib.hid (own_read_bad _ D wr 0 hP.out.own (by rw [hrd]; decide))
    rw [hrd] at hR
    clear hrd
    have hT := Lib.hid hP.out.tv
    have hK := Lib.hid hP.out.keeps
    obtain ⟨hq1, hq2, hq3, hq4, hq5, hq6⟩ := hP.out.tv
    go_wp2_with fail
    refine hR.out.mono ?_
    rintro e w1 ⟨rfl, rfl⟩
    clear hR
    go_wp2_with fail
    obtain ⟨Wc, hWc⟩ : ∃ Wc, Wc = (wr.setCell ⟨w.heap.size, 0, none⟩ (.int .u64 (0 : Nat))).setCell ⟨w.heap.size, 1, none⟩ (.int .i64 (0 : Nat)) := ⟨_, rfl⟩
    rw [show (wr.setCell ⟨w.heap.size, 0, none⟩ (.int .u64 0)).setCell ⟨w.heap.size, 1, none⟩ (.int .i64 0) = Wc from hWc.symm]
    obtain ⟨c0, c1, hkc⟩ := hT.out.put (.int .u64 (0 : Nat)) (.int .i64 (0 : Nat)) Wc hWc
    clear hWc hq1 hq2 hq3 hq4 hq5 hq6
    refine bodyPost_ret (v := .tuple #[.agg #[.int .u64 0, .int .i64 0], .bool false, .int .i64 2]) (by simp [results, Tryz.results32, go_sem, c0, c1]) rfl ⟨rfl, hK.out.trans' hkc (fun k e => .inr (by rw [e]; exact Nat.le_refl _))⟩

section
variable [Inhabited BaseN]
/-- the generation that Begin takes -/
def genN (D : Dk) : Nat := (((bestK D 2).getD (0, 0)).1 + 1) % 18446744073709551616
/-- what Begin answers, and what it makes of the disk -/
def begR (D : Dk) : Int × Dk :=
  if D.n < 4 then (1, D) else if D.on = false then (2, D) else if (clR D (genN D) 0).1 ≠ 0 then clR D (genN D) 0 else
  if ((clR D (genN D) 0).2.write (1 - ((genN D % 2 : Nat) : Int)) (noughts 64)).1 ≠ 0 then (clR D (genN D) 0).2.write (1 - ((genN D % 2 : Nat) : Int)) (noughts 64) else
  ((clR D (genN D) 0).2.write (1 - ((genN D % 2 : Nat) : Int)) (noughts 64)).2.writes (genN D % 2) (secsOf (slotB (genN D) 0) 1)
/-- a new journal, or none -/
def NewJ (w : World) (r : Int × Dk) (gen half : Nat) (L : List (List UInt8)) (x : Ending) (w' : World) : Prop :=
  KeepD w w' ∧ if r.1 = 0 then ∃ jb ev, x = .returned (.tuple #[.pointer (some ⟨jb, 0, none⟩), .int .i64 0]) ∧ w.heap.size ≤ jb ∧ JAt w w' jb r.2 gen half ev L false else x = .returned (.tuple #[.pointer none, .int .i64 r.1]) ∧ DkAt r.2 w'
set_option maxRecDepth 100000 in
set_option maxHeartbeats 4000000 in
theorem begin_any (D : Dk) (w : World) (hD : Hid (DkAt D w)) : Calls Tryz.prog 10 #[.pointer (some ⟨D.b, 0, none⟩)] w (NewJ w (begR D) (genN D) 0 []) := by
  have hn := hD.out.n1.2
  have hsz := Lib.hid (own_size _ D w hD.out.own)
  obtain ⟨i0, hi0, hi1, hi2, hi3⟩ := info_parts u8InfoAll
  go_enter Tryz.func10, Tryz.ntmps10
  go_wp2_with fail
  refine hsz.out.mono ?_
  rintro e w1 ⟨rfl, rfl⟩
  clear hsz
  by_cases h4 : D.n < 4
  · have hres : Hid (begR D = (1, D)) := Lib.hid (by unfold begR; rw [if_pos h4])
    have l1 : (D.n : Int) < 4 := by omega
    clear h4
    go_wp2_with fail
    go_ret2
    exact ⟨KeepD.refl _, by rw [hres.out]; exact ⟨rfl, hD.out⟩⟩
  · have l1 : ¬ (D.n : Int) < 4 := by omega
    go_wp2_with fail
    cases hon : D.on with
    | false =>
      have hres : Hid (begR D = (2, D)) := Lib.hid (by unfold begR; rw [if_neg h4, if_pos hon])
      refine (newest_off _ D w hD.out.own hon).mono ?_
      rintro e w1 ⟨rfl, k1⟩
      have k1' := Lib.hid k1
      clear k1
      go_wp2_with fail
      go_ret2
      have k2 := k1'.out.alloc (.cells #[.int .u64 0, .int .i64 0] 90)
      exact ⟨KeepD.of k2, by rw [hres.out]; exact ⟨rfl, hD.out.keep k2⟩⟩
    | true =>
      refine (newest_any _ D w hD.out.own (by omega) hon).mono ?_
      rintro e w1 ⟨rfl, k1⟩
      have k1' := Lib.hid k1
      clear k1
      obtain ⟨g0, hg0⟩ : ∃ g, ((bestK D 2).getD (0, 0)).1 = g := ⟨_, rfl⟩
      obtain ⟨h0, hh0⟩ : ∃ g, ((bestK D 2).getD (0, 0)).2 = g := ⟨_, rfl⟩
      obtain ⟨s0, hs0⟩ : ∃ g, (bestK D 2).isSome = g := ⟨_, rfl⟩
      have hG : genN D = (g0 + 1) % 18446744073709551616 := by unfold genN; rw [hg0]
      obtain ⟨G, hGG⟩ : ∃ G, genN D = G := ⟨_, rfl⟩
      unfold newV
      rw [hg0, hh0, hs0]
      have e1 : IntKind.u64.wrap ((g0 : Int) + 1) = (G : Int) := by rw [← hGG, hG, IntKind.wrap_u64]; omega
      have hGl : G < 18446744073709551616 := by rw [← hGG, hG]; omega
      clear hG hg0 hh0 hs0
      go_wp2_with fail
      obtain ⟨W2, hW2⟩ : ∃ W, ((w1.alloc (.cells #[.int .u64 g0, .int .i64 h0] 90)).alloc (.cells #[.pointer (some ⟨D.b, 0, none⟩), .int .u64 G, .int .i64 0, .slice none 0 0, .int .i64 0, .bool false] 94)) = W := ⟨_, rfl⟩
      obtain ⟨jb, hjb⟩ : ∃ j, w1.heap.size + 1 = j := ⟨_, rfl⟩
      have k12 : Hid (Keeps (fun _ => False) w W2) := Lib.hid (by rw [← hW2]; exact (k1'.out.alloc _).alloc _)
      have hJ2 : Hid (JHead W2 jb D.b G 0 (.slice none 0 0) 0 false) := Lib.hid (by
        rw [← hW2, ← hjb]
        have h := JHead.new (w1.alloc (.cells #[.int .u64 g0, .int .i64 h0] 90)) D.b G 0
        simpa using h)
      have hjw : w.heap.size ≤ jb := by rw [← hjb]; exact Nat.le_trans k1'.out.size (Nat.le_succ _)
      rw [hW2, hjb]
      clear hW2 hjb e1
      generalize w1.heap.size = sb
      have hD2 := Lib.hid (hD.out.keep k12.out)
      obtain ⟨cr, hcr⟩ : ∃ c, clR D G 0 = c := ⟨_, rfl⟩
      obtain ⟨ce, D1⟩ := cr
      have hCl := Lib.hid (clear_any jb G 0 (.slice none 0 0) 0 false D W2 hJ2 hD2 (by omega) (by omega) hGl)
      rw [hcr] at hCl
      have hD1 : Hid (D1.b = D.b ∧ D1.bs = D.bs ∧ D1.n = D.n) := Lib.hid (by
        have h : (clR D G 0).2 = D1 := by rw [hcr]
        rw [← h]; unfold clR; split
        · exact ⟨rfl, rfl, rfl⟩
        · exact D.writes_same _ _)
      obtain ⟨T, hT⟩ : ∃ T, G % 2 = T := ⟨_, rfl⟩
      have hTl : T ≤ 1 := by omega
      obtain ⟨wr, hwr⟩ : ∃ r, D1.write (1 - (T : Int)) (noughts 64) = r := ⟨_, rfl⟩
      obtain ⟨we, D2⟩ := wr
      have hres : Hid (begR D = if ce ≠ 0 then (ce, D1) else if we ≠ 0 then (we, D2) else D2.writes T (secsOf (slotB G 0) 1)) := Lib.hid (by
        unfold begR
        rw [if_neg h4, if_neg (by rw [hon]; decide), hGG, hcr]
        simp only [hT, hwr])
      refine hCl.out.mono ?_
      rintro e w3 ⟨rfl, hD3, k23⟩
      have hD3' := Lib.hid hD3
      have hk3 := Lib.hid ((KeepD.of k12.out).trans k23)
      have hJ3 := Lib.hid (hJ2.out.keepD k23)
      clear hD3 k23 hCl hJ2 hD2 k12 hD l1
      by_cases hce : ce = 0
      · subst hce
        have hresB : Hid (begR D = if we ≠ 0 then (we, D2) else D2.writes T (secsOf (slotB G 0) 1)) := Lib.hid (by rw [hres.out, if_neg (by simp)])
        clear hres
        have hsA := Lib.hid (fun W => slotAt_any G (.int .i64 ((0 : Nat) : Int)) hGl W)
        rw [hT] at hsA
        have e2 : IntKind.i64.wrap (1 - (T : Int)) = 1 - (T : Int) := IntWalk.i64_in _ (by omega)
        have hrg : Hid (∀ t, (w3.alloc t).rangeAt jb 1 [.int .u64 G, .int .i64 ((0 : Nat) : Int)]) := Lib.hid (fun t => (hJ3.out.keep ((Keeps.refl (fun _ => False) _).alloc _) id).slotR)
        go_wp2_with (first | ((with_reducible refine at_slot 36 ?_); refine wpList_make_z rfl (.const (.int .i64 64)) (.const (.int .i64 64)) 31 rfl i0 Tryz.underlying31 hi0 hi1 hi2 hi3 64 64 rfl rfl rfl (by omega) ?_; intro hO4) | ((with_reducible refine at_slot 41 ?_); refine wpList_load_mid rfl 90 (.tmp 40) rfl jb 1 rfl [.int .u64 G, .int .i64 ((0 : Nat) : Int)] _ (hrg.out _) Tryz.underlying90 rfl slotInfo ?_))
        refine (hsA.out _).mono ?_
        rintro e w4 ⟨rfl, k34⟩
        have hk34 := Lib.hid (((Keeps.refl (fun _ => False) w3).alloc _).trans k34)
        have hB4 := Lib.hid ((hO4.out.keep k34 (fun _ _ f => f)).bytes)
        have hD4 := Lib.hid (hD3'.out.keep hk34.out)
        have hJ4 := Lib.hid (hJ3.out.keep hk34.out id)
        have hk4 := Lib.hid (hk3.out.thenK hk34.out)
        clear k34 hk34 hO4 hrg hk3 hJ3 hD3'
        generalize w3.heap.size = nb at hB4 ⊢
        have hWr := Lib.hid (dk_write D1 w4 (1 - (T : Int)) _ _ hD4.out hB4.out (by rw [noughts_len]; omega))
        rw [hD1.out.1, hwr] at hWr
        have hD12 : Hid (D2.b = D.b ∧ D2.bs = D.bs ∧ D2.n = D.n) := Lib.hid (by
          have h := D1.write_same (1 - (T : Int)) (noughts 64)
          rw [hwr] at h
          exact ⟨h.1.trans hD1.out.1, h.2.1.trans hD1.out.2.1, h.2.2.trans hD1.out.2.2⟩)
        clear hwr hcr hB4 hD4 hD1
        go_wp2_with fail
        refine hWr.out.mono ?_
        rintro e w5 ⟨rfl, hD5, k45⟩
        have hD5' := Lib.hid hD5
        have hk5 := Lib.hid (hk4.out.trans k45)
        have hJ5 := Lib.hid (hJ4.out.keepD k45)
        clear hD5 k45 hk4 hJ4 hWr e2
        by_cases hwe : we = 0
        · subst hwe
          have hresC : Hid (begR D = D2.writes T (secsOf (slotB G 0) 1)) := Lib.hid (by rw [hresB.out, if_neg (by simp)])
          clear hresB
          have hse := Lib.hid (fun W => sector_any G 0 hGl (by omega) W)
          have hsl : (slotB G 0).length = 64 := slotB_len G 0
          have hW := Lib.hid (fun W (k : Keeps (fun _ => False) w5 W) (g : Nat) (hO : OwnB w5 W (.slice (some ⟨g, 0, none⟩) 64 64) (slotB G 0)) => writeSectors_any D2 T 1 g 0 64 (slotB G 0) W (Lib.hid (hD5'.out.keep k)) (by rw [hsl]) (by rw [hsl]; omega) (by omega) (Lib.hid (by
            obtain ⟨g9, o9, e9, -, h9⟩ := hO.bytes.open (by rw [hsl]; omega)
            injection e9 with e9; injection e9 with e91 e92
            subst e91; subst e92; exact h9)) (Lib.hid (hO.noD rfl)))
          rw [hD12.out.1, hsl] at hW
          obtain ⟨fr, hfr⟩ : ∃ r, D2.writes T (secsOf (slotB G 0) 1) = r := ⟨_, rfl⟩
          obtain ⟨fe, D3⟩ := fr
          have hD3 : Hid (D3.b = D.b) := Lib.hid (by
            have h := D2.writes_same T (secsOf (slotB G 0) 1)
            rw [hfr] at h; exact h.1.trans hD12.out.1)
          rw [hfr] at hW hresC
          have hsl' := Lib.hid hsl
          clear hfr hsl
          go_upto_region 14 with fail
          go_cut [11] (fun ev wx => ev = .int .i64 fe ∧ Hid (DkAt D3 wx) ∧ Hid (KeepD w5 wx))
          case first =>
            have hk0 : Keeps (fun _ => False) w5 w5.drew := (Keeps.refl _ _).drew
            refine wp_region_noPanic ?_
            refine wp_region_held_drew (S := (fun W => KeepD w5 W)) (by kernel_rfl) ((KeepD.of ((Keeps.refl _ _).drew))) (fun hHeld => ?_)
            refine tk 0 rfl ?_
            refine tk 1 rfl ?_
            refine tk 2 rfl ?_
            refine tk 3 rfl ?_
            refine tkL 4 rfl (yieldsIf_load_mid (by rfl) 90 (.tmp 52) rfl jb 1 rfl [.int .u64 G, .int .i64 ((0 : Nat) : Int)] _ (fun _ s => (hJ5.out.keepD s).slotR) Tryz.underlying90 rfl slotInfo) ?_
            refine tk 6 rfl ?_
            refine tk 7 rfl ?_
            refine tk 8 rfl ?_
            refine tkL 9 rfl (yieldsIf_load_mid (by rfl) 90 (.tmp 57) rfl jb 1 rfl [.int .u64 G, .int .i64 ((0 : Nat) : Int)] _ (fun _ s => (hJ5.out.keepD s).slotR) Tryz.underlying90 rfl slotInfo) ?_
            refine stepL 5 rfl (by kernel_rfl) (fun K hK => ?_)
            go_simp
            (refine (hsA.out _).mono ?_; rintro x w6 ⟨rfl, k6⟩; have hk6 := Lib.hid (hk0.trans k6); clear k6)
            go_wp2_with fail
            refine hK.out _ _ ((KeepD.of hk6.out)) (fun hHeld => ?_)
            clear hK K
            try simp only [Act.put, sA, sZ, sS]
            refine stepL 10 rfl (by kernel_rfl) (fun K hK => ?_)
            go_simp
            (refine (hse.out _).mono ?_; rintro x w7 ⟨g, rfl, hg7, hB7, k7⟩; have hk7 := Lib.hid (hk6.out.trans k7); have hO7 := Lib.hid (hB7.own (w0 := w5) (Nat.le_trans hk6.out.size hg7) (by rw [hsl'.out]; omega)); rw [hsl'.out] at hO7 ⊢; clear k7 hB7 hg7)
            go_wp2_with fail
            refine hK.out _ _ ((KeepD.of hk7.out)) (fun hHeld => ?_)
            clear hK K
            try simp only [Act.put, sA, sZ, sS]
            refine stepL 11 rfl (by kernel_rfl) (fun K hK => ?_)
            go_simp
            (refine (hW.out _ hk7.out _ hO7.out).mono ?_; rintro x w8 ⟨rfl, hD8, hk8⟩; have hD8' := Lib.hid hD8; have hk8' := Lib.hid ((KeepD.of hk7.out).trans hk8); clear hD8 hk8)
            go_wp2_with fail
            refine hK.out _ _ (hk8'.out) (fun hHeld => ?_)
            clear hK K
            try simp only [Act.put, sA, sZ, sS]
            refine tk 12 rfl ?_
            refine wpAnyH_done (by kernel_rfl) (NoPanic.normal ?_) _
            clear hHeld
            go_wp2_with fail
            go_meet
            case rel => exact ⟨rfl, hD8', hk8'⟩
          case rest =>
            obtain ⟨rfl, hD9, k59⟩ := hcut
            have hk9 := Lib.hid (hk5.out.trans k59.out)
            have hJ9 := Lib.hid (hJ5.out.keepD k59.out)
            generalize hgz : wc = w9 at hD9 hk9 hJ9 ⊢
            clear hgz k59 hW hse hsA
            by_cases hfe : fe = 0
            · subst hfe
              go_wp2_with fail
              go_ret2
              refine ⟨hk9.out, ?_⟩
              rw [hresC.out, if_pos rfl]
              exact ⟨jb, _, rfl, hjw, by rw [hD3.out, hGG]; exact hJ9.out, OwnE.nil _ _ hk9.out.size, hD9.out⟩
            · go_wp2_with fail
              go_ret2
              exact ⟨hk9.out, by rw [hresC.out, if_neg hfe]; exact ⟨rfl, hD9.out⟩⟩
        · have hresC : Hid (begR D = (we, D2)) := Lib.hid (by rw [hresB.out, if_pos hwe])
          go_wp2_with fail
          go_ret2
          exact ⟨hk5.out, by rw [hresC.out, if_neg hwe]; exact ⟨rfl, hD5'.out⟩⟩
      · have hresB : Hid (begR D = (ce, D1)) := Lib.hid (by rw [hres.out, if_pos hce])
        go_wp2_with fail
        go_ret2
        exact ⟨hk3.out, by rw [hresB.out, if_neg hce]; exact ⟨rfl, hD3'.out⟩⟩
end
end Go.Proofs.YtdannodhlaaoiaaGreatDoor
/- Open. -/
set_option linter.unusedVariables false
set_option linter.unusedSimpArgs false
namespace Go.Proofs.YtdannodhlaaoiaaGreatDoor
open Go.RowKit
section
variable [Inhabited BaseN]

end
theorem usedOf_cons (l : List UInt8) (L : List (List UInt8)) : usedOf (l :: L) = takes l.length + usedOf L := by
  have key : ∀ (L : List (List UInt8)) (n : Nat), L.foldl (fun n l => n + takes l.length) n = n + L.foldl (fun n l => n + takes l.length) 0 := by
    intro L
    induction L with
    | nil => intro n; rfl
    | cons x r ih =>
      intro n
      rw [List.foldl_cons, List.foldl_cons, ih (n + _), ih (0 + _)]; omega
  show (l :: L).foldl (fun n l => n + takes l.length) 0 = _
  rw [List.foldl_cons, key]; unfold usedOf; omega
theorem framesOf_bulk : ∀ (f : Nat) (x : List UInt8) (gen place : Nat), usedOf (framesOf f x gen place) * 64 ≤ x.length ∧ (framesOf f x gen place).length ≤ usedOf (framesOf f x gen place) ∧ ∀ l ∈ framesOf f x gen place, 1 ≤ l.length ∧ l.length ≤ 8192 := by
  intro f
  induction f with
  | zero => intro x gen place; exact ⟨Nat.zero_le _, Nat.le_refl _, fun l h => by cases h⟩
  | succ f ih =>
    intro x gen place
    obtain ⟨r, hr⟩ : ∃ r, frameOf x gen place = r := ⟨_, rfl⟩
    cases r with
    | none =>
      have e : framesOf (f + 1) x gen place = [] := by unfold framesOf; rw [hr]
      rw [e]; exact ⟨Nat.zero_le _, Nat.le_refl _, fun l h => by cases h⟩
    | some l =>
      have e : framesOf (f + 1) x gen place = l :: framesOf f (x.drop (takes l.length * 64)) gen (place + 1) := by
        show (match frameOf x gen place with | none => [] | some l => l :: framesOf f (x.drop (takes l.length * 64)) gen (place + 1)) = _
        rw [hr]
      obtain ⟨h1, h2, h3, h4⟩ := frameOf_len hr
      obtain ⟨a, b, c⟩ := ih (x.drop (takes l.length * 64)) gen (place + 1)
      rw [e, usedOf_cons]
      rw [List.length_drop] at a
      have ht : 1 ≤ takes l.length := by unfold takes; omega
      refine ⟨by omega, by rw [List.length_cons]; omega, fun y hy => ?_⟩
      rcases List.mem_cons.1 hy with rfl | hy
      · exact ⟨h2, h3⟩
      · exact c y hy
theorem slotOf_ok {x : List UInt8} {i g h : Nat} (e : slotOf x i = some (g, h)) : h ≤ 1 ∧ g < 18446744073709551616 ∧ g % 2 = i ∧ x = slotB g h := by
  unfold slotOf at e
  simp only at e
  split at e
  case isTrue hc =>
    injection e with e
    injection e with e1 e2
    subst e1; subst e2
    have h1 := beVal_lt ((x.drop 4).take 8)
    have h2 : 256 ^ ((x.drop 4).take 8).length ≤ 256 ^ 8 := Nat.pow_le_pow_right (by omega) (by simp; omega)
    exact ⟨hc.1, Nat.lt_of_lt_of_le h1 (Nat.le_trans h2 (by decide)), hc.2.1, hc.2.2⟩
  case isFalse => cases e
theorem bestK_ok (D : Dk) : ∀ (k g h : Nat), bestK D k = some (g, h) → h ≤ 1 ∧ g < 18446744073709551616 := by
  intro k
  induction k with
  | zero => intro g h e; cases e
  | succ k ih =>
    intro g h e
    have e2 : pick (bestK D k) (slotOf (D.la k) k) = some (g, h) := e
    cases hs : slotOf (D.la k) k with
    | none =>
      rw [hs] at e2
      exact ih g h (by cases hb : bestK D k <;> rw [hb] at e2 <;> exact e2)
    | some s =>
      rw [hs] at e2
      obtain ⟨s1, s2⟩ := s
      have ok := slotOf_ok hs
      cases hb : bestK D k with
      | none => rw [hb] at e2; injection e2 with e2; injection e2 with e3 e4; subst e3; subst e4; exact ⟨ok.1, ok.2.1⟩
      | some b =>
        rw [hb] at e2
        have e3 : (if b.1 < s1 then some (s1, s2) else some b) = some (g, h) := e2
        split at e3
        · injection e3 with e3; injection e3 with e3 e4; subst e3; subst e4; exact ⟨ok.1, ok.2.1⟩
        · exact ih g h (by rw [hb]; exact e3)
theorem OwnB.cap {w0 w : World} {p : Option Addr} {n c : Nat} {x : List UInt8} (h : OwnB w0 w (.slice p n c) x) : c ≤ 9223372036854775807 := by
  rcases h.1.2 with ⟨e, -⟩ | ⟨g, cap, cur, e, -, -, -, hc, -⟩
  · injection e with _ _ e; omega
  · injection e with _ _ e
    subst e; unfold maxLen at hc; omega

section
variable [Inhabited BaseN]
theorem DkAt.keepF {F : Nat → Prop} {D : Dk} {w w' : World} (h : DkAt D w) (k : Keeps F w w') (hF : ∀ i, F i → ¬ DTy w i) : DkAt D w' := by
  obtain ⟨v, hm, hb⟩ := h
  exact ⟨v, hm.keep k (fun i hi hj => hF i hj (foot_ty hm hb i hi)), hb⟩
/-- what Open answers -/
def openE (D : Dk) : Int := if D.n < 4 then 1 else if D.on = false then 2 else if (bestK D 2).isNone then 3 else 0
def openG (D : Dk) : Nat := ((bestK D 2).getD (0, 0)).1
def openH (D : Dk) : Nat := ((bestK D 2).getD (0, 0)).2
def openL (D : Dk) : List (List UInt8) := framesOf (hsz D * 64 + 1) (halfB D (2 + openH D * hsz D) (hsz D)) (openG D) 0
set_option maxRecDepth 100000 in
set_option maxHeartbeats 4000000 in
theorem open_any (D : Dk) (w : World) (hD : Hid (DkAt D w)) : Calls Tryz.prog 14 #[.pointer (some ⟨D.b, 0, none⟩)] w (NewJ w (openE D, D) (openG D) (openH D) (openL D)) := by
  have hn := hD.out.n1.2
  have hsz := Lib.hid (own_size _ D w hD.out.own)
  go_enter Tryz.func14, Tryz.ntmps14
  go_wp2_with fail
  refine hsz.out.mono ?_
  rintro e w1 ⟨rfl, rfl⟩
  clear hsz
  by_cases h4 : D.n < 4
  · have hres : Hid (openE D = 1) := Lib.hid (by unfold openE; rw [if_pos h4])
    have l1 : (D.n : Int) < 4 := by omega
    clear h4
    go_wp2_with fail
    go_ret2
    refine ⟨KeepD.refl _, ?_⟩
    rw [hres.out]; exact ⟨rfl, hD.out⟩
  · have l1 : ¬ (D.n : Int) < 4 := by omega
    go_wp2_with fail
    cases hon : D.on with
    | false =>
      have hres : Hid (openE D = 2) := Lib.hid (by unfold openE; rw [if_neg h4, if_pos hon])
      refine (newest_off _ D w hD.out.own hon).mono ?_
      rintro e w1 ⟨rfl, k1⟩
      have k1' := Lib.hid k1
      clear k1
      go_wp2_with fail
      go_ret2
      have k2 := k1'.out.alloc (.cells #[.int .u64 0, .int .i64 0] 90)
      refine ⟨KeepD.of k2, ?_⟩
      rw [hres.out]; exact ⟨rfl, hD.out.keep k2⟩
    | true =>
      refine (newest_any _ D w hD.out.own (by omega) hon).mono ?_
      rintro e w1 ⟨rfl, k1⟩
      have k1' := Lib.hid k1
      clear k1
      have hok := bestK_ok D 2
      cases hb : bestK D 2 with
      | none =>
        have hres : Hid (openE D = 3) := Lib.hid (by unfold openE; rw [if_neg h4, if_neg (by rw [hon]; decide), if_pos (by rw [hb]; rfl)])
        have hnv : newV none = .tuple #[.agg #[.int .u64 0, .int .i64 0], .bool false, .int .i64 0] := rfl
        rw [hnv]
        clear hnv hok hb
        go_wp2_with fail
        go_ret2
        have k2 := k1'.out.alloc (.cells #[.int .u64 0, .int .i64 0] 90)
        refine ⟨KeepD.of k2, ?_⟩
        rw [hres.out]; exact ⟨rfl, hD.out.keep k2⟩
      | some s =>
        obtain ⟨g, h⟩ := s
        obtain ⟨hh, hg⟩ := hok g h hb
        have hres : Hid (openE D = 0) := Lib.hid (by unfold openE; rw [if_neg h4, if_neg (by rw [hon]; decide), if_neg (by rw [hb]; simp)])
        have hG : Hid (openG D = g) := Lib.hid (by unfold openG; rw [hb]; rfl)
        have hH : Hid (openH D = h) := Lib.hid (by unfold openH; rw [hb]; rfl)
        have hnv : newV (some (g, h)) = .tuple #[.agg #[.int .u64 g, .int .i64 h], .bool true, .int .i64 0] := rfl
        rw [hnv]
        clear hnv hok hb
        obtain ⟨sl, hsl⟩ : ∃ sl, Obj.cells #[Value.int .u64 g, Value.int .i64 h] 90 = sl := ⟨_, rfl⟩
        have k2 : Hid (Keeps (fun _ => False) w (w1.alloc (.cells #[.int .u64 g, .int .i64 h] 90))) := Lib.hid (k1'.out.alloc _)
        have hD2 := Lib.hid (hD.out.keep k2.out)
        have hRd := Lib.hid (readHalf_any D h (w1.alloc (.cells #[.int .u64 g, .int .i64 h] 90)) hD2 (by omega) hh hon)
        have hS2 : Hid ((w1.alloc (.cells #[.int .u64 g, .int .i64 h] 90)).rangeAt w1.heap.size 0 [.int .u64 g, .int .i64 h]) := Lib.hid (fun j u hu => by
          have h := cells_new (n := w1.heap.size) rfl [.int .u64 g, .int .i64 h] 90 j u hu
          rw [Addr.add_mid] at h; exact h)
        clear hsl sl
        go_wp2_with fail
        refine hRd.out.mono ?_
        rintro e w3 ⟨p, c, rfl, hO3, k23⟩
        obtain ⟨X, hX⟩ : ∃ X, halfB D (2 + h * hsz D) (hsz D) = X := ⟨_, rfl⟩
        have hXl : X.length = hsz D * 64 := by
          rw [← hX]
          refine halfB_len hD.out _ _ ?_
          have h1 : hsz D = (D.n - 2) / 2 := rfl
          have h2 : h * hsz D ≤ 1 * hsz D := Nat.mul_le_mul_right _ hh
          omega
        rw [hX, ← hXl] at hO3
        have hXs : X.length ≤ 40000 := by
          have h1 : hsz D = (D.n - 2) / 2 := rfl
          omega
        have hL : Hid (openL D = framesOf (X.length + 1) X g 0) := Lib.hid (by unfold openL; rw [hG.out, hH.out, hX, hXl])
        have hcp := hO3.cap
        have k3 := Lib.hid (k2.out.trans k23)
        have hS3 := Lib.hid (k23.rangeAt hS2.out id)
        have hO3' := Lib.hid (hO3.older k2.out.size)
        have hD3 := Lib.hid (hD2.out.keep k23)
        rw [← hXl]
        have hsw : w.heap.size ≤ w3.heap.size := k3.out.size
        clear hO3 k23 hRd hS2 hD2 k2 hX hXl
        generalize w1.heap.size = sb at hS3 ⊢
        clear k1'
        obtain ⟨W4, hW4⟩ : ∃ W, w3.alloc (.cells #[.pointer (some ⟨D.b, 0, none⟩), .int .u64 g, .int .i64 h, .slice none 0 0, .int .i64 0, .bool false] 94) = W := ⟨_, rfl⟩
        have k34 : Hid (Keeps (fun _ => False) w3 W4) := Lib.hid (by rw [← hW4]; exact (Keeps.refl _ _).alloc _)
        have c0' : (w3.alloc (.cells #[.pointer (some ⟨D.b, 0, none⟩), .int .u64 g, .int .i64 h, .slice none 0 0, .int .i64 0, .bool false] 94)).cell? ⟨sb, 0, none⟩ = some (.int .u64 g) := by
          rw [hW4]; exact (k34.out.rangeAt hS3.out id) 0 _ rfl
        have hRF := Lib.hid (readFrames_any _ X g hg W4 (Lib.hid ((hO3'.out.keep k34.out (fun _ _ f => f)).bytes)) (by omega) (fun p' n' c' e => by injection e with _ _ e; omega))
        rw [← hL.out] at hRF
        have hJ4 : Hid (JHead W4 w3.heap.size D.b g h (.slice none 0 0) 0 false) := Lib.hid (by rw [← hW4]; exact JHead.new w3 D.b g h)
        have hk4 := Lib.hid (k3.out.trans k34.out)
        have hD4 := Lib.hid (hD3.out.keep k34.out)
        have hjs : Hid (w3.heap.size < W4.heap.size) := Lib.hid (by rw [← hW4]; simp)
        have hW4' := Lib.hid hW4
        clear hW4
        go_wp2_with ((with_reducible refine at_slot 34 ?_); refine wpList_load_mid rfl 90 (.tmp 4) rfl sb 0 rfl [.int .u64 g, .int .i64 h] _ hS3.out Tryz.underlying90 rfl slotInfo ?_)
        rw [hW4'.out]
        clear c0' hW4' k34 hS3 hO3' k3 hD3
        refine hRF.out.mono ?_
        rintro e w5 ⟨pl, cl, rfl, hE5, k45⟩
        have hB := framesOf_bulk (X.length + 1) X g 0
        rw [← hL.out] at hB
        obtain ⟨b1, b2, b3⟩ := hB
        have hk5 := Lib.hid (hk4.out.trans k45)
        have hJ5 := Lib.hid (hJ4.out.keep k45 id)
        have hE5' := Lib.hid (hE5.older hk4.out.size)
        have hne : Hid (∀ i, (Value.slice pl (openL D).length cl).ownBlock = some i → i ≠ w3.heap.size) := Lib.hid (fun i e f => by
          obtain ⟨vs, e1, e2, -⟩ := hE5
          have h1 := e2.2.1 i e
          have := hjs.out
          omega)
        have hH5 := Lib.hid (hold_any w3.heap.size D.b g h (.slice none 0 0) 0 false _ (openL D) w5 hJ5 (Lib.hid hE5'.out.at) (by omega) (Lib.hid (fun l hl => by have := b3 l hl; omega)) hne)
        have hD5 := Lib.hid (hD4.out.keep k45)
        clear hE5 k45 hRF hJ4 hk4 hD4 hjs
        generalize w3.heap.size = jb at hH5 hne hJ5 hsw ⊢
        go_wp2_with fail
        refine hH5.out.mono ?_
        rintro e w6 ⟨rfl, hJ6, k56⟩
        have hJ6' := Lib.hid hJ6
        have hjl : jb < w5.heap.size := lt_of_block hJ5.out.hd
        have hE6 := Lib.hid (hE5'.out.keepF k56 (fun i hi ⟨cs, t, r, a, b⟩ => by
          subst hi
          rw [hJ5.out.hd] at a
          injection a with a
          injection a with _ a _
          subst a
          revert b; decide))
        have hk6 := Lib.hid (Keeps.trans' hk5.out k56 (fun i e => .inr (by omega)))
        have hD6 := Lib.hid (hD5.out.keepF k56 (fun i hi a => by subst hi; exact hJ5.out.noD a))
        clear hJ6 k56 hH5 hJ5 hE5' hk5 hD5 hne
        go_wp2_with fail
        go_ret2
        refine ⟨KeepD.of hk6.out, ?_⟩
        rw [hres.out, if_pos rfl, hG.out, hH.out]
        exact ⟨jb, _, rfl, hsw, hJ6'.out, hE6.out, hD6.out⟩
end
end Go.Proofs.YtdannodhlaaoiaaGreatDoor
/- move. -/
set_option linter.unusedVariables false
set_option linter.unusedSimpArgs false
namespace Go.Proofs.YtdannodhlaaoiaaGreatDoor
open Go.RowKit
section
variable [Inhabited BaseN]

/-- frames one behind the other, from a place on -/
def framesB (gen : Nat) : Nat → List (List UInt8) → List UInt8
  | _, [] => []
  | p, l :: r => frameB gen p l ++ framesB gen (p + 1) r
end
theorem framesB_snoc (gen : Nat) (l : List UInt8) : ∀ (L : List (List UInt8)) (p : Nat), framesB gen p (L ++ [l]) = framesB gen p L ++ frameB gen (p + L.length) l := by
  intro L
  induction L with
  | nil => intro p; show frameB gen p l ++ [] = [] ++ frameB gen (p + 0) l; simp
  | cons x r ih =>
    intro p
    show frameB gen p x ++ framesB gen (p + 1) (r ++ [l]) = (frameB gen p x ++ framesB gen (p + 1) r) ++ _
    rw [ih, List.append_assoc, List.length_cons]
    congr 3; omega
theorem framesB_len (gen : Nat) : ∀ (L : List (List UInt8)) (p : Nat), (framesB gen p L).length = usedOf L * 64 := by
  intro L
  induction L with
  | nil => intro p; rfl
  | cons x r ih =>
    intro p
    show (frameB gen p x ++ framesB gen (p + 1) r).length = _
    rw [List.length_append, ih, frameB_len, usedOf_cons]; omega
theorem usedOf_append (A B : List (List UInt8)) : usedOf (A ++ B) = usedOf A + usedOf B := by
  induction A with
  | nil => show usedOf B = 0 + usedOf B; omega
  | cons x r ih => rw [List.cons_append, usedOf_cons, usedOf_cons, ih]; omega
theorem usedOf_take (L : List (List UInt8)) (k : Nat) : usedOf (L.take k) ≤ usedOf L := by
  have h := usedOf_append (L.take k) (L.drop k)
  rw [List.take_append_drop] at h; omega
section
variable [Inhabited BaseN]
/-- a half's image -/
def imgB (gen H : Nat) (L : List (List UInt8)) : List UInt8 := framesB gen 0 L ++ noughts (H * 64 - usedOf L * 64)
def mvR (D : Dk) (gen half : Nat) (L : List (List UInt8)) : Int × Dk :=
  let p := D.writes (2 + half * hsz D) (secsOf (imgB gen (hsz D) L) (hsz D))
  if p.1 ≠ 0 then p else p.2.writes (gen % 2) (secsOf (slotB gen half) 1)
/-- a slot in a block of its own -/
def SlotAt (w : World) (sb gen half : Nat) : Prop := w.heap[sb]? = some (.cells #[.int .u64 gen, .int .i64 half] 90 (0, 0))
end
theorem SlotAt.keep {F : Nat → Prop} {w w' : World} {sb gen half : Nat} (h : SlotAt w sb gen half) (k : Keeps F w w') (hF : ¬ F sb) : SlotAt w' sb gen half := (k.block sb (lt_of_block h) hF).trans h
section
variable [Inhabited BaseN]
theorem SlotAt.noD {w : World} {sb gen half : Nat} (h : SlotAt w sb gen half) : ¬ DTy w sb := fun ⟨_, cs, t, r, h1, h2⟩ => by
  have h' : w.heap[sb]? = _ := h
  rw [h'] at h1
  injection h1 with h1
  injection h1 with _ h1 _
  subst h1
  revert h2; decide
theorem SlotAt.keepD {w w' : World} {sb gen half : Nat} (h : SlotAt w sb gen half) (k : KeepD w w') : SlotAt w' sb gen half := h.keep k h.noD
end
theorem SlotAt.c0 {w : World} {sb gen half : Nat} (h : SlotAt w sb gen half) : w.cell? ⟨sb, 0, none⟩ = some (.int .u64 gen) := by unfold World.cell?; have h' : w.heap[sb]? = _ := h; simp only [h']; rfl
theorem SlotAt.c1 {w : World} {sb gen half : Nat} (h : SlotAt w sb gen half) : w.cell? ⟨sb, 1, none⟩ = some (.int .i64 half) := by unfold World.cell?; have h' : w.heap[sb]? = _ := h; simp only [h']; rfl
theorem SlotAt.range {w : World} {sb gen half : Nat} (h : SlotAt w sb gen half) : w.rangeAt sb 0 [.int .u64 gen, .int .i64 half] := fun j u hu => by
  match j, hu with
  | 0, hu => simp at hu; subst hu; exact h.c0
  | 1, hu => simp at hu; subst hu; exact h.c1
  | j + 2, hu => simp at hu
theorem wpList_make_e {P : Program} {w : World} {ops : Array Oper} {rest : List Oper} {o : Oper} {a : Act} {Q : Exit → Act → World → Prop} (hgd : o.guard = none) (l c : Operand) (t : TypeId) (ho : o.op = .makeSlice t l c) (i : TypeInfo)
    (ht : P.underlying t = some (.slice 5)) (hi : P.info? 5 = some i) (hz : i.zero = some (.int .u8 0)) (hsize : i.size = 1) (hby : i.bytes = 1) (n : Nat) (C : Int) (hC : C = (n : Int)) (hl : a.eval l = .int .i64 0) (hc : a.eval c = .int .i64 C) (hn : n ≤ 1000000)
    (h : ∀ w', Hid (OwnB w w' (.slice (some ⟨w.heap.size, 0, none⟩) 0 n) []) → Hid (Keeps (fun _ => False) w w') → wpList P ops Q rest (a.put o.dst (.slice (some ⟨w.heap.size, 0, none⟩) 0 n)) w') : wpList P ops Q (o :: rest) a w :=
  wpList_plain hgd fun K hK => by
    subst hC
    obtain ⟨w', hrun, r1, r2⟩ := run_make_own (P := P) w 0 t 5 i (.int .u8 0) 1 ht hi hz hsize .i64 .i64 n (by rw [hby]; omega) (by unfold maxLen; omega) (Nat.zero_le _)
    unfold Oper.wp
    simp [execOp, ho, hl, hc, hrun, Result.andThen]
    refine hK _ _ (h w' (Lib.hid ⟨by simpa using r1, fun k e => ?_, r2.size⟩) (Lib.hid ((Keeps.refl _ _).grown r2 (fun k e => by cases e))))
    simp only [Value.ownBlock, Option.some.injEq] at e
    omega
section
variable [Inhabited BaseN]
end
end Go.Proofs.YtdannodhlaaoiaaGreatDoor
