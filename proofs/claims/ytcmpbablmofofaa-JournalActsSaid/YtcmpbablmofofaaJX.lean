/- Begin. -/
import Derived.Test.YtcmpbablmofofaaJW
set_option linter.unusedVariables false
set_option linter.unusedSimpArgs false
namespace Go.Proofs.Ytcmpbablmofofaa
open Go.RowKit
section
variable [Inhabited BaseN]

end
theorem slotInfo : (Try.prog.info? 93).map (·.size) = some 2 := by kernel_rfl
theorem JHead.slotR {w : World} {jb db gen half : Nat} {ev : Value} {used : Nat} {ended : Bool} (h : JHead w jb db gen half ev used ended) : w.rangeAt jb 1 [.int .u64 gen, .int .i64 half] := fun j u hu => by
  match j, hu with
  | 0, hu => simp at hu; subst hu; exact h.c1
  | 1, hu => simp at hu; subst hu; exact h.c2
  | j + 2, hu => simp at hu
theorem JHead.new (w : World) (db gen half : Nat) : JHead (w.alloc (.cells #[.pointer (some ⟨db, 0, none⟩), .int .u64 gen, .int .i64 half, .slice none 0 0, .int .i64 0, .bool false] 97)) w.heap.size db gen half (.slice none 0 0) 0 false := ⟨heap_alloc_last w _⟩
theorem wpList_make_z {P : Program} {w : World} {ops : Array Oper} {rest : List Oper} {o : Oper} {a : Act} {Q : Exit → Act → World → Prop} (hgd : o.guard = none) (l c : Operand) (t : TypeId) (ho : o.op = .makeSlice t l c) (i : TypeInfo)
    (ht : P.underlying t = some (.slice 5)) (hi : P.info? 5 = some i) (hz : i.zero = some (.int .u8 0)) (hsize : i.size = 1) (hby : i.bytes = 1) (n : Nat) (C : Int) (hC : C = (n : Int)) (hl : a.eval l = .int .i64 C) (hc : a.eval c = .int .i64 C) (hn : n ≤ 1000000)
    (h : Hid (OwnB w (w.alloc (.cells ((noughts n).map bv).toArray 5)) (.slice (some ⟨w.heap.size, 0, none⟩) n n) (noughts n)) → wpList P ops Q rest (a.put o.dst (.slice (some ⟨w.heap.size, 0, none⟩) n n)) (w.alloc (.cells ((noughts n).map bv).toArray 5))) : wpList P ops Q (o :: rest) a w :=
  wpList_plain hgd fun _ hK => wp_make_z l c t ho i ht hi hz hsize hby n C hC hl hc hn (fun h1 => hK _ _ (h (Lib.hid h1)))

set_option maxRecDepth 100000 in
set_option maxHeartbeats 4000000 in
theorem newest_off (F : Nat → Prop) (D : Dk) (w : World) (h : OwnDisk F D w) (hoff : D.on = false) : Calls Try.prog 50 #[.pointer (some ⟨D.b, 0, none⟩)] w fun e w' => e = .returned (.tuple #[.agg #[.int .u64 0, .int .i64 0], .bool false, .int .i64 2]) ∧ Keeps (fun _ => False) w w' := by
  have hN := Lib.hid (NI.start h)
  clear h
  go_enter Try.func50, Try.ntmps50
  go_wp2
  go_loopw [6, 13] (fun fv iv wr => iv = .int .i64 0 ∧ fv = .bool false ∧ Hid (NI D w none wr)) (fun _ iv _ => 2 - (intOf iv).toNat)
  case atStart => exact ⟨rfl, rfl, hN⟩
  case round =>
    clear hN
    obtain ⟨rfl, rfl, hP⟩ := hrel
    have hrd : D.read 0 = 2 := by unfold Dk.read; rw [hoff, if_pos rfl]
    have hR := Lib.hid (own_read_bad _ D wr 0 hP.out.own (by rw [hrd]; decide))
    rw [hrd] at hR
    clear hrd
    have hT := Lib.hid hP.out.tv
    have hK := Lib.hid hP.out.keeps
    obtain ⟨hq1, hq2, hq3, hq4, hq5, hq6⟩ := hP.out.tv
    go_wp2_with fail
    refine hR.out.mono ?_
    rintro e w1 ⟨rfl, rfl⟩
    clear hR
    go_wp2_with fail
    obtain ⟨Wc, hWc⟩ : ∃ Wc, Wc = (wr.setCell ⟨w.heap.size, 0, none⟩ (.int .u64 (0 : Nat))).setCell ⟨w.heap.size, 1, none⟩ (.int .i64 (0 : Nat)) := ⟨_, rfl⟩
    rw [show (wr.setCell ⟨w.heap.size, 0, none⟩ (.int .u64 0)).setCell ⟨w.heap.size, 1, none⟩ (.int .i64 0) = Wc from hWc.symm]
    obtain ⟨c0, c1, hkc⟩ := hT.out.put (.int .u64 (0 : Nat)) (.int .i64 (0 : Nat)) Wc hWc
    clear hWc hq1 hq2 hq3 hq4 hq5 hq6
    refine bodyPost_ret (v := .tuple #[.agg #[.int .u64 0, .int .i64 0], .bool false, .int .i64 2]) (by simp [results, Try.results50, go_sem, c0, c1]) rfl ⟨rfl, hK.out.trans' hkc (fun k e => .inr (by rw [e]; exact Nat.le_refl _))⟩

section
variable [Inhabited BaseN]
/-- the generation that Begin takes -/
def genN (D : Dk) : Nat := (((bestK D 2).getD (0, 0)).1 + 1) % 18446744073709551616
/-- what Begin answers, and what it makes of the disk -/
def begR (D : Dk) : Int × Dk :=
  if D.n < 4 then (1, D) else if D.on = false then (2, D) else if (clR D (genN D) 0).1 ≠ 0 then clR D (genN D) 0 else
  if ((clR D (genN D) 0).2.write (1 - ((genN D % 2 : Nat) : Int)) (noughts 64)).1 ≠ 0 then (clR D (genN D) 0).2.write (1 - ((genN D % 2 : Nat) : Int)) (noughts 64) else
  ((clR D (genN D) 0).2.write (1 - ((genN D % 2 : Nat) : Int)) (noughts 64)).2.writes (genN D % 2) (secsOf (slotB (genN D) 0) 1)
/-- a new journal, or none -/
def NewJ (w : World) (r : Int × Dk) (gen half : Nat) (L : List (List UInt8)) (x : Ending) (w' : World) : Prop :=
  KeepD w w' ∧ if r.1 = 0 then ∃ jb ev, x = .returned (.tuple #[.pointer (some ⟨jb, 0, none⟩), .int .i64 0]) ∧ w.heap.size ≤ jb ∧ JAt w w' jb r.2 gen half ev L false else x = .returned (.tuple #[.pointer none, .int .i64 r.1]) ∧ DkAt r.2 w'
set_option maxRecDepth 100000 in
set_option maxHeartbeats 4000000 in
theorem begin_any (D : Dk) (w : World) (hD : Hid (DkAt D w)) : Calls Try.prog 26 #[.pointer (some ⟨D.b, 0, none⟩)] w (NewJ w (begR D) (genN D) 0 []) := by
  have hn := hD.out.n1.2
  have hsz := Lib.hid (own_size _ D w hD.out.own)
  obtain ⟨i0, hi0, hi1, hi2, hi3⟩ := info_parts u8InfoAll
  go_enter Try.func26, Try.ntmps26
  go_wp2_with fail
  refine hsz.out.mono ?_
  rintro e w1 ⟨rfl, rfl⟩
  clear hsz
  by_cases h4 : D.n < 4
  · have hres : Hid (begR D = (1, D)) := Lib.hid (by unfold begR; rw [if_pos h4])
    have l1 : (D.n : Int) < 4 := by omega
    clear h4
    go_wp2_with fail
    go_ret2
    exact ⟨KeepD.refl _, by rw [hres.out]; exact ⟨rfl, hD.out⟩⟩
  · have l1 : ¬ (D.n : Int) < 4 := by omega
    go_wp2_with fail
    cases hon : D.on with
    | false =>
      have hres : Hid (begR D = (2, D)) := Lib.hid (by unfold begR; rw [if_neg h4, if_pos hon])
      refine (newest_off _ D w hD.out.own hon).mono ?_
      rintro e w1 ⟨rfl, k1⟩
      have k1' := Lib.hid k1
      clear k1
      go_wp2_with fail
      go_ret2
      have k2 := k1'.out.alloc (.cells #[.int .u64 0, .int .i64 0] 93)
      exact ⟨KeepD.of k2, by rw [hres.out]; exact ⟨rfl, hD.out.keep k2⟩⟩
    | true =>
      refine (newest_any _ D w hD.out.own (by omega) hon).mono ?_
      rintro e w1 ⟨rfl, k1⟩
      have k1' := Lib.hid k1
      clear k1
      obtain ⟨g0, hg0⟩ : ∃ g, ((bestK D 2).getD (0, 0)).1 = g := ⟨_, rfl⟩
      obtain ⟨h0, hh0⟩ : ∃ g, ((bestK D 2).getD (0, 0)).2 = g := ⟨_, rfl⟩
      obtain ⟨s0, hs0⟩ : ∃ g, (bestK D 2).isSome = g := ⟨_, rfl⟩
      have hG : genN D = (g0 + 1) % 18446744073709551616 := by unfold genN; rw [hg0]
      obtain ⟨G, hGG⟩ : ∃ G, genN D = G := ⟨_, rfl⟩
      unfold newV
      rw [hg0, hh0, hs0]
      have e1 : IntKind.u64.wrap ((g0 : Int) + 1) = (G : Int) := by rw [← hGG, hG, IntKind.wrap_u64]; omega
      have hGl : G < 18446744073709551616 := by rw [← hGG, hG]; omega
      clear hG hg0 hh0 hs0
      go_wp2_with fail
      obtain ⟨W2, hW2⟩ : ∃ W, ((w1.alloc (.cells #[.int .u64 g0, .int .i64 h0] 93)).alloc (.cells #[.pointer (some ⟨D.b, 0, none⟩), .int .u64 G, .int .i64 0, .slice none 0 0, .int .i64 0, .bool false] 97)) = W := ⟨_, rfl⟩
      obtain ⟨jb, hjb⟩ : ∃ j, w1.heap.size + 1 = j := ⟨_, rfl⟩
      have k12 : Hid (Keeps (fun _ => False) w W2) := Lib.hid (by rw [← hW2]; exact (k1'.out.alloc _).alloc _)
      have hJ2 : Hid (JHead W2 jb D.b G 0 (.slice none 0 0) 0 false) := Lib.hid (by
        rw [← hW2, ← hjb]
        have h := JHead.new (w1.alloc (.cells #[.int .u64 g0, .int .i64 h0] 93)) D.b G 0
        simpa using h)
      have hjw : w.heap.size ≤ jb := by rw [← hjb]; exact Nat.le_trans k1'.out.size (Nat.le_succ _)
      rw [hW2, hjb]
      clear hW2 hjb e1
      generalize w1.heap.size = sb
      have hD2 := Lib.hid (hD.out.keep k12.out)
      obtain ⟨cr, hcr⟩ : ∃ c, clR D G 0 = c := ⟨_, rfl⟩
      obtain ⟨ce, D1⟩ := cr
      have hCl := Lib.hid (clear_any jb G 0 (.slice none 0 0) 0 false D W2 hJ2 hD2 (by omega) (by omega) hGl)
      rw [hcr] at hCl
      have hD1 : Hid (D1.b = D.b ∧ D1.bs = D.bs ∧ D1.n = D.n) := Lib.hid (by
        have h : (clR D G 0).2 = D1 := by rw [hcr]
        rw [← h]; unfold clR; split
        · exact ⟨rfl, rfl, rfl⟩
        · exact D.writes_same _ _)
      obtain ⟨T, hT⟩ : ∃ T, G % 2 = T := ⟨_, rfl⟩
      have hTl : T ≤ 1 := by omega
      obtain ⟨wr, hwr⟩ : ∃ r, D1.write (1 - (T : Int)) (noughts 64) = r := ⟨_, rfl⟩
      obtain ⟨we, D2⟩ := wr
      have hres : Hid (begR D = if ce ≠ 0 then (ce, D1) else if we ≠ 0 then (we, D2) else D2.writes T (secsOf (slotB G 0) 1)) := Lib.hid (by
        unfold begR
        rw [if_neg h4, if_neg (by rw [hon]; decide), hGG, hcr]
        simp only [hT, hwr])
      refine hCl.out.mono ?_
      rintro e w3 ⟨rfl, hD3, k23⟩
      have hD3' := Lib.hid hD3
      have hk3 := Lib.hid ((KeepD.of k12.out).trans k23)
      have hJ3 := Lib.hid (hJ2.out.keepD k23)
      clear hD3 k23 hCl hJ2 hD2 k12 hD l1
      by_cases hce : ce = 0
      · subst hce
        have hresB : Hid (begR D = if we ≠ 0 then (we, D2) else D2.writes T (secsOf (slotB G 0) 1)) := Lib.hid (by rw [hres.out, if_neg (by simp)])
        clear hres
        have hsA := Lib.hid (fun W => slotAt_any G (.int .i64 ((0 : Nat) : Int)) hGl W)
        rw [hT] at hsA
        have e2 : IntKind.i64.wrap (1 - (T : Int)) = 1 - (T : Int) := IntWalk.i64_in _ (by omega)
        have hrg : Hid (∀ t, (w3.alloc t).rangeAt jb 1 [.int .u64 G, .int .i64 ((0 : Nat) : Int)]) := Lib.hid (fun t => (hJ3.out.keep ((Keeps.refl (fun _ => False) _).alloc _) id).slotR)
        go_wp2_with (first | ((with_reducible refine at_slot 36 ?_); refine wpList_make_z rfl (.const (.int .i64 64)) (.const (.int .i64 64)) 27 rfl i0 Try.underlying27 hi0 hi1 hi2 hi3 64 64 rfl rfl rfl (by omega) ?_; intro hO4) | ((with_reducible refine at_slot 41 ?_); refine wpList_load_mid rfl 93 (.tmp 40) rfl jb 1 rfl [.int .u64 G, .int .i64 ((0 : Nat) : Int)] _ (hrg.out _) Try.underlying93 rfl slotInfo ?_))
        refine (hsA.out _).mono ?_
        rintro e w4 ⟨rfl, k34⟩
        have hk34 := Lib.hid (((Keeps.refl (fun _ => False) w3).alloc _).trans k34)
        have hB4 := Lib.hid ((hO4.out.keep k34 (fun _ _ f => f)).bytes)
        have hD4 := Lib.hid (hD3'.out.keep hk34.out)
        have hJ4 := Lib.hid (hJ3.out.keep hk34.out id)
        have hk4 := Lib.hid (hk3.out.thenK hk34.out)
        clear k34 hk34 hO4 hrg hk3 hJ3 hD3'
        generalize w3.heap.size = nb at hB4 ⊢
        have hWr := Lib.hid (dk_write D1 w4 (1 - (T : Int)) _ _ hD4.out hB4.out (by rw [noughts_len]; omega))
        rw [hD1.out.1, hwr] at hWr
        have hD12 : Hid (D2.b = D.b ∧ D2.bs = D.bs ∧ D2.n = D.n) := Lib.hid (by
          have h := D1.write_same (1 - (T : Int)) (noughts 64)
          rw [hwr] at h
          exact ⟨h.1.trans hD1.out.1, h.2.1.trans hD1.out.2.1, h.2.2.trans hD1.out.2.2⟩)
        clear hwr hcr hB4 hD4 hD1
        go_wp2_with fail
        refine hWr.out.mono ?_
        rintro e w5 ⟨rfl, hD5, k45⟩
        have hD5' := Lib.hid hD5
        have hk5 := Lib.hid (hk4.out.trans k45)
        have hJ5 := Lib.hid (hJ4.out.keepD k45)
        clear hD5 k45 hk4 hJ4 hWr e2
        by_cases hwe : we = 0
        · subst hwe
          have hresC : Hid (begR D = D2.writes T (secsOf (slotB G 0) 1)) := Lib.hid (by rw [hresB.out, if_neg (by simp)])
          clear hresB
          have hse := Lib.hid (fun W => sector_any G 0 hGl (by omega) W)
          have hsl : (slotB G 0).length = 64 := slotB_len G 0
          have hW := Lib.hid (fun W (k : Keeps (fun _ => False) w5 W) (g : Nat) (hO : OwnB w5 W (.slice (some ⟨g, 0, none⟩) 64 64) (slotB G 0)) => writeSectors_any D2 T 1 g 0 64 (slotB G 0) W (Lib.hid (hD5'.out.keep k)) (by rw [hsl]) (by rw [hsl]; omega) (by omega) (Lib.hid (by
            obtain ⟨g9, o9, e9, -, h9⟩ := hO.bytes.open (by rw [hsl]; omega)
            injection e9 with e9; injection e9 with e91 e92
            subst e91; subst e92; exact h9)) (Lib.hid (hO.noD rfl)))
          rw [hD12.out.1, hsl] at hW
          obtain ⟨fr, hfr⟩ : ∃ r, D2.writes T (secsOf (slotB G 0) 1) = r := ⟨_, rfl⟩
          obtain ⟨fe, D3⟩ := fr
          have hD3 : Hid (D3.b = D.b) := Lib.hid (by
            have h := D2.writes_same T (secsOf (slotB G 0) 1)
            rw [hfr] at h; exact h.1.trans hD12.out.1)
          rw [hfr] at hW hresC
          have hsl' := Lib.hid hsl
          clear hfr hsl
          go_upto_region 14 with fail
          go_cut [11] (fun ev wx => ev = .int .i64 fe ∧ Hid (DkAt D3 wx) ∧ Hid (KeepD w5 wx))
          case first =>
            have hk0 : Keeps (fun _ => False) w5 w5.drew := (Keeps.refl _ _).drew
            refine wp_region_noPanic ?_
            refine wp_region_held_drew (S := (fun W => KeepD w5 W)) (by kernel_rfl) ((KeepD.of ((Keeps.refl _ _).drew))) (fun hHeld => ?_)
            refine tk 0 rfl ?_
            refine tk 1 rfl ?_
            refine tk 2 rfl ?_
            refine tk 3 rfl ?_
            refine tkL 4 rfl (yieldsIf_load_mid (by rfl) 93 (.tmp 52) rfl jb 1 rfl [.int .u64 G, .int .i64 ((0 : Nat) : Int)] _ (fun _ s => (hJ5.out.keepD s).slotR) Try.underlying93 rfl slotInfo) ?_
            refine tk 6 rfl ?_
            refine tk 7 rfl ?_
            refine tk 8 rfl ?_
            refine tkL 9 rfl (yieldsIf_load_mid (by rfl) 93 (.tmp 57) rfl jb 1 rfl [.int .u64 G, .int .i64 ((0 : Nat) : Int)] _ (fun _ s => (hJ5.out.keepD s).slotR) Try.underlying93 rfl slotInfo) ?_
            refine stepL 5 rfl (by kernel_rfl) (fun K hK => ?_)
            go_simp
            (refine (hsA.out _).mono ?_; rintro x w6 ⟨rfl, k6⟩; have hk6 := Lib.hid (hk0.trans k6); clear k6)
            go_wp2_with fail
            refine hK.out _ _ ((KeepD.of hk6.out)) (fun hHeld => ?_)
            clear hK K
            try simp only [Act.put, sA, sZ, sS]
            refine stepL 10 rfl (by kernel_rfl) (fun K hK => ?_)
            go_simp
            (refine (hse.out _).mono ?_; rintro x w7 ⟨g, rfl, hg7, hB7, k7⟩; have hk7 := Lib.hid (hk6.out.trans k7); have hO7 := Lib.hid (hB7.own (w0 := w5) (Nat.le_trans hk6.out.size hg7) (by rw [hsl'.out]; omega)); rw [hsl'.out] at hO7 ⊢; clear k7 hB7 hg7)
            go_wp2_with fail
            refine hK.out _ _ ((KeepD.of hk7.out)) (fun hHeld => ?_)
            clear hK K
            try simp only [Act.put, sA, sZ, sS]
            refine stepL 11 rfl (by kernel_rfl) (fun K hK => ?_)
            go_simp
            (refine (hW.out _ hk7.out _ hO7.out).mono ?_; rintro x w8 ⟨rfl, hD8, hk8⟩; have hD8' := Lib.hid hD8; have hk8' := Lib.hid ((KeepD.of hk7.out).trans hk8); clear hD8 hk8)
            go_wp2_with fail
            refine hK.out _ _ (hk8'.out) (fun hHeld => ?_)
            clear hK K
            try simp only [Act.put, sA, sZ, sS]
            refine tk 12 rfl ?_
            refine wpAnyH_done (by kernel_rfl) (NoPanic.normal ?_) _
            clear hHeld
            go_wp2_with fail
            go_meet
            case rel => exact ⟨rfl, hD8', hk8'⟩
          case rest =>
            obtain ⟨rfl, hD9, k59⟩ := hcut
            have hk9 := Lib.hid (hk5.out.trans k59.out)
            have hJ9 := Lib.hid (hJ5.out.keepD k59.out)
            generalize hgz : wc = w9 at hD9 hk9 hJ9 ⊢
            clear hgz k59 hW hse hsA
            by_cases hfe : fe = 0
            · subst hfe
              go_wp2_with fail
              go_ret2
              refine ⟨hk9.out, ?_⟩
              rw [hresC.out, if_pos rfl]
              exact ⟨jb, _, rfl, hjw, by rw [hD3.out, hGG]; exact hJ9.out, OwnE.nil _ _ hk9.out.size, hD9.out⟩
            · go_wp2_with fail
              go_ret2
              exact ⟨hk9.out, by rw [hresC.out, if_neg hfe]; exact ⟨rfl, hD9.out⟩⟩
        · have hresC : Hid (begR D = (we, D2)) := Lib.hid (by rw [hresB.out, if_pos hwe])
          go_wp2_with fail
          go_ret2
          exact ⟨hk5.out, by rw [hresC.out, if_neg hwe]; exact ⟨rfl, hD5'.out⟩⟩
      · have hresB : Hid (begR D = (ce, D1)) := Lib.hid (by rw [hres.out, if_pos hce])
        go_wp2_with fail
        go_ret2
        exact ⟨hk3.out, by rw [hresB.out, if_neg hce]; exact ⟨rfl, hD3'.out⟩⟩
end
end Go.Proofs.Ytcmpbablmofofaa
