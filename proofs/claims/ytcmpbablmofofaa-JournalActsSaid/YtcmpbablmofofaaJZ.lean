/- move. -/
import Derived.Test.YtcmpbablmofofaaJY
set_option linter.unusedVariables false
set_option linter.unusedSimpArgs false
namespace Go.Proofs.Ytcmpbablmofofaa
open Go.RowKit
section
variable [Inhabited BaseN]

/-- frames one behind the other, from a place on -/
def framesB (gen : Nat) : Nat → List (List UInt8) → List UInt8
  | _, [] => []
  | p, l :: r => frameB gen p l ++ framesB gen (p + 1) r
end
theorem framesB_snoc (gen : Nat) (l : List UInt8) : ∀ (L : List (List UInt8)) (p : Nat), framesB gen p (L ++ [l]) = framesB gen p L ++ frameB gen (p + L.length) l := by
  intro L
  induction L with
  | nil => intro p; show frameB gen p l ++ [] = [] ++ frameB gen (p + 0) l; simp
  | cons x r ih =>
    intro p
    show frameB gen p x ++ framesB gen (p + 1) (r ++ [l]) = (frameB gen p x ++ framesB gen (p + 1) r) ++ _
    rw [ih, List.append_assoc, List.length_cons]
    congr 3; omega
theorem framesB_len (gen : Nat) : ∀ (L : List (List UInt8)) (p : Nat), (framesB gen p L).length = usedOf L * 64 := by
  intro L
  induction L with
  | nil => intro p; rfl
  | cons x r ih =>
    intro p
    show (frameB gen p x ++ framesB gen (p + 1) r).length = _
    rw [List.length_append, ih, frameB_len, usedOf_cons]; omega
theorem usedOf_append (A B : List (List UInt8)) : usedOf (A ++ B) = usedOf A + usedOf B := by
  induction A with
  | nil => show usedOf B = 0 + usedOf B; omega
  | cons x r ih => rw [List.cons_append, usedOf_cons, usedOf_cons, ih]; omega
theorem usedOf_take (L : List (List UInt8)) (k : Nat) : usedOf (L.take k) ≤ usedOf L := by
  have h := usedOf_append (L.take k) (L.drop k)
  rw [List.take_append_drop] at h; omega
section
variable [Inhabited BaseN]
/-- a half's image -/
def imgB (gen H : Nat) (L : List (List UInt8)) : List UInt8 := framesB gen 0 L ++ noughts (H * 64 - usedOf L * 64)
def mvR (D : Dk) (gen half : Nat) (L : List (List UInt8)) : Int × Dk :=
  let p := D.writes (2 + half * hsz D) (secsOf (imgB gen (hsz D) L) (hsz D))
  if p.1 ≠ 0 then p else p.2.writes (gen % 2) (secsOf (slotB gen half) 1)
/-- a slot in a block of its own -/
def SlotAt (w : World) (sb gen half : Nat) : Prop := w.heap[sb]? = some (.cells #[.int .u64 gen, .int .i64 half] 93 (0, 0))
end
theorem SlotAt.keep {F : Nat → Prop} {w w' : World} {sb gen half : Nat} (h : SlotAt w sb gen half) (k : Keeps F w w') (hF : ¬ F sb) : SlotAt w' sb gen half := (k.block sb (lt_of_block h) hF).trans h
section
variable [Inhabited BaseN]
theorem SlotAt.noD {w : World} {sb gen half : Nat} (h : SlotAt w sb gen half) : ¬ DTy w sb := fun ⟨_, cs, t, r, h1, h2⟩ => by
  have h' : w.heap[sb]? = _ := h
  rw [h'] at h1
  injection h1 with h1
  injection h1 with _ h1 _
  subst h1
  revert h2; decide
theorem SlotAt.keepD {w w' : World} {sb gen half : Nat} (h : SlotAt w sb gen half) (k : KeepD w w') : SlotAt w' sb gen half := h.keep k h.noD
end
theorem SlotAt.c0 {w : World} {sb gen half : Nat} (h : SlotAt w sb gen half) : w.cell? ⟨sb, 0, none⟩ = some (.int .u64 gen) := by unfold World.cell?; have h' : w.heap[sb]? = _ := h; simp only [h']; rfl
theorem SlotAt.c1 {w : World} {sb gen half : Nat} (h : SlotAt w sb gen half) : w.cell? ⟨sb, 1, none⟩ = some (.int .i64 half) := by unfold World.cell?; have h' : w.heap[sb]? = _ := h; simp only [h']; rfl
theorem SlotAt.range {w : World} {sb gen half : Nat} (h : SlotAt w sb gen half) : w.rangeAt sb 0 [.int .u64 gen, .int .i64 half] := fun j u hu => by
  match j, hu with
  | 0, hu => simp at hu; subst hu; exact h.c0
  | 1, hu => simp at hu; subst hu; exact h.c1
  | j + 2, hu => simp at hu
theorem wpList_make_e {P : Program} {w : World} {ops : Array Oper} {rest : List Oper} {o : Oper} {a : Act} {Q : Exit → Act → World → Prop} (hgd : o.guard = none) (l c : Operand) (t : TypeId) (ho : o.op = .makeSlice t l c) (i : TypeInfo)
    (ht : P.underlying t = some (.slice 5)) (hi : P.info? 5 = some i) (hz : i.zero = some (.int .u8 0)) (hsize : i.size = 1) (hby : i.bytes = 1) (n : Nat) (C : Int) (hC : C = (n : Int)) (hl : a.eval l = .int .i64 0) (hc : a.eval c = .int .i64 C) (hn : n ≤ 1000000)
    (h : ∀ w', Hid (OwnB w w' (.slice (some ⟨w.heap.size, 0, none⟩) 0 n) []) → Hid (Keeps (fun _ => False) w w') → wpList P ops Q rest (a.put o.dst (.slice (some ⟨w.heap.size, 0, none⟩) 0 n)) w') : wpList P ops Q (o :: rest) a w :=
  wpList_plain hgd fun K hK => by
    subst hC
    obtain ⟨w', hrun, r1, r2⟩ := run_make_own (P := P) w 0 t 5 i (.int .u8 0) 1 ht hi hz hsize .i64 .i64 n (by rw [hby]; omega) (by unfold maxLen; omega) (Nat.zero_le _)
    unfold Oper.wp
    simp [execOp, ho, hl, hc, hrun, Result.andThen]
    refine hK _ _ (h w' (Lib.hid ⟨by simpa using r1, fun k e => ?_, r2.size⟩) (Lib.hid ((Keeps.refl _ _).grown r2 (fun k e => by cases e))))
    simp only [Value.ownBlock, Option.some.injEq] at e
    omega
section
variable [Inhabited BaseN]
set_option maxRecDepth 100000 in
set_option maxHeartbeats 8000000 in
theorem move_any (jb gen0 half0 gen half : Nat) (ev : Value) (used : Nat) (ended : Bool) (v : Value) (L : List (List UInt8)) (D : Dk) (w : World) (hJ : Hid (JHead w jb D.b gen0 half0 ev used ended)) (hD : Hid (DkAt D w)) (hv : Hid (EntsAt w v L)) (h4 : 4 ≤ D.n) (hh : half ≤ 1) (hg : gen < 18446744073709551616) (hl : Hid (∀ l ∈ L, 1 ≤ l.length ∧ l.length ≤ 8192)) (hu : usedOf L ≤ hsz D) (hL : L.length ≤ 100000) :
    Calls Try.prog 64 #[.pointer (some ⟨jb, 0, none⟩), .agg #[.int .u64 gen, .int .i64 half], v] w fun e w' => e = .returned (.int .i64 (mvR D gen half L).1) ∧ DkAt (mvR D gen half L).2 w' ∧ KeepD w w' := by
  obtain ⟨pv, cv, rfl⟩ := hv.out.slice
  have hn := hD.out.n1.2
  obtain ⟨i0, hi0, hi1, hi2, hi3⟩ := info_parts u8InfoAll
  obtain ⟨H, hH⟩ : ∃ H, hsz D = H := ⟨_, rfl⟩
  have hHl : 1 ≤ H ∧ H ≤ 511 := by rw [← hH]; unfold hsz; omega
  obtain ⟨S, hS⟩ : ∃ S, 2 + half * H = S := ⟨_, rfl⟩
  have hSl : S ≤ 600 := by
    have : half * H ≤ 1 * H := Nat.mul_le_mul_right H hh
    omega
  obtain ⟨T, hT⟩ : ∃ T, gen % 2 = T := ⟨_, rfl⟩
  have hTl : T ≤ 1 := by omega
  obtain ⟨I, hI⟩ : ∃ I, imgB gen H L = I := ⟨_, rfl⟩
  rw [hH] at hu
  have hIl : I.length = H * 64 := by
    rw [← hI]; unfold imgB; rw [List.length_append, framesB_len, noughts_len]; omega
  obtain ⟨pr, hpr⟩ : ∃ r, D.writes S (secsOf I H) = r := ⟨_, rfl⟩
  obtain ⟨pe, D1⟩ := pr
  have hres : Hid (mvR D gen half L = if pe ≠ 0 then (pe, D1) else D1.writes T (secsOf (slotB gen half) 1)) := Lib.hid (by
    unfold mvR
    rw [hH, hS, hI, hpr, hT])
  have hD1 : Hid (D1.b = D.b) := Lib.hid (by
    have h := D.writes_same S (secsOf I H)
    rw [hpr] at h; exact h.1)
  obtain ⟨w1, hw1⟩ : ∃ W, w.alloc (.cells #[.int .u64 gen, .int .i64 half] 93) = W := ⟨_, rfl⟩
  obtain ⟨sb, hsb⟩ : ∃ b, w.heap.size = b := ⟨_, rfl⟩
  have k1 : Hid (Keeps (fun _ => False) w w1) := Lib.hid (by rw [← hw1]; exact (Keeps.refl _ _).alloc _)
  have hS1 : Hid (SlotAt w1 sb gen half) := Lib.hid (by rw [← hw1, ← hsb]; exact heap_alloc_last w _)
  have hJ1 := Lib.hid (hJ.out.keep k1.out id)
  have hD1w := Lib.hid (hD.out.keep k1.out)
  have hv1 := Lib.hid (hv.out.keep k1.out)
  have hsz1 := Lib.hid (halfSize_any _ D w1 hD1w.out.own hn h4)
  rw [show (D.n - 2) / 2 = H from hH] at hsz1
  have hst := Lib.hid (fun W (k : Keeps (fun _ => False) w1 W) => by
    have h := halfStart_any _ D half hh W (hD1w.out.keep k).own hn h4
    rw [show 2 + half * ((D.n - 2) / 2) = S by rw [← hS, ← hH]; rfl] at h
    exact h)
  have c0 : (w.alloc (.cells #[.int .u64 gen, .int .i64 half] 93)).cell? ⟨jb, 0, none⟩ = some (.pointer (some ⟨D.b, 0, none⟩)) := by rw [hw1]; exact hJ1.out.c0
  have e1 : IntKind.i64.wrap ((H : Int) * 64) = (H : Int) * 64 := IntWalk.i64_in _ (by omega)
  have hpr' := Lib.hid hpr
  have hI' := Lib.hid hI
  have hw1' := Lib.hid hw1
  have hsb' := Lib.hid hsb
  clear hH hS hpr hI hw1 hsb
  go_enter Try.func64, Try.ntmps64
  go_wp2_with fail
  rw [hw1'.out, hsb'.out]
  refine hsz1.out.mono ?_
  rintro e w2 ⟨rfl, rfl⟩
  clear hsz1 c0
  clear hw1' hsb'
  go_wp2_with ((with_reducible refine at_slot 19 ?_); refine wpList_make_e rfl (.const (.int .i64 0)) (.tmp 18) 27 rfl i0 Try.underlying27 hi0 hi1 hi2 hi3 (H * 64) _ ?hC rfl rfl (by omega) ?_; rotate_right; intro w2 hO2 k12)
  case hC => push_cast; rfl
  have hb2 : Hid (∃ g, (some (⟨w1.heap.size, 0, none⟩ : Addr)) = some ⟨g, 0, none⟩) := Lib.hid ⟨_, rfl⟩
  generalize (some (⟨w1.heap.size, 0, none⟩ : Addr)) = p0 at hO2 hb2 ⊢
  go_loopw [22, 8] (fun iv bv_ wr => ∃ (k R g c : Nat), k ≤ L.length ∧ Hid (R = (framesB gen 0 (L.take k)).length) ∧ iv = .int .i64 k ∧ bv_ = .slice (some ⟨g, 0, none⟩) R c ∧ Hid (OwnB w1 wr bv_ (framesB gen 0 (L.take k))) ∧ Hid (Keeps (fun _ => False) w1 wr)) (fun iv _ _ => L.length - (intOf iv).toNat)
  case atStart =>
    obtain ⟨g, rfl⟩ := hb2.out
    exact ⟨0, 0, g, H * 64, by omega, Lib.hid rfl, rfl, rfl, hO2, k12⟩
  case round =>
    clear hO2 k12 hb2
    obtain ⟨k, R, g, c, hk, hR, rfl, rfl, hO, hK⟩ := hrel
    by_cases hlk : k < L.length
    · obtain ⟨l, hx⟩ : ∃ x, L[k]? = some x := ⟨_, List.getElem?_eq_getElem hlk⟩
      obtain ⟨gv, o, q, d, rfl, hc0, hb0⟩ := hv1.out.get hx
      have hc1 : wr.cell? ⟨gv, o + k, none⟩ = some (.slice q l.length d) := (hK.out.cell (p := ⟨gv, o + k, none⟩) (World.block_lt_of_cell? w1 _ hc0) id).trans hc0
      have hb1 := Lib.hid (hb0.keep hK.out)
      obtain ⟨s1, s2⟩ := hl.out l (List.mem_of_getElem? hx)
      have hF := Lib.hid (frame_any gen k hg (by omega) _ l s1 s2 wr hb1.out)
      have hst2 : Hid (L.take (k + 1) = L.take k ++ [l]) := Lib.hid (by
        obtain ⟨h2, e⟩ := List.getElem?_eq_some_iff.1 hx
        rw [List.take_succ_eq_append_getElem h2, e])
      have hut := usedOf_take L k
      have hfl := framesB_len gen (L.take k) 0
      obtain ⟨Y, hY⟩ : ∃ Y, framesB gen 0 (L.take k) = Y := ⟨_, rfl⟩
      rw [hY] at hO hR hfl
      have hYl : Y.length ≤ 100000 := by omega
      have hnext : Hid (framesB gen 0 (L.take (k + 1)) = Y ++ frameB gen k l) := Lib.hid (by
        rw [hst2.out, framesB_snoc, hY, List.length_take]; congr 2; omega)
      obtain ⟨Z, hZ⟩ : ∃ Z, frameB gen k l = Z := ⟨_, rfl⟩
      have hZl : 1 ≤ Z.length ∧ Z.length ≤ 100000 := by rw [← hZ, frameB_len]; unfold takes; omega
      rw [hZ] at hF hnext
      have m1 : (0 : Int) ≤ (k : Int) := by omega
      have m2 : (k : Int) < (L.length : Int) := by omega
      have hs0 : wr.cell? ⟨sb, 0, none⟩ = some (.int .u64 gen) := (hS1.out.keep hK.out id).c0
      have hRe := hR.out
      subst hRe
      clear hc0 hb0 hb1 hx hY hZ hfl hut hR
      go_wp2_with fail
      refine hF.out.mono ?_
      rintro e w2 ⟨gz, rfl, hgz, hB2, k2⟩
      have hO2 := Lib.hid (hO.out.keep k2 (fun _ _ f => f))
      have hZ2 := Lib.hid ((hB2.own (w0 := wr) hgz (by omega)).bytes)
      have hK2 := Lib.hid (hK.out.trans k2)
      clear k2 hB2 hgz hO hK hF hs0 hc1
      go_wp2_with ((with_reducible refine at_slot 33 ?_); go_must (refine wpList_append_b rfl (.tmp 27) (.tmp 32) 27 rfl i0 Try.underlying27 hi0 hi1 hi2 hi3 w1 _ Y rfl hO2.out _ rfl Z hZ2.out (by omega) ?_); intro q8 d8 w8 hO8 hg8)
      have hK8 := Lib.hid (Keeps.trans' hK2.out hg8.out.k (fun i e => .inr (hO2.out.2.1 i e)))
      obtain ⟨g8, rfl, -⟩ := hO8.out.ptr (by rw [List.length_append]; omega)
      exact ⟨⟨k + 1, _, g8, d8, by omega, Lib.hid (by rw [hnext.out, List.length_append]), by go_num, rfl, by rw [hnext.out]; exact hO8, hK8⟩, by simp [intOf]; omega⟩
    · obtain rfl : k = L.length := by omega
      rw [List.take_length] at hO hR
      rw [framesB_len] at hR
      have hR' := hR.out
      have hYl := framesB_len gen L 0
      have hII := hI'.out
      unfold imgB at hII
      rw [← hR'] at hII hYl
      obtain ⟨Y, hY⟩ : ∃ Y, framesB gen 0 L = Y := ⟨_, rfl⟩
      rw [hY] at hO hII hYl
      have e2 : IntKind.i64.wrap ((H : Int) * 64 - (R : Int)) = ((H * 64 - R : Nat) : Int) := by rw [IntWalk.i64_in _ (by omega)]; omega
      have hII' := Lib.hid hII
      have hJr := Lib.hid (hJ1.out.keep hK.out id)
      have hRl : R ≤ H * 64 := by omega
      have hYs : Y.length ≤ 100000 := by omega
      have hYl' := Lib.hid hYl
      clear hY hR hR' hII hI' hYl
      go_upto_region 9 with ((with_reducible refine at_slot 40 ?_); go_must (refine wpList_append_z rfl (.tmp 35) (.tmp 39) 27 3 9 rfl i0 Try.underlying27 Try.underlying3 Try.underlying9 hi0 hi1 hi2 hi3 w1 g _ _ Y rfl hO.out (H * 64 - R) rfl (by omega) (by omega) ?_); intro q8 d8 w8 hO8 hg8)
      have hK8 := Lib.hid (Keeps.trans' hK.out hg8.out.k (fun i e => .inr (hO.out.2.1 i e)))
      rw [hII'.out] at hO8
      have hN : Y.length + (H * 64 - R) = H * 64 := by have := hYl'.out; omega
      rw [hN] at hO8 ⊢
      obtain ⟨gb, rfl, hcb⟩ := hO8.out.ptr (by omega)
      have hJ8 := Lib.hid (hJ1.out.keep hK8.out id)
      have hD8 := Lib.hid (hD1w.out.keep hK8.out)
      have hS8 := Lib.hid (hS1.out.keep hK8.out id)
      have hk8 := Lib.hid (k1.out.trans hK8.out)
      have hst8 := Lib.hid (fun W (k : Keeps (fun _ => False) w8 W) => hst.out W (hK8.out.trans k))
      have hW := Lib.hid (fun W (k : Keeps (fun _ => False) w8 W) => writeSectors_any D S H gb 0 d8 I W (Lib.hid (hD8.out.keep k)) hIl hcb (by omega) (Lib.hid (by
            obtain ⟨g9, o9, e9, -, h9⟩ := (hO8.out.keep k (fun _ _ f => f)).bytes.open (by omega)
            injection e9 with e9; injection e9 with e91 e92
            subst e91; subst e92; exact h9)) (Lib.hid ((hO8.out.keep k (fun _ _ f => f)).noD rfl)))
      rw [hpr'.out, hIl] at hW
      have hk0 : Keeps (fun _ => False) w8 w8.drew := (Keeps.refl _ _).drew
      clear hO hg8 hK hK8 hO8 hII' hYl' hYs hN hJr hst e2 hJ1 hD1w hS1 hv1 k1 hJ hD hv hpr' hIl hcb hl
      clear hRl
      refine wp_region_noPanic ?_
      refine wp_region_held_drew (S := (fun W => KeepD w8 W)) (by kernel_rfl) ((KeepD.of ((Keeps.refl _ _).drew))) (fun hHeld => ?_)
      refine tk 0 rfl ?_
      refine tk 1 rfl ?_
      refine tk 2 rfl ?_
      refine tkL 3 rfl (yieldsIf_load_cell (by rfl) 23 (.tmp 43) rfl jb 0 rfl _ (fun _ s => (hJ8.out.keepD s).c0) (fun w s => load_dskp w _ _ _ s)) ?_
      refine tk 4 rfl ?_
      refine tk 5 rfl ?_
      refine tk 6 rfl ?_
      refine tkL 7 rfl (yieldsIf_load_cell (by rfl) 23 (.tmp 47) rfl jb 0 rfl _ (fun _ s => (hJ8.out.keepD s).c0) (fun w s => load_dskp w _ _ _ s)) ?_
      refine tk 8 rfl ?_
      refine tkL 9 rfl (yieldsIf_load_cell (by rfl) 3 (.tmp 49) rfl sb 1 rfl _ (fun _ s => (hS8.out.keepD s).c1) (fun w s => load_int w _ _ _ s)) ?_
      refine tk 11 rfl ?_
      refine stepL 10 rfl (by kernel_rfl) (fun K hK => ?_)
      go_simp
      (refine (hst8.out _ hk0).mono ?_; rintro x w9 ⟨rfl, rfl⟩)
      go_wp2_with fail
      refine hK.out _ _ (hHeld) (fun hHeld => ?_)
      clear hK K
      try simp only [Act.put, sA, sZ, sS]
      refine stepL 12 rfl (by kernel_rfl) (fun K hK => ?_)
      go_simp
      (refine (hW.out _ hk0).mono ?_; rintro x w9 ⟨rfl, hD9, hk9⟩; have hD9' := Lib.hid hD9; have hk9' := Lib.hid ((KeepD.of hk0).trans hk9); clear hD9 hk9)
      go_wp2_with fail
      refine hK.out _ _ (hk9'.out) (fun hHeld => ?_)
      clear hK K
      try simp only [Act.put, sA, sZ, sS]
      refine tk 13 rfl ?_
      refine wpAnyH_done (by kernel_rfl) (NoPanic.normal ?_) _
      clear hHeld hW hst8 hk0
      have hJ9 := Lib.hid (hJ8.out.keepD hk9'.out)
      have hS9 := Lib.hid (hS8.out.keepD hk9'.out)
      have hk9 := Lib.hid ((KeepD.of hk8.out).trans hk9'.out)
      clear hk9' hJ8 hS8 hk8 hD8
      by_cases hpe : pe = 0
      · subst hpe
        have hresC : Hid (mvR D gen half L = D1.writes T (secsOf (slotB gen half) 1)) := Lib.hid (by rw [hres.out, if_neg (by simp)])
        clear hres
        have hsA := Lib.hid (fun W => slotAt_any gen (.int .i64 (half : Int)) hg W)
        rw [hT] at hsA
        have hse := Lib.hid (fun W => sector_any gen half hg hh W)
        have hsl : (slotB gen half).length = 64 := slotB_len gen half
        have hW := Lib.hid (fun W (k : Keeps (fun _ => False) w9 W) (g : Nat) (hO : OwnB w9 W (.slice (some ⟨g, 0, none⟩) 64 64) (slotB gen half)) => writeSectors_any D1 T 1 g 0 64 (slotB gen half) W (Lib.hid (hD9'.out.keep k)) (by rw [hsl]) (by rw [hsl]; omega) (by omega) (Lib.hid (by
          obtain ⟨g9, o9, e9, -, h9⟩ := hO.bytes.open (by rw [hsl]; omega)
          injection e9 with e9; injection e9 with e91 e92
          subst e91; subst e92; exact h9)) (Lib.hid (hO.noD rfl)))
        rw [hD1.out, hsl] at hW
        have hsl' := Lib.hid hsl
        clear hsl
        go_upto_region 12 with fail
        have hk0 : Keeps (fun _ => False) w9 w9.drew := (Keeps.refl _ _).drew
        refine wp_region_noPanic ?_
        refine wp_region_held_drew (S := (fun W => KeepD w9 W)) (by kernel_rfl) ((KeepD.of ((Keeps.refl _ _).drew))) (fun hHeld => ?_)
        refine tk 0 rfl ?_
        refine tk 1 rfl ?_
        refine tk 2 rfl ?_
        refine tkL 3 rfl (yieldsIf_load_cell (by rfl) 23 (.tmp 59) rfl jb 0 rfl _ (fun _ s => (hJ9.out.keepD s).c0) (fun w s => load_dskp w _ _ _ s)) ?_
        refine tkL 4 rfl (yieldsIf_load_mid (by rfl) 93 (.tmp 4) rfl sb 0 rfl [.int .u64 gen, .int .i64 half] _ (fun _ s => (hS9.out.keepD s).range) Try.underlying93 rfl slotInfo) ?_
        refine tkL 6 rfl (yieldsIf_load_mid (by rfl) 93 (.tmp 4) rfl sb 0 rfl [.int .u64 gen, .int .i64 half] _ (fun _ s => (hS9.out.keepD s).range) Try.underlying93 rfl slotInfo) ?_
        refine stepL 5 rfl (by kernel_rfl) (fun K hK => ?_)
        go_simp
        (refine (hsA.out _).mono ?_; rintro x w6 ⟨rfl, k6⟩; have hk6 := Lib.hid (hk0.trans k6); clear k6)
        go_wp2_with fail
        refine hK.out _ _ ((KeepD.of hk6.out)) (fun hHeld => ?_)
        clear hK K
        try simp only [Act.put, sA, sZ, sS]
        refine stepL 7 rfl (by kernel_rfl) (fun K hK => ?_)
        go_simp
        (refine (hse.out _).mono ?_; rintro x w7 ⟨g, rfl, hg7, hB7, k7⟩; have hk7 := Lib.hid (hk6.out.trans k7); have hO7 := Lib.hid (hB7.own (w0 := w9) (Nat.le_trans hk6.out.size hg7) (by rw [hsl'.out]; omega)); rw [hsl'.out] at hO7 ⊢; clear k7 hB7 hg7)
        go_wp2_with fail
        refine hK.out _ _ ((KeepD.of hk7.out)) (fun hHeld => ?_)
        clear hK K
        try simp only [Act.put, sA, sZ, sS]
        refine stepL 8 rfl (by kernel_rfl) (fun K hK => ?_)
        go_simp
        (refine (hW.out _ hk7.out _ hO7.out).mono ?_; rintro x w8 ⟨rfl, hD8, hk8⟩; have hD8' := Lib.hid hD8; have hk8' := Lib.hid ((KeepD.of hk7.out).trans hk8); clear hD8 hk8)
        go_wp2_with fail
        refine hK.out _ _ (hk8'.out) (fun hHeld => ?_)
        clear hK K
        try simp only [Act.put, sA, sZ, sS]
        refine tk 9 rfl ?_
        refine wpAnyH_done (by kernel_rfl) (NoPanic.normal ?_) _
        clear hHeld
        go_wp2_with fail
        go_ret
        exact ⟨by rw [hresC.out]; rfl, by rw [hresC.out]; exact hD8'.out, hk9.out.trans hk8'.out⟩
      · have hresC : Hid (mvR D gen half L = (pe, D1)) := Lib.hid (by rw [hres.out, if_pos hpe])
        go_wp2_with fail
        go_ret
        exact ⟨by rw [hresC.out]; rfl, by rw [hresC.out]; exact hD9'.out, hk9.out⟩
end
end Go.Proofs.Ytcmpbablmofofaa
