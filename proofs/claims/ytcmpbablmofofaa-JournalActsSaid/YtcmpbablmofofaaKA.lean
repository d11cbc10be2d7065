/- Compact. -/
import Derived.Test.YtcmpbablmofofaaJZ
set_option linter.unusedVariables false
set_option linter.unusedSimpArgs false
namespace Go.Proofs.Ytcmpbablmofofaa
open Go.RowKit
section
variable [Inhabited BaseN]

/-- what Compact answers, and what it makes: disk, slot, entries, ended -/
def cpR (D : Dk) (gen half : Nat) (L0 L : List (List UInt8)) : Int × Dk × (Nat × Nat) × List (List UInt8) × Bool :=
  if L.all allowedB = false then (1, D, (gen, half), L0, false) else if hsz D < usedOf L ∨ gen = 18446744073709551615 then (5, D, (gen, half), L0, false) else
  if (mvR D (gen + 1) (1 - half) L).1 = 0 then (0, (mvR D (gen + 1) (1 - half) L).2, (gen + 1, 1 - half), L, false) else ((mvR D (gen + 1) (1 - half) L).1, (mvR D (gen + 1) (1 - half) L).2, (gen, half), [], true)
def CpPost (w0 : World) (jb : Nat) (r : Int × Dk × (Nat × Nat) × List (List UInt8) × Bool) (w : World) (x : Ending) (w' : World) : Prop :=
  x = .returned (.int .i64 r.1) ∧ ∃ ev', JAt w0 w' jb r.2.1 r.2.2.1.1 r.2.2.1.2 ev' r.2.2.2.1 r.2.2.2.2 ∧ Keeps (fun k => DTy w k ∨ k = jb) w w'
end
theorem JHead.setS {w : World} {jb db gen half : Nat} {ev : Value} {used : Nat} {ended : Bool} (h : JHead w jb db gen half ev used ended) (g2 h2 : Nat) : JHead (w.setCells jb 1 [.int .u64 g2, .int .i64 h2]) jb db g2 h2 ev used ended := by
  have e1 := heap_put h.hd 1 (.int .u64 g2)
  have e2 := heap_put e1 2 (.int .i64 h2)
  refine ⟨?_⟩
  show ((w.setCell ⟨jb, 1, none⟩ (.int .u64 g2)).setCell ⟨jb, 2, none⟩ (.int .i64 h2)).heap[jb]? = _
  simpa using e2
theorem JHead.there1 {w : World} {jb db gen half : Nat} {ev : Value} {used : Nat} {ended : Bool} (h : JHead w jb db gen half ev used ended) : w.there jb 1 2 := fun j hj => by
  match j, hj with
  | 0, _ => exact ⟨by rw [show 1 + 0 = 1 from rfl, h.c1]; rfl, h.fr 1⟩
  | 1, _ => exact ⟨by rw [show 1 + 1 = 2 from rfl, h.c2]; rfl, h.fr 2⟩
  | j + 2, hj => omega
theorem SlotAt.there {w : World} {sb gen half : Nat} (h : SlotAt w sb gen half) : w.there sb 0 2 := fun j hj => by
  have h' : w.heap[sb]? = _ := h
  match j, hj with
  | 0, _ => exact ⟨by rw [show 0 + 0 = 0 from rfl, h.c0]; rfl, by simp [World.frozen?, h']⟩
  | 1, _ => exact ⟨by rw [show 0 + 1 = 1 from rfl, h.c1]; rfl, by simp [World.frozen?, h']⟩
  | j + 2, hj => omega
theorem SlotAt.made (w : World) (a b : Value) (g h : Nat) : SlotAt ((w.alloc (.cells #[a, b] 93)).setCells w.heap.size 0 [.int .u64 g, .int .i64 h]) w.heap.size g h := by
  have e0 := heap_alloc_last w (.cells #[a, b] 93)
  have e1 := heap_put e0 0 (.int .u64 g)
  have e2 := heap_put e1 1 (.int .i64 h)
  show (((w.alloc (.cells #[a, b] 93)).setCell ⟨w.heap.size, 0, none⟩ (.int .u64 g)).setCell ⟨w.heap.size, 1, none⟩ (.int .i64 h)).heap[w.heap.size]? = _
  simpa using e2
theorem usedOf_ge (L : List (List UInt8)) : L.length ≤ usedOf L := by
  induction L with
  | nil => exact Nat.zero_le _
  | cons x r ih => rw [usedOf_cons, List.length_cons]; have : 1 ≤ takes x.length := by (unfold takes; omega)
                   omega
theorem mvR_same (D : Dk) (gen half : Nat) (L : List (List UInt8)) : (mvR D gen half L).2.b = D.b := by
  unfold mvR
  simp only
  split
  · exact (D.writes_same _ _).1
  · exact ((Dk.writes_same _ _ _).1).trans (D.writes_same _ _).1
section
variable [Inhabited BaseN]
set_option maxRecDepth 100000 in
set_option maxHeartbeats 8000000 in
theorem compact_any (w0 : World) (jb gen half : Nat) (ev : Value) (L0 : List (List UInt8)) (D : Dk) (v : Value) (L : List (List UInt8)) (w : World) (hJ : Hid (JAt w0 w jb D gen half ev L0 false)) (hv : Hid (EntsT w v L)) (hl : Hid (∀ l ∈ L, l.length ≤ 1000000)) (hL : L.length ≤ 100000)
    (h4 : 4 ≤ D.n) (hh : half ≤ 1) (hg : gen < 18446744073709551616) :
    Calls Try.prog 31 #[.pointer (some ⟨jb, 0, none⟩), v] w (CpPost w0 jb (cpR D gen half L0 L) w) := by
  obtain ⟨pv, cv, rfl⟩ := hv.out.slice
  have hvA := Lib.hid hv.out.at
  have hn := hJ.out.dk.n1.2
  have hst := Lib.hid (jstate_any jb D.b gen half _ (usedOf L0) false w hJ.out.head)
  obtain ⟨H, hH⟩ : ∃ H, hsz D = H := ⟨_, rfl⟩
  have hHl : 1 ≤ H ∧ H ≤ 511 := by rw [← hH]; unfold hsz; omega
  have hsz1 := Lib.hid (fun W (k : Keeps (fun _ => False) w W) => by
    have h := halfSize_any _ D W (hJ.out.dk.keep k).own hn h4
    rw [show (D.n - 2) / 2 = H from hH] at h
    exact h)
  have hH' := Lib.hid hH
  clear hH
  go_enter Try.func31, Try.ntmps31
  go_wp2_with fail
  refine hst.out.mono ?_
  rintro e wz ⟨rfl, rfl⟩
  clear hst
  go_wp2_with fail
  go_loopw [18, 6] (fun iv sv wr => ∃ (k U : Nat), k ≤ L.length ∧ iv = .int .i64 k ∧ sv = .int .i64 U ∧ Hid (U = usedOf (L.take k)) ∧ U ≤ k * 200 ∧ Hid ((L.take k).all allowedB = true) ∧ w = wr) (fun iv _ _ => L.length - (intOf iv).toNat)
  case atStart => exact ⟨0, 0, by omega, rfl, rfl, Lib.hid rfl, by omega, Lib.hid rfl, rfl⟩
  case round =>
    obtain ⟨k, U, hk, rfl, rfl, hU, hUk, hA, rfl⟩ := hrel
    by_cases hlk : k < L.length
    · obtain ⟨l, hx⟩ : ∃ x, L[k]? = some x := ⟨_, List.getElem?_eq_getElem hlk⟩
      obtain ⟨gv, o, q, d, rfl, hc0, hb0⟩ := hvA.out.get hx
      have s1 := hl.out l (List.mem_of_getElem? hx)
      have hst2 : Hid (L.take (k + 1) = L.take k ++ [l]) := Lib.hid (by
        obtain ⟨h2, e⟩ := List.getElem?_eq_some_iff.1 hx
        rw [List.take_succ_eq_append_getElem h2, e])
      have hmem : Hid (l ∈ L) := Lib.hid (List.mem_of_getElem? hx)
      have m1 : (0 : Int) ≤ (k : Int) := by omega
      have m2 : (k : Int) < (L.length : Int) := by omega
      have hal := Lib.hid (fun W => allowed_any q l.length d W)
      obtain ⟨al, hal2⟩ : ∃ al, decide (1 ≤ l.length ∧ l.length ≤ 8192) = al := ⟨_, rfl⟩
      rw [hal2] at hal
      have hal3 : Hid (allowedB l = al) := Lib.hid hal2
      clear hb0 hx
      go_wp2_with fail
      refine (hal.out _).mono ?_
      rintro e wz ⟨rfl, rfl⟩
      clear hal
      cases al with
      | false =>
        have hres : Hid (cpR D gen half L0 L = (1, D, (gen, half), L0, false)) := Lib.hid (by
          unfold cpR
          rw [if_pos]
          rw [List.all_eq_false]
          exact ⟨l, hmem.out, by rw [hal3.out]; decide⟩)
        go_wp2_with fail
        go_ret
        rw [CpPost, hres.out]
        exact ⟨rfl, _, hJ.out, Keeps.refl _ _⟩
      | true =>
        have hl2 : 1 ≤ l.length ∧ l.length ≤ 8192 := by simpa using hal2
        have hTk := Lib.hid (fun W => takes_any l.length s1 W)
        obtain ⟨T, hT⟩ : ∃ T, takes l.length = T := ⟨_, rfl⟩
        have hTl : T ≤ 200 := by rw [← hT]; unfold takes; omega
        rw [hT] at hTk
        have hT' := Lib.hid hT
        have e1 : IntKind.i64.wrap ((U : Int) + (T : Int)) = ((U + T : Nat) : Int) := by rw [IntWalk.i64_in _ (by omega)]; omega
        clear hT hal2
        go_wp2_with fail
        refine (hTk.out _).mono ?_
        rintro e wz ⟨rfl, rfl⟩
        go_wp2_with fail
        exact ⟨⟨k + 1, U + T, by omega, by go_num, rfl, Lib.hid (by rw [hst2.out, usedOf_snoc, hU.out, hT'.out]), by omega, Lib.hid (by rw [hst2.out, List.all_append, hA.out]; simp [hal3.out]), by trivial⟩, by simp [intOf]; omega⟩
    · obtain rfl : k = L.length := by omega
      rw [List.take_length] at hU hA
      have c0 := hJ.out.head.c0
      have c1 := hJ.out.head.c1
      have c2 := hJ.out.head.c2
      go_wp2_with fail
      refine (hsz1.out _ (Keeps.refl _ _)).mono ?_
      rintro e wz ⟨rfl, rfl⟩
      clear hsz1
      by_cases hfull : H < U
      · have l1 : (H : Int) < (U : Int) := by omega
        have hres : Hid (cpR D gen half L0 L = (5, D, (gen, half), L0, false)) := Lib.hid (by
          unfold cpR
          rw [if_neg (by rw [hA.out]; decide), if_pos (.inl (by rw [hH'.out, ← hU.out]; exact hfull))])
        go_wp2_with fail
        go_ret
        rw [CpPost, hres.out]
        exact ⟨rfl, _, hJ.out, Keeps.refl _ _⟩
      · have l1 : ¬ ((H : Int) < (U : Int)) := by omega
        by_cases hgm : gen = 18446744073709551615
        · have hres : Hid (cpR D gen half L0 L = (5, D, (gen, half), L0, false)) := Lib.hid (by
            unfold cpR
            rw [if_neg (by rw [hA.out]; decide), if_pos (.inr hgm)])
          subst hgm
          go_wp2_with fail
          go_ret
          rw [CpPost, hres.out]
          exact ⟨rfl, _, hJ.out, Keeps.refl _ _⟩
        · have hgn : ¬ ((gen : Int) = 18446744073709551615) := by omega
          have hres : Hid (cpR D gen half L0 L = if (mvR D (gen + 1) (1 - half) L).1 = 0 then (0, (mvR D (gen + 1) (1 - half) L).2, (gen + 1, 1 - half), L, false) else ((mvR D (gen + 1) (1 - half) L).1, (mvR D (gen + 1) (1 - half) L).2, (gen, half), [], true)) := Lib.hid (by
            unfold cpR
            rw [if_neg (by rw [hA.out]; decide), if_neg (by rw [hH'.out, ← hU.out]; omega)])
          have e1 : IntKind.u64.wrap ((gen : Int) + 1) = ((gen + 1 : Nat) : Int) := by rw [IntKind.wrap_u64]; omega
          have e2 : IntKind.i64.wrap (1 - (half : Int)) = ((1 - half : Nat) : Int) := by rw [IntWalk.i64_in _ (by omega)]; omega
          go_upto_region 14 with fail
          have hk0 : Keeps (fun _ => False) w w.drew := (Keeps.refl _ _).drew
          refine wp_region_noPanic ?_
          refine wp_region_held_drew (S := (fun W => Keeps (fun _ => False) w W)) (by kernel_rfl) (((Keeps.refl _ _).drew)) (fun hHeld => ?_)
          refine tk 0 rfl ?_
          refine tk 1 rfl ?_
          refine tk 2 rfl ?_
          refine tk 3 rfl ?_
          refine tkL 4 rfl (yieldsIf_load_cell (by rfl) 42 (.tmp 49) rfl jb 1 rfl _ (fun _ s => (hJ.out.head.keep s id).c1) (fun w s => load_u64 w _ _ _ s)) ?_
          refine tk 5 rfl ?_
          refine tk 6 rfl ?_
          refine tk 7 rfl ?_
          refine tk 8 rfl ?_
          refine tk 9 rfl ?_
          refine tkL 10 rfl (yieldsIf_load_cell (by rfl) 3 (.tmp 55) rfl jb 2 rfl _ (fun _ s => (hJ.out.head.keep s id).c2) (fun w s => load_int w _ _ _ s)) ?_
          refine tk 11 rfl ?_
          refine tk 12 rfl ?_
          refine stepL 13 rfl (by kernel_rfl) (fun K hK => ?_)
          go_simp
          refine hK.out _ _ ((hHeld.alloc _)) (fun hHeld => ?_)
          clear hK K
          try simp only [Act.put, sA, sZ, sS]
          have hth : Hid (World.there ((w.alloc (.cells #[.int .u64 0, .int .i64 0] 93)).drew) w.heap.size 0 2) := Lib.hid (SlotAt.there (gen := 0) (half := 0) (heap_alloc_last w.drew _))
          refine stepL 14 rfl (by kernel_rfl) (fun K hK => ?_)
          rw [if_pos (by rfl)]
          (refine wp_store_mid 93 (.tmp 9) (.tmp 58) rfl w.heap.size 0 #[.int .u64 ((gen + 1 : Nat) : Int), .int .i64 ((1 - half : Nat) : Int)] rfl rfl hth.out slotInfo (by simp [Value.oneCell']) ?_)
          refine hK.out _ _ ((Keeps.setCells (.inr (Nat.le_refl _)) _ _ _ hHeld)) (fun hHeld => ?_)
          clear hK K
          try simp only [Act.put, sA, sZ, sS]
          refine wpAnyH_done (by kernel_rfl) (NoPanic.normal ?_) _
          have hS2 : Hid (SlotAt ((w.alloc (.cells #[.int .u64 0, .int .i64 0] 93)).drew.setCells w.heap.size 0 [.int .u64 ((gen + 1 : Nat) : Int), .int .i64 ((1 - half : Nat) : Int)]) w.heap.size (gen + 1) (1 - half)) := Lib.hid (SlotAt.made w.drew _ _ _ _)
          have hk2 := Lib.hid hHeld
          generalize hgz : ((w.alloc (.cells #[.int .u64 0, .int .i64 0] 93)).drew.setCells w.heap.size 0 [.int .u64 ((gen + 1 : Nat) : Int), .int .i64 ((1 - half : Nat) : Int)]) = w2 at hS2 hk2 ⊢
          clear hgz hHeld hth hk0
          generalize w.heap.size = sb at hS2 ⊢
          have hJ2 := Lib.hid (hJ.out.head.keep hk2.out id)
          have hD2 := Lib.hid (hJ.out.dk.keep hk2.out)
          have hv2 := Lib.hid (hv.out.keep hk2.out)
          have hlA : Hid (∀ l ∈ L, 1 ≤ l.length ∧ l.length ≤ 8192) := Lib.hid (fun l hl => by
            have h := List.all_eq_true.1 hA.out l hl
            unfold allowedB at h
            exact of_decide_eq_true h)
          have hUl : usedOf L ≤ hsz D := by rw [hH'.out, ← hU.out]; omega
          have hM := Lib.hid (move_any jb gen half (gen + 1) (1 - half) _ _ _ _ L D w2 hJ2 hD2 (Lib.hid hv2.out.at) h4 (by omega) (by omega) hlA hUl hL)
          obtain ⟨mr, hmr⟩ : ∃ r, mvR D (gen + 1) (1 - half) L = r := ⟨_, rfl⟩
          have hD1 := mvR_same D (gen + 1) (1 - half) L
          rw [hmr] at hM hres hD1
          obtain ⟨me, D1⟩ := mr
          have hD1' : Hid (D1.b = D.b) := Lib.hid hD1
          have hw0 : Hid (w0.heap.size ≤ w.heap.size) := Lib.hid (by
            obtain ⟨vs, -, h2, -⟩ := hJ.out.ents
            exact h2.2.2)
          have hUL := Lib.hid hUl
          clear hmr hD1 hUl c0 c1 c2 e1 e2
          go_wp2_with ((with_reducible refine at_slot 60 ?_); refine wpList_load_mid rfl 93 (.tmp 9) rfl sb 0 rfl [.int .u64 ((gen + 1 : Nat) : Int), .int .i64 ((1 - half : Nat) : Int)] _ hS2.out.range Try.underlying93 rfl slotInfo ?_)
          refine hM.out.mono ?_
          rintro e w3 ⟨rfl, hD3, k23⟩
          have hD3' := Lib.hid hD3
          have hJ3 := Lib.hid (hJ2.out.keepD k23)
          have hS3 := Lib.hid (hS2.out.keepD k23)
          have hv3 := Lib.hid (hv2.out.keepD k23)
          have hk3 := Lib.hid ((KeepD.of hk2.out).trans k23)
          clear hD3 k23 hM hS2 hJ2 hD2 hv2 hk2
          by_cases hme : me = 0
          · subst hme
            have hresC : Hid (cpR D gen half L0 L = (0, D1, (gen + 1, 1 - half), L, false)) := Lib.hid (by rw [hres.out, if_pos rfl])
            clear hres
            have hth := Lib.hid hJ3.out.there1
            go_wp2_with (first | ((with_reducible refine at_slot 69 ?_); refine wpList_load_mid rfl 93 (.tmp 9) rfl sb 0 rfl [.int .u64 ((gen + 1 : Nat) : Int), .int .i64 ((1 - half : Nat) : Int)] _ hS3.out.range Try.underlying93 rfl slotInfo ?_) | ((with_reducible refine at_store 71 ?_); refine wpList_store_named rfl 93 (.tmp 71) (.tmp 69) rfl jb 1 #[.int .u64 ((gen + 1 : Nat) : Int), .int .i64 ((1 - half : Nat) : Int)] rfl rfl hth.out slotInfo (by simp [Value.oneCell']) ?_; intro w4 hw4))
            have hJ4 : Hid (JHead w4 jb D.b (gen + 1) (1 - half) ev (usedOf L0) false) := Lib.hid (by rw [hw4.out]; exact hJ3.out.setS _ _)
            have k34 : Keeps (fun k => k = jb) w3 w4 := by rw [hw4.out]; exact Keeps.setCells (F := fun k => k = jb) (.inl rfl) _ _ _ (Keeps.refl _ _)
            have hk4 : Hid (Keeps (fun k => DTy w k ∨ k = jb) w w4) := Lib.hid (by
              have hm : Keeps (fun k => DTy w k ∨ k = jb) w w3 := Keeps.mono hk3.out (fun i hi => .inl (.inl hi))
              exact Keeps.trans' hm k34 (fun i e => .inl (.inr e)))
            have hD4 := Lib.hid (hD3'.out.keepF k34 (fun i e hd => by subst e; exact hJ3.out.noD hd))
            have hv4 := Lib.hid (hv3.out.keepF k34 (fun i hi ⟨cs, t, r, a, b⟩ => by
              subst hi
              rw [hJ3.out.hd] at a
              injection a with a
              injection a with _ a _
              subst a
              revert b; decide))
            clear hw4 k34 hth hJ3 hS3 hv3 hk3 hD3'
            refine (clones_any _ L w4 (Lib.hid hv4.out.at) (by omega) (Lib.hid (fun l hl => by have := hlA.out l hl; omega))).mono ?_
            rintro e w5 ⟨pl, cl, rfl, hE5, k45⟩
            have hk5 := Lib.hid (hk4.out.trans' k45 (fun i f => f.elim))
            have hJ5 := Lib.hid (hJ4.out.keep k45 id)
            have hD5 := Lib.hid (hD4.out.keep k45)
            have hne : Hid (∀ i, (Value.slice pl L.length cl).ownBlock = some i → i ≠ jb) := Lib.hid (fun i e f => by
              obtain ⟨vs, e1, e2, -⟩ := hE5
              have h1 := e2.2.1 i e
              have h2 := lt_of_block hJ4.out.hd
              omega)
            have hE5' := Lib.hid (hE5.older (Nat.le_trans hw0.out hk4.out.size))
            have hLu : L.length ≤ usedOf L := usedOf_ge L
            have hsL : usedOf L ≤ 511 := Nat.le_trans hUL.out (by rw [hH'.out]; omega)
            have hH5 := Lib.hid (hold_any jb D.b (gen + 1) (1 - half) _ _ false _ L w5 hJ5 (Lib.hid hE5'.out.at) (by omega) (Lib.hid (fun l hl => by have := hlA.out l hl; omega)) hne)
            clear hE5 k45 hJ4 hk4 hD4 hv4 hLu hsL
            go_wp2_with fail
            refine hH5.out.mono ?_
            rintro e w6 ⟨rfl, hJ6, k56⟩
            have hJ6' := Lib.hid hJ6
            have hE6 := Lib.hid (hE5'.out.keepF k56 (fun i hi ⟨cs, t, r, a, b⟩ => by
              subst hi
              rw [hJ5.out.hd] at a
              injection a with a
              injection a with _ a _
              subst a
              revert b; decide))
            have hk6 := Lib.hid (hk5.out.trans' k56 (fun i e => .inl (.inr e)))
            have hD6 := Lib.hid (hD5.out.keepF k56 (fun i hi a => by subst hi; exact hJ5.out.noD a))
            clear hJ6 k56 hH5 hJ5 hE5' hk5 hD5 hne
            go_wp2_with fail
            go_ret
            rw [CpPost, hresC.out]
            exact ⟨rfl, _, ⟨by rw [hD1'.out]; exact hJ6'.out, hE6.out, hD6.out⟩, hk6.out⟩
          · have hresC : Hid (cpR D gen half L0 L = (me, D1, (gen, half), [], true)) := Lib.hid (by rw [hres.out, if_neg hme])
            go_wp2_with fail
            refine (jend_any jb D.b gen half _ _ _ me w3 hJ3.out).mono ?_
            rintro e w4 ⟨rfl, hJ4, k34⟩
            have hJ4' := Lib.hid hJ4
            have hk4 : Hid (Keeps (fun k => DTy w k ∨ k = jb) w w4) := Lib.hid (by
              have hm : Keeps (fun k => DTy w k ∨ k = jb) w w3 := Keeps.mono hk3.out (fun i hi => .inl (.inl hi))
              exact Keeps.trans' hm k34 (fun i e => .inl (.inr e)))
            have hD4 := Lib.hid (hD3'.out.keepF k34 (fun i e hd => by subst e; exact hJ3.out.noD hd))
            clear k34 hJ4
            go_wp2_with fail
            go_ret
            rw [CpPost, hresC.out]
            exact ⟨rfl, _, ⟨by rw [hD1'.out]; exact hJ4'.out, OwnE.nil _ _ (Nat.le_trans hw0.out hk4.out.size), hD4.out⟩, hk4.out⟩
end
end Go.Proofs.Ytcmpbablmofofaa
