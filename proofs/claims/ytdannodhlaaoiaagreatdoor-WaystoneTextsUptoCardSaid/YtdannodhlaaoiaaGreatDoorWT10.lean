/- Lines in memory; conf.Right, walked. -/
import Derived.Test.YtdannodhlaaoiaaGreatDoorWT09
set_option linter.unusedVariables false
set_option linter.unusedSimpArgs false
namespace Go.Proofs.YtdannodhlaaoiaaGreatDoor
open Go.RowKit

theorem lineInfo : (Tryz.prog.info? 50).map (·.size) = some 4 := by kernel_rfl
def lineVals (l : LineD) : List Value := [.int .i64 l.head, strv l.name, strv l.leaf, strv l.value]
/-- lines in memory -/
def LinesAt (w : World) (v : Value) (ls : List LineD) : Prop := ∃ p c, v = .slice p ls.length c ∧ (0 < ls.length → ∃ g o, p = some ⟨g, o, none⟩ ∧ ∀ i l, ls[i]? = some l → w.rangeAt g (o + i * 4) (lineVals l))
theorem LinesAt.keep {F : Nat → Prop} {w w' : World} {v : Value} {ls : List LineD} (h : LinesAt w v ls) (k : Keeps F w w') (hF : 0 < ls.length → ∀ i, v.ownBlock = some i → ¬ F i) : LinesAt w' v ls := by
  obtain ⟨p, c, rfl, h⟩ := h
  refine ⟨p, c, rfl, fun h0 => ?_⟩
  obtain ⟨g, o, rfl, hr⟩ := h h0
  exact ⟨g, o, rfl, fun i l hl => k.rangeAt (hr i l hl) (hF h0 g rfl)⟩
/-- may lines be a configuration, from line k on -/
def riseB (ls : List LineD) : Nat → Bool
  | 0 => true
  | k + 1 => riseB ls k && (match ls[k]? with
    | some l => lineB l && (match k with
      | 0 => true
      | j + 1 => match ls[j]? with
        | some q => lessB q l
        | none => false)
    | none => false)
def rightC (ls : List LineD) : Bool := decide (ls.length ≤ 64) && riseB ls ls.length
theorem riseB_le {ls : List LineD} {k : Nat} (h : riseB ls k = false) : ∀ n, k ≤ n → riseB ls n = false := by
  intro n hn
  induction n with
  | zero => obtain rfl : k = 0 := by omega
            exact h
  | succ n ih =>
    by_cases e : k = n + 1
    · subst e; exact h
    · unfold riseB; rw [ih (by omega)]; rfl
theorem line_one (a : Int) (n f v : ByteArray) : (#[.int .i64 a, .string n, .string f, .string v] : Array Value).all (·.oneCell') = true := by simp; exact ⟨rfl, rfl, rfl, rfl⟩

/-- what a round's region keeps -/
structure RnS (Bt gt B : Nat) (L : List Value) (g o : Nat) (M : List Value) (w0 W : World) : Prop where
  t : TableAt Bt W gt
  b : W.rangeAt B 0 L
  m : W.rangeAt g o M
  k : Keeps (fun _ => False) w0 W
theorem RnS.next {Bt gt B : Nat} {L : List Value} {g o : Nat} {M : List Value} {w0 W W' : World} (s : RnS Bt gt B L g o M w0 W) (k : Keeps (fun _ => False) W W') : RnS Bt gt B L g o M w0 W' :=
  ⟨s.t.keep k, k.rangeAt s.b id, k.rangeAt s.m id, s.k.trans k⟩
/-- every text of the lines is shorter than so many bytes -/
def LinesLt (ls : List LineD) (m : Nat) : Prop := ∀ l ∈ ls, l.name.length ≤ m ∧ l.leaf.length ≤ m ∧ l.value.length ≤ m

set_option maxRecDepth 100000 in
set_option maxHeartbeats 4000000 in
theorem right_c (v : Value) (ls : List LineD) (z : Bool) (w : World) (hv : Hid (LinesAt w v ls)) (hl : ls.length ≤ 9223372036854775807) (hlt : Hid (LinesLt ls 9223372036854775807)) (hz : Hid (rightC ls = z)) :
    Calls Tryz.prog 25 #[v] w (NewRes (.bool z) w) := by
  obtain ⟨p, c, rfl, hv0⟩ := hv.out
  have hv' := Lib.hid hv0; clear hv0 hv
  by_cases h64 : ls.length ≤ 64
  · go_enter Tryz.func25, Tryz.ntmps25
    go_wp2_with fail
    refine (table_any _).mono ?_
    rintro e w1 ⟨gt, rfl, hgt, t1, k1⟩
    have t1' := Lib.hid t1; have k1' := Lib.hid k1; clear t1 k1 hgt
    go_wp2_with fail
    go_loopw [12] (fun i wr => ∃ k : Nat, k ≤ ls.length ∧ i = .int .i64 k ∧ Hid (riseB ls k = true) ∧ Hid (Keeps (fun _ => False) w1 wr)) (fun i _ => ls.length - (intOf i).toNat)
    case atStart => exact ⟨0, by omega, rfl, Lib.hid rfl, Lib.hid (Keeps.refl _ _)⟩
    case round =>
      obtain ⟨k, hk, rfl, hrise, hkr⟩ := hrel
      by_cases hlk : k < ls.length
      · obtain ⟨g, o, rfl, hrows⟩ := hv'.out (by omega)
        obtain ⟨l, hll⟩ : ∃ l, ls[k]? = some l := ⟨_, List.getElem?_eq_getElem hlk⟩
        have hsz := hlt.out l (List.mem_of_getElem? hll)
        obtain ⟨N, hN⟩ : ∃ N : ByteArray, N = ⟨l.name.toArray⟩ := ⟨_, rfl⟩
        obtain ⟨F, hF⟩ : ∃ F : ByteArray, F = ⟨l.leaf.toArray⟩ := ⟨_, rfl⟩
        obtain ⟨V, hV⟩ : ∃ V : ByteArray, V = ⟨l.value.toArray⟩ := ⟨_, rfl⟩
        have hNs : N.size ≤ 9223372036854775807 := by rw [hN]; exact hsz.1
        have hVs : V.size ≤ 9223372036854775807 := by rw [hV]; exact hsz.2.2
        have hld : l = ⟨l.head, N.data.toList, F.data.toList, V.data.toList⟩ := by rw [hN, hF, hV]
        have hrow : Hid (wr.rangeAt g (o + k * 4) [.int .i64 l.head, .string N, .string F, .string V]) := Lib.hid (by
          rw [hN, hF, hV]; exact hkr.out.rangeAt (k1'.out.rangeAt (hrows k l hll) id) id)
        have hld' := Lib.hid hld; have hll' := Lib.hid hll; have hrows' := Lib.hid hrows
        clear hld hll hrows hN hF hV hsz
        go_wp2_with (first | ((with_reducible refine at_slot 16 ?_); refine wpList_load_mid rfl 50 (.tmp 15) rfl g (o + k * 4) rfl _ _ hrow.out Tryz.underlying50 rfl lineInfo ?_) | ((with_reducible refine at_store 5 ?_); refine wpList_store_new rfl 50 (.tmp 5) (.tmp 16) rfl _ #[.int .i64 l.head, .string N, .string F, .string V] rfl rfl lineInfo rfl (line_one _ _ _ _) ?_))
        obtain ⟨zl, hzl⟩ : ∃ zl, lineB ⟨l.head, N.data.toList, F.data.toList, V.data.toList⟩ = zl := ⟨_, rfl⟩
        have hzl' := Lib.hid hzl; clear hzl
        have tN : TableAt w.heap.size (wr.alloc (.cells #[.int .i64 l.head, .string N, .string F, .string V] 50)) gt := (t1'.out.keep hkr.out).keep ((Keeps.refl _ _).alloc _)
        have bN : (wr.alloc (.cells #[.int .i64 l.head, .string N, .string F, .string V] 50)).rangeAt wr.heap.size 0 [.int .i64 l.head, .string N, .string F, .string V] := new_range wr _ _ 50 (Keeps.refl _ _)
        have kN : Keeps (fun _ => False) wr (wr.alloc (.cells #[.int .i64 l.head, .string N, .string F, .string V] 50)) := (Keeps.refl _ _).alloc _
        have tN' := Lib.hid tN; have bN' := Lib.hid bN; have kN' := Lib.hid kN; clear tN bN kN
        cases zl with
        | false =>
          refine wp_region_noPanic ?_
          refine wp_region_held_drew (S := (fun W => RnS w.heap.size gt wr.heap.size [.int .i64 l.head, .string N, .string F, .string V] g (o + k * 4) [.int .i64 l.head, .string N, .string F, .string V] wr W)) (by kernel_rfl) (⟨tN'.out.keep ((Keeps.refl _ _).drew), ((Keeps.refl (fun _ => False) _).drew).rangeAt bN'.out id, ((Keeps.refl (fun _ => False) _).drew).rangeAt (kN'.out.rangeAt hrow.out id) id, kN'.out.drew⟩) (fun hHeld => ?_)
          refine tkL 0 rfl (yieldsIf_load_mid (by rfl) 50 (.tmp 5) rfl wr.heap.size 0 rfl [.int .i64 l.head, .string N, .string F, .string V] _ (fun _ s => s.b) Tryz.underlying50 rfl lineInfo) ?_
          refine tk 1 rfl ?_
          refine stepL 2 rfl (by kernel_rfl) (fun K hK => ?_)
          go_simp
          (refine (canBe_any l.head N F V gt w.heap.size false _ hNs hVs (Lib.hid hHeld.t) hzl').mono ?_; rintro e w4 ⟨rfl, hk4⟩)
          go_wp2_with fail
          refine hK.out _ _ (hHeld.next hk4) (fun hHeld => ?_)
          clear hK K
          try simp only [Act.put, sA, sZ, sS]
          refine tk 3 rfl ?_
          refine tk 4 rfl ?_
          refine tkS 5 rfl ?_
          refine tkS 6 rfl ?_
          refine tkS 7 rfl ?_
          refine tkS 8 rfl ?_
          refine tkS 9 rfl ?_
          refine tkS 10 rfl ?_
          refine tkS 11 rfl ?_
          refine tkS 12 rfl ?_
          refine tkS 13 rfl ?_
          refine tkS 14 rfl ?_
          refine tkS 15 rfl ?_
          refine tkS 16 rfl ?_
          refine tk 17 rfl ?_
          refine wpAnyH_done (by kernel_rfl) (NoPanic.normal ?_) _
          have hkk := Lib.hid ((k1'.out.trans hkr.out).trans hHeld.k)
          have hz0 : Hid (z = false) := Lib.hid (by
            rw [← hz.out]
            unfold rightC
            rw [riseB_le (k := k + 1) (by unfold riseB; rw [hll'.out]; simp only; rw [hld'.out, hzl'.out]; simp) ls.length (by omega)]; simp)
          clear hHeld
          go_wp2
          go_ret
          exact ⟨by rw [hz0.out]; rfl, hkk.out⟩
        | true =>
          cases k with
          | zero =>
            refine wp_region_noPanic ?_
            refine wp_region_held_drew (S := (fun W => RnS w.heap.size gt wr.heap.size [.int .i64 l.head, .string N, .string F, .string V] g (o + 0 * 4) [.int .i64 l.head, .string N, .string F, .string V] wr W)) (by kernel_rfl) (⟨tN'.out.keep ((Keeps.refl _ _).drew), ((Keeps.refl (fun _ => False) _).drew).rangeAt bN'.out id, ((Keeps.refl (fun _ => False) _).drew).rangeAt (kN'.out.rangeAt hrow.out id) id, kN'.out.drew⟩) (fun hHeld => ?_)
            refine tkL 0 rfl (yieldsIf_load_mid (by rfl) 50 (.tmp 5) rfl wr.heap.size 0 rfl [.int .i64 l.head, .string N, .string F, .string V] _ (fun _ s => s.b) Tryz.underlying50 rfl lineInfo) ?_
            refine tk 1 rfl ?_
            refine stepL 2 rfl (by kernel_rfl) (fun K hK => ?_)
            go_simp
            (refine (canBe_any l.head N F V gt w.heap.size true _ hNs hVs (Lib.hid hHeld.t) hzl').mono ?_; rintro e w4 ⟨rfl, hk4⟩)
            go_wp2_with fail
            refine hK.out _ _ (hHeld.next hk4) (fun hHeld => ?_)
            clear hK K
            try simp only [Act.put, sA, sZ, sS]
            refine tk 3 rfl ?_
            refine tk 4 rfl ?_
            refine tk 5 rfl ?_
            refine tk 6 rfl ?_
            refine tk 7 rfl ?_
            refine tkS 8 rfl ?_
            refine tkS 9 rfl ?_
            refine tkS 10 rfl ?_
            refine tkS 11 rfl ?_
            refine tkS 12 rfl ?_
            refine tkS 13 rfl ?_
            refine tkS 14 rfl ?_
            refine tkS 15 rfl ?_
            refine tk 16 rfl ?_
            refine tk 17 rfl ?_
            refine wpAnyH_done (by kernel_rfl) (NoPanic.normal ?_) _
            have hkk := Lib.hid (hkr.out.trans hHeld.k)
            have hr1 : Hid (riseB ls 1 = true) := Lib.hid (by unfold riseB; rw [hll'.out]; simp only; rw [hld'.out, hzl'.out]; rfl)
            clear hHeld
            go_wp2
            exact ⟨⟨1, by omega, by rfl, hr1, hkk⟩, by simp [intOf]; omega⟩
          | succ j =>
            obtain ⟨q, hqq⟩ : ∃ q, ls[j]? = some q := ⟨_, List.getElem?_eq_getElem (by omega)⟩
            obtain ⟨Nq, hNq⟩ : ∃ N : ByteArray, N = ⟨q.name.toArray⟩ := ⟨_, rfl⟩
            obtain ⟨Fq, hFq⟩ : ∃ F : ByteArray, F = ⟨q.leaf.toArray⟩ := ⟨_, rfl⟩
            obtain ⟨Vq, hVq⟩ : ∃ V : ByteArray, V = ⟨q.value.toArray⟩ := ⟨_, rfl⟩
            have hqd : q = ⟨q.head, Nq.data.toList, Fq.data.toList, Vq.data.toList⟩ := by rw [hNq, hFq, hVq]
            have hprev : Hid (wr.rangeAt g (o + j * 4) [.int .i64 q.head, .string Nq, .string Fq, .string Vq]) := Lib.hid (by
              rw [hNq, hFq, hVq]; exact hkr.out.rangeAt (k1'.out.rangeAt (hrows'.out j q hqq) id) id)
            obtain ⟨zs, hzs⟩ : ∃ zs, lessB ⟨q.head, Nq.data.toList, Fq.data.toList, Vq.data.toList⟩ ⟨l.head, N.data.toList, F.data.toList, V.data.toList⟩ = zs := ⟨_, rfl⟩
            have hzs' := Lib.hid hzs; have hqd' := Lib.hid hqd; have hqq' := Lib.hid hqq
            clear hzs hqd hqq hNq hFq hVq
            have l1 : IntKind.i64.wrap (j : Int) = (j : Int) := IntWalk.i64_in _ (by omega)
            have l3 : (0 : Int) ≤ (j : Int) := by omega
            have l4 : (j : Int) < ls.length := by omega
            have l5 : (0 : Int) < (j : Int) + 1 := by omega
            cases zs with
            | true =>
              refine wp_region_noPanic ?_
              refine wp_region_held_drew (S := (fun W => RnS w.heap.size gt wr.heap.size [.int .i64 l.head, .string N, .string F, .string V] g (o + j * 4) [.int .i64 q.head, .string Nq, .string Fq, .string Vq] wr W)) (by kernel_rfl) (⟨tN'.out.keep ((Keeps.refl _ _).drew), ((Keeps.refl (fun _ => False) _).drew).rangeAt bN'.out id, ((Keeps.refl (fun _ => False) _).drew).rangeAt (kN'.out.rangeAt hprev.out id) id, kN'.out.drew⟩) (fun hHeld => ?_)
              refine tkL 0 rfl (yieldsIf_load_mid (by rfl) 50 (.tmp 5) rfl wr.heap.size 0 rfl [.int .i64 l.head, .string N, .string F, .string V] _ (fun _ s => s.b) Tryz.underlying50 rfl lineInfo) ?_
              refine tk 1 rfl ?_
              refine stepL 2 rfl (by kernel_rfl) (fun K hK => ?_)
              go_simp
              (refine (canBe_any l.head N F V gt w.heap.size true _ hNs hVs (Lib.hid hHeld.t) hzl').mono ?_; rintro e w4 ⟨rfl, hk4⟩)
              go_wp2_with fail
              refine hK.out _ _ (hHeld.next hk4) (fun hHeld => ?_)
              clear hK K
              try simp only [Act.put, sA, sZ, sS]
              refine tk 3 rfl ?_
              refine tk 4 rfl ?_
              refine tk 5 rfl ?_
              refine tk 6 rfl ?_
              refine tk 7 rfl ?_
              refine tk 8 rfl ?_
              refine tk 9 rfl ?_
              refine tk 10 rfl ?_
              refine tk 11 rfl ?_
              refine tkL 12 rfl (yieldsIf_load_mid (by rfl) 50 (.tmp 28) rfl g (o + j * 4) rfl [.int .i64 q.head, .string Nq, .string Fq, .string Vq] _ (fun _ s => s.m) Tryz.underlying50 rfl lineInfo) ?_
              refine tkL 13 rfl (yieldsIf_load_mid (by rfl) 50 (.tmp 5) rfl wr.heap.size 0 rfl [.int .i64 l.head, .string N, .string F, .string V] _ (fun _ s => s.b) Tryz.underlying50 rfl lineInfo) ?_
              refine stepL 14 rfl (by kernel_rfl) (fun K hK => ?_)
              go_simp
              (refine (less_any q.head l.head Nq Fq Vq N F V true _ hzs').mono ?_; rintro e w5 ⟨rfl, hk5⟩)
              go_wp2_with fail
              refine hK.out _ _ (hHeld.next hk5) (fun hHeld => ?_)
              clear hK K
              try simp only [Act.put, sA, sZ, sS]
              refine tk 15 rfl ?_
              refine tk 16 rfl ?_
              refine tk 17 rfl ?_
              refine wpAnyH_done (by kernel_rfl) (NoPanic.normal ?_) _
              have hkk := Lib.hid (hkr.out.trans hHeld.k)
              clear hHeld l1 l3 l4 l5
              have hr1 : Hid (riseB ls (j + 1 + 1) = true) := Lib.hid (by
                rw [riseB, hrise.out, hll'.out]; simp only; rw [hqq'.out]; simp only; rw [hld'.out, hqd'.out, hzl'.out]; simpa using hzs'.out)
              go_wp2
              exact ⟨⟨j + 1 + 1, by omega, by go_num, hr1, hkk⟩, by simp [intOf]; omega⟩
            | false =>
              refine wp_region_noPanic ?_
              refine wp_region_held_drew (S := (fun W => RnS w.heap.size gt wr.heap.size [.int .i64 l.head, .string N, .string F, .string V] g (o + j * 4) [.int .i64 q.head, .string Nq, .string Fq, .string Vq] wr W)) (by kernel_rfl) (⟨tN'.out.keep ((Keeps.refl _ _).drew), ((Keeps.refl (fun _ => False) _).drew).rangeAt bN'.out id, ((Keeps.refl (fun _ => False) _).drew).rangeAt (kN'.out.rangeAt hprev.out id) id, kN'.out.drew⟩) (fun hHeld => ?_)
              refine tkL 0 rfl (yieldsIf_load_mid (by rfl) 50 (.tmp 5) rfl wr.heap.size 0 rfl [.int .i64 l.head, .string N, .string F, .string V] _ (fun _ s => s.b) Tryz.underlying50 rfl lineInfo) ?_
              refine tk 1 rfl ?_
              refine stepL 2 rfl (by kernel_rfl) (fun K hK => ?_)
              go_simp
              (refine (canBe_any l.head N F V gt w.heap.size true _ hNs hVs (Lib.hid hHeld.t) hzl').mono ?_; rintro e w4 ⟨rfl, hk4⟩)
              go_wp2_with fail
              refine hK.out _ _ (hHeld.next hk4) (fun hHeld => ?_)
              clear hK K
              try simp only [Act.put, sA, sZ, sS]
              refine tk 3 rfl ?_
              refine tk 4 rfl ?_
              refine tk 5 rfl ?_
              refine tk 6 rfl ?_
              refine tk 7 rfl ?_
              refine tk 8 rfl ?_
              refine tk 9 rfl ?_
              refine tk 10 rfl ?_
              refine tk 11 rfl ?_
              refine tkL 12 rfl (yieldsIf_load_mid (by rfl) 50 (.tmp 28) rfl g (o + j * 4) rfl [.int .i64 q.head, .string Nq, .string Fq, .string Vq] _ (fun _ s => s.m) Tryz.underlying50 rfl lineInfo) ?_
              refine tkL 13 rfl (yieldsIf_load_mid (by rfl) 50 (.tmp 5) rfl wr.heap.size 0 rfl [.int .i64 l.head, .string N, .string F, .string V] _ (fun _ s => s.b) Tryz.underlying50 rfl lineInfo) ?_
              refine stepL 14 rfl (by kernel_rfl) (fun K hK => ?_)
              go_simp
              (refine (less_any q.head l.head Nq Fq Vq N F V false _ hzs').mono ?_; rintro e w5 ⟨rfl, hk5⟩)
              go_wp2_with fail
              refine hK.out _ _ (hHeld.next hk5) (fun hHeld => ?_)
              clear hK K
              try simp only [Act.put, sA, sZ, sS]
              refine tk 15 rfl ?_
              refine tk 16 rfl ?_
              refine tk 17 rfl ?_
              refine wpAnyH_done (by kernel_rfl) (NoPanic.normal ?_) _
              have hkk := Lib.hid (hkr.out.trans hHeld.k)
              clear hHeld l1 l3 l4 l5
              have hz0 : Hid (z = false) := Lib.hid (by
                rw [← hz.out]
                unfold rightC
                rw [riseB_le (k := j + 1 + 1) (by rw [riseB, hll'.out]; simp only; rw [hqq'.out]; simp only; rw [hld'.out, hqd'.out]; simp [hzs'.out]) ls.length (by omega)]; simp)
              go_wp2
              go_ret
              exact ⟨by rw [hz0.out]; rfl, k1'.out.trans hkk.out⟩
      · obtain rfl : k = ls.length := by omega
        have hz1 : Hid (z = true) := Lib.hid (by rw [← hz.out]; unfold rightC; rw [hrise.out]; simp [h64])
        go_wp2
        go_ret
        exact ⟨by rw [hz1.out]; rfl, k1'.out.trans hkr.out⟩
  · have hz0 : Hid (z = false) := Lib.hid (by rw [← hz.out]; unfold rightC; simp [h64])
    have h64' : 64 < ls.length := by omega
    clear h64
    go_enter Tryz.func25, Tryz.ntmps25
    go_wp2
    go_ret
    exact ⟨by rw [hz0.out]; rfl, Keeps.refl _ _⟩
end Go.Proofs.YtdannodhlaaoiaaGreatDoor
/- The document's Right of lines, walked. -/
namespace Go.Proofs.YtdannodhlaaoiaaGreatDoor
open Go.RowKit

theorem lineInfo5 : (Tryz.prog.info? 62).map (·.size) = some 4 := by kernel_rfl
structure Rn5 (g o : Nat) (L : List Value) (g2 o2 : Nat) (M : List Value) (w0 W : World) : Prop where
  b : W.rangeAt g o L
  m : W.rangeAt g2 o2 M
  k : Keeps (fun _ => False) w0 W
theorem Rn5.next {g o : Nat} {L : List Value} {g2 o2 : Nat} {M : List Value} {w0 W W' : World} (s : Rn5 g o L g2 o2 M w0 W) (k : Keeps (fun _ => False) W W') : Rn5 g o L g2 o2 M w0 W' :=
  ⟨k.rangeAt s.b id, k.rangeAt s.m id, s.k.trans k⟩

set_option maxRecDepth 100000 in
set_option maxHeartbeats 4000000 in
theorem rRight_c (v : Value) (ls : List LineD) (z : Bool) (w : World) (hv : Hid (LinesAt w v ls)) (hl : ls.length ≤ 9223372036854775807) (hlt : Hid (LinesLt ls 8796093022000)) (hz : Hid (rightC ls = z)) :
    Calls Tryz.prog 61 #[v] w (NewRes (.bool z) w) := by
  obtain ⟨p, c, rfl, hv0⟩ := hv.out
  have hv' := Lib.hid hv0; clear hv0 hv
  go_enter Tryz.func61, Tryz.ntmps61
  go_wp2_with fail
  go_loopw [3] (fun i wr => ∃ k : Nat, k ≤ ls.length ∧ i = .int .i64 k ∧ Hid (riseB ls k = true) ∧ Hid (Keeps (fun _ => False) w wr)) (fun i _ => ls.length - (intOf i).toNat)
  case atStart => exact ⟨0, by omega, rfl, Lib.hid rfl, Lib.hid (Keeps.refl _ _)⟩
  case round =>
    obtain ⟨k, hk, rfl, hrise, hkr⟩ := hrel
    by_cases hlk : k < ls.length
    · obtain ⟨g, o, rfl, hrows⟩ := hv'.out (by omega)
      obtain ⟨l, hll⟩ : ∃ l, ls[k]? = some l := ⟨_, List.getElem?_eq_getElem hlk⟩
      have hsz := hlt.out l (List.mem_of_getElem? hll)
      obtain ⟨N, hN⟩ : ∃ N : ByteArray, N = ⟨l.name.toArray⟩ := ⟨_, rfl⟩
      obtain ⟨F, hF⟩ : ∃ F : ByteArray, F = ⟨l.leaf.toArray⟩ := ⟨_, rfl⟩
      obtain ⟨V, hV⟩ : ∃ V : ByteArray, V = ⟨l.value.toArray⟩ := ⟨_, rfl⟩
      have hNs : N.size ≤ 8796093022000 := by rw [hN]; exact hsz.1
      have hVs : V.size ≤ 8796093022000 := by rw [hV]; exact hsz.2.2
      have hld : l = ⟨l.head, N.data.toList, F.data.toList, V.data.toList⟩ := by rw [hN, hF, hV]
      have hrow : Hid (wr.rangeAt g (o + k * 4) [.int .i64 l.head, .string N, .string F, .string V]) := Lib.hid (by
        rw [hN, hF, hV]; exact hkr.out.rangeAt (hrows k l hll) id)
      have hld' := Lib.hid hld; have hll' := Lib.hid hll; have hrows' := Lib.hid hrows
      clear hld hll hrows hN hF hV hsz
      obtain ⟨zl, hzl⟩ : ∃ zl, lineB ⟨l.head, N.data.toList, F.data.toList, V.data.toList⟩ = zl := ⟨_, rfl⟩
      have hzl' := Lib.hid hzl; clear hzl
      have m1 : (0 : Int) ≤ (k : Int) := by omega
      have m2 : (k : Int) < ls.length := by omega
      go_wp2_with fail
      cases zl with
      | false =>
        refine wp_region_noPanic ?_
        refine wp_region_held_drew (S := (fun W => Rn5 g (o + k * 4) [.int .i64 l.head, .string N, .string F, .string V] g (o + k * 4) [.int .i64 l.head, .string N, .string F, .string V] wr W)) (by kernel_rfl) (⟨((Keeps.refl (fun _ => False) _).drew).rangeAt hrow.out id, ((Keeps.refl (fun _ => False) _).drew).rangeAt hrow.out id, (Keeps.refl _ _).drew⟩) (fun hHeld => ?_)
        refine tk 0 rfl ?_
        refine tk 1 rfl ?_
        refine tk 2 rfl ?_
        refine tkL 3 rfl (yieldsIf_load_mid (by rfl) 62 (.tmp 12) rfl g (o + k * 4) rfl [.int .i64 l.head, .string N, .string F, .string V] _ (fun _ s => s.b) Tryz.underlying62 rfl lineInfo5) ?_
        refine stepL 4 rfl (by kernel_rfl) (fun K hK => ?_)
        go_simp
        (refine (rRightLine_any l.head N F V false _ hNs hVs hzl').mono ?_; rintro e w4 ⟨rfl, hk4⟩)
        go_wp2_with fail
        refine hK.out _ _ (hHeld.next hk4) (fun hHeld => ?_)
        clear hK K
        try simp only [Act.put, sA, sZ, sS]
        refine tk 5 rfl ?_
        refine tk 6 rfl ?_
        refine tkS 7 rfl ?_
        refine tkS 8 rfl ?_
        refine tkS 9 rfl ?_
        refine tkS 10 rfl ?_
        refine tkS 11 rfl ?_
        refine tkS 12 rfl ?_
        refine tkS 13 rfl ?_
        refine tkS 14 rfl ?_
        refine tkS 15 rfl ?_
        refine tkS 16 rfl ?_
        refine tkS 17 rfl ?_
        refine tkS 18 rfl ?_
        refine tkS 19 rfl ?_
        refine tkS 20 rfl ?_
        refine tkS 21 rfl ?_
        refine tk 22 rfl ?_
        refine wpAnyH_done (by kernel_rfl) (NoPanic.normal ?_) _
        have hkk := Lib.hid (hkr.out.trans hHeld.k)
        have hz0 : Hid (z = false) := Lib.hid (by
          rw [← hz.out]
          unfold rightC
          rw [riseB_le (k := k + 1) (by unfold riseB; rw [hll'.out]; simp only; rw [hld'.out, hzl'.out]; simp) ls.length (by omega)]; simp)
        clear hHeld m1 m2
        go_wp2
        go_ret
        exact ⟨by rw [hz0.out]; rfl, hkk.out⟩
      | true =>
        cases k with
        | zero =>
          refine wp_region_noPanic ?_
          refine wp_region_held_drew (S := (fun W => Rn5 g (o + 0 * 4) [.int .i64 l.head, .string N, .string F, .string V] g (o + 0 * 4) [.int .i64 l.head, .string N, .string F, .string V] wr W)) (by kernel_rfl) (⟨((Keeps.refl (fun _ => False) _).drew).rangeAt hrow.out id, ((Keeps.refl (fun _ => False) _).drew).rangeAt hrow.out id, (Keeps.refl _ _).drew⟩) (fun hHeld => ?_)
          refine tk 0 rfl ?_
          refine tk 1 rfl ?_
          refine tk 2 rfl ?_
          refine tkL 3 rfl (yieldsIf_load_mid (by rfl) 62 (.tmp 12) rfl g (o + 0 * 4) rfl [.int .i64 l.head, .string N, .string F, .string V] _ (fun _ s => s.b) Tryz.underlying62 rfl lineInfo5) ?_
          refine stepL 4 rfl (by kernel_rfl) (fun K hK => ?_)
          go_simp
          (refine (rRightLine_any l.head N F V true _ hNs hVs hzl').mono ?_; rintro e w4 ⟨rfl, hk4⟩)
          go_wp2_with fail
          refine hK.out _ _ (hHeld.next hk4) (fun hHeld => ?_)
          clear hK K
          try simp only [Act.put, sA, sZ, sS]
          refine tk 5 rfl ?_
          refine tk 6 rfl ?_
          refine tk 7 rfl ?_
          refine tk 8 rfl ?_
          refine tk 9 rfl ?_
          refine tkS 10 rfl ?_
          refine tkS 11 rfl ?_
          refine tkS 12 rfl ?_
          refine tkS 13 rfl ?_
          refine tkS 14 rfl ?_
          refine tkS 15 rfl ?_
          refine tkS 16 rfl ?_
          refine tkS 17 rfl ?_
          refine tkS 18 rfl ?_
          refine tkS 19 rfl ?_
          refine tkS 20 rfl ?_
          refine tk 21 rfl ?_
          refine tk 22 rfl ?_
          refine wpAnyH_done (by kernel_rfl) (NoPanic.normal ?_) _
          have hkk := Lib.hid (hkr.out.trans hHeld.k)
          have hr1 : Hid (riseB ls 1 = true) := Lib.hid (by unfold riseB; rw [hll'.out]; simp only; rw [hld'.out, hzl'.out]; rfl)
          clear hHeld m1 m2
          go_wp2
          exact ⟨⟨1, by omega, by rfl, hr1, hkk⟩, by simp [intOf]; omega⟩
        | succ j =>
          obtain ⟨q, hqq⟩ : ∃ q, ls[j]? = some q := ⟨_, List.getElem?_eq_getElem (by omega)⟩
          obtain ⟨Nq, hNq⟩ : ∃ N : ByteArray, N = ⟨q.name.toArray⟩ := ⟨_, rfl⟩
          obtain ⟨Fq, hFq⟩ : ∃ F : ByteArray, F = ⟨q.leaf.toArray⟩ := ⟨_, rfl⟩
          obtain ⟨Vq, hVq⟩ : ∃ V : ByteArray, V = ⟨q.value.toArray⟩ := ⟨_, rfl⟩
          have hqd : q = ⟨q.head, Nq.data.toList, Fq.data.toList, Vq.data.toList⟩ := by rw [hNq, hFq, hVq]
          have hprev : Hid (wr.rangeAt g (o + j * 4) [.int .i64 q.head, .string Nq, .string Fq, .string Vq]) := Lib.hid (by
            rw [hNq, hFq, hVq]; exact hkr.out.rangeAt (hrows'.out j q hqq) id)
          obtain ⟨zs, hzs⟩ : ∃ zs, lessB ⟨q.head, Nq.data.toList, Fq.data.toList, Vq.data.toList⟩ ⟨l.head, N.data.toList, F.data.toList, V.data.toList⟩ = zs := ⟨_, rfl⟩
          have hzs' := Lib.hid hzs; have hqd' := Lib.hid hqd; have hqq' := Lib.hid hqq
          clear hzs hqd hqq hNq hFq hVq
          have l1 : IntKind.i64.wrap (j : Int) = (j : Int) := IntWalk.i64_in _ (by omega)
          have l3 : (0 : Int) ≤ (j : Int) := by omega
          have l4 : (j : Int) < ls.length := by omega
          have l5 : (0 : Int) < (j : Int) + 1 := by omega
          have l6 : (0 : Int) ≤ (j : Int) + 1 := by omega
          have l7 : (j : Int) + 1 < ls.length := by omega
          have l8 : ((j : Int) + 1).toNat = j + 1 := by omega
          cases zs with
          | true =>
            refine wp_region_noPanic ?_
            refine wp_region_held_drew (S := (fun W => Rn5 g (o + (j + 1) * 4) [.int .i64 l.head, .string N, .string F, .string V] g (o + j * 4) [.int .i64 q.head, .string Nq, .string Fq, .string Vq] wr W)) (by kernel_rfl) (⟨((Keeps.refl (fun _ => False) _).drew).rangeAt hrow.out id, ((Keeps.refl (fun _ => False) _).drew).rangeAt hprev.out id, (Keeps.refl _ _).drew⟩) (fun hHeld => ?_)
            refine tk 0 rfl ?_
            refine tk 1 rfl ?_
            refine tk 2 rfl ?_
            refine tkL 3 rfl (yieldsIf_load_mid (by rfl) 62 (.tmp 12) rfl g (o + (j + 1) * 4) rfl [.int .i64 l.head, .string N, .string F, .string V] _ (fun _ s => s.b) Tryz.underlying62 rfl lineInfo5) ?_
            refine stepL 4 rfl (by kernel_rfl) (fun K hK => ?_)
            go_simp
            (refine (rRightLine_any l.head N F V true _ hNs hVs hzl').mono ?_; rintro e w4 ⟨rfl, hk4⟩)
            go_wp2_with fail
            refine hK.out _ _ (hHeld.next hk4) (fun hHeld => ?_)
            clear hK K
            try simp only [Act.put, sA, sZ, sS]
            refine tk 5 rfl ?_
            refine tk 6 rfl ?_
            refine tk 7 rfl ?_
            refine tk 8 rfl ?_
            refine tk 9 rfl ?_
            refine tk 10 rfl ?_
            refine tk 11 rfl ?_
            refine tk 12 rfl ?_
            refine tk 13 rfl ?_
            refine tkL 14 rfl (yieldsIf_load_mid (by rfl) 62 (.tmp 23) rfl g (o + j * 4) rfl [.int .i64 q.head, .string Nq, .string Fq, .string Vq] _ (fun _ s => s.m) Tryz.underlying62 rfl lineInfo5) ?_
            refine tk 15 rfl ?_
            refine tk 16 rfl ?_
            refine tk 17 rfl ?_
            refine tkL 18 rfl (yieldsIf_load_mid (by rfl) 62 (.tmp 27) rfl g (o + (j + 1) * 4) rfl [.int .i64 l.head, .string N, .string F, .string V] _ (fun _ s => s.b) Tryz.underlying62 rfl lineInfo5) ?_
            refine stepL 19 rfl (by kernel_rfl) (fun K hK => ?_)
            go_simp
            (refine (rLess_any q.head l.head Nq Fq Vq N F V true _ hzs').mono ?_; rintro e w5 ⟨rfl, hk5⟩)
            go_wp2_with fail
            refine hK.out _ _ (hHeld.next hk5) (fun hHeld => ?_)
            clear hK K
            try simp only [Act.put, sA, sZ, sS]
            refine tk 20 rfl ?_
            refine tk 21 rfl ?_
            refine tk 22 rfl ?_
            refine wpAnyH_done (by kernel_rfl) (NoPanic.normal ?_) _
            have hkk := Lib.hid (hkr.out.trans hHeld.k)
            clear hHeld l1 l3 l4 l5 l6 l7 l8 m1 m2
            have hr1 : Hid (riseB ls (j + 1 + 1) = true) := Lib.hid (by
              rw [riseB, hrise.out, hll'.out]; simp only; rw [hqq'.out]; simp only; rw [hld'.out, hqd'.out, hzl'.out]; simpa using hzs'.out)
            go_wp2
            exact ⟨⟨j + 1 + 1, by omega, by go_num, hr1, hkk⟩, by simp [intOf]; omega⟩
          | false =>
            refine wp_region_noPanic ?_
            refine wp_region_held_drew (S := (fun W => Rn5 g (o + (j + 1) * 4) [.int .i64 l.head, .string N, .string F, .string V] g (o + j * 4) [.int .i64 q.head, .string Nq, .string Fq, .string Vq] wr W)) (by kernel_rfl) (⟨((Keeps.refl (fun _ => False) _).drew).rangeAt hrow.out id, ((Keeps.refl (fun _ => False) _).drew).rangeAt hprev.out id, (Keeps.refl _ _).drew⟩) (fun hHeld => ?_)
            refine tk 0 rfl ?_
            refine tk 1 rfl ?_
            refine tk 2 rfl ?_
            refine tkL 3 rfl (yieldsIf_load_mid (by rfl) 62 (.tmp 12) rfl g (o + (j + 1) * 4) rfl [.int .i64 l.head, .string N, .string F, .string V] _ (fun _ s => s.b) Tryz.underlying62 rfl lineInfo5) ?_
            refine stepL 4 rfl (by kernel_rfl) (fun K hK => ?_)
            go_simp
            (refine (rRightLine_any l.head N F V true _ hNs hVs hzl').mono ?_; rintro e w4 ⟨rfl, hk4⟩)
            go_wp2_with fail
            refine hK.out _ _ (hHeld.next hk4) (fun hHeld => ?_)
            clear hK K
            try simp only [Act.put, sA, sZ, sS]
            refine tk 5 rfl ?_
            refine tk 6 rfl ?_
            refine tk 7 rfl ?_
            refine tk 8 rfl ?_
            refine tk 9 rfl ?_
            refine tk 10 rfl ?_
            refine tk 11 rfl ?_
            refine tk 12 rfl ?_
            refine tk 13 rfl ?_
            refine tkL 14 rfl (yieldsIf_load_mid (by rfl) 62 (.tmp 23) rfl g (o + j * 4) rfl [.int .i64 q.head, .string Nq, .string Fq, .string Vq] _ (fun _ s => s.m) Tryz.underlying62 rfl lineInfo5) ?_
            refine tk 15 rfl ?_
            refine tk 16 rfl ?_
            refine tk 17 rfl ?_
            refine tkL 18 rfl (yieldsIf_load_mid (by rfl) 62 (.tmp 27) rfl g (o + (j + 1) * 4) rfl [.int .i64 l.head, .string N, .string F, .string V] _ (fun _ s => s.b) Tryz.underlying62 rfl lineInfo5) ?_
            refine stepL 19 rfl (by kernel_rfl) (fun K hK => ?_)
            go_simp
            (refine (rLess_any q.head l.head Nq Fq Vq N F V false _ hzs').mono ?_; rintro e w5 ⟨rfl, hk5⟩)
            go_wp2_with fail
            refine hK.out _ _ (hHeld.next hk5) (fun hHeld => ?_)
            clear hK K
            try simp only [Act.put, sA, sZ, sS]
            refine tk 20 rfl ?_
            refine tk 21 rfl ?_
            refine tk 22 rfl ?_
            refine wpAnyH_done (by kernel_rfl) (NoPanic.normal ?_) _
            have hkk := Lib.hid (hkr.out.trans hHeld.k)
            clear hHeld l1 l3 l4 l5 l6 l7 l8 m1 m2
            have hz0 : Hid (z = false) := Lib.hid (by
              rw [← hz.out]
              unfold rightC
              rw [riseB_le (k := j + 1 + 1) (by rw [riseB, hll'.out]; simp only; rw [hqq'.out]; simp only; rw [hld'.out, hqd'.out]; simp [hzs'.out]) ls.length (by omega)]; simp)
            go_wp2
            go_ret
            exact ⟨by rw [hz0.out]; rfl, hkk.out⟩
    · obtain rfl : k = ls.length := by omega
      by_cases h64 : ls.length ≤ 64
      · have hz1 : Hid (z = true) := Lib.hid (by rw [← hz.out]; unfold rightC; rw [hrise.out]; simp [h64])
        have h64' : decide ((ls.length : Int) ≤ 64) = true := by simp; omega
        clear h64
        go_wp2
        go_ret
        exact ⟨by rw [hz1.out]; rfl, hkr.out⟩
      · have hz1 : Hid (z = false) := Lib.hid (by rw [← hz.out]; unfold rightC; simp [h64])
        have h64' : decide ((ls.length : Int) ≤ 64) = false := by simp; omega
        clear h64
        go_wp2
        go_ret
        exact ⟨by rw [hz1.out]; rfl, hkr.out⟩
end Go.Proofs.YtdannodhlaaoiaaGreatDoor
