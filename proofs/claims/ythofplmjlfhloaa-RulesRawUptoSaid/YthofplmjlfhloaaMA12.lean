/- RulesRaw, walked (gen_rve.py). -/
import Derived.Test.YthofplmjlfhloaaMA11
import Derived.Test.YthofplmjlfhloaaMA08
import Derived.Test.YthofplmjlfhloaaMA05
import Derived.Deep.DeepCutAuto
import Derived.Test.YthofplmjlfhloaaRows
import Derived.ProofKit
import Derived.OpenShut
import Derived.JoinedCond
import Derived.Deep.Grids
import Derived.Deep.Slices
import Derived.ShutString
import Derived.ChangeOld
set_option linter.unusedVariables false
set_option linter.unusedSimpArgs false
set_option linter.unusedVariables false
set_option linter.unusedSimpArgs false
namespace Go.Proofs.Ythofplmjlfhloaa
open Go.RowKit

theorem small_take {D : List LineD} {m : Nat} (h : LinesLt D m) (k : Nat) : LinesLt (D.take k) m := fun l hl => h l (List.mem_of_mem_take hl)
theorem small_mono {D : List LineD} {m k : Nat} (h : LinesLt D m) (hk : m ≤ k) : LinesLt D k := fun l hl => by have := h l hl; omega
def lawEndR (w : World) (e : Ending) (w' : World) : Prop := e = .returned (.bool true) ∧ Keeps (fun _ => False) w w'
def FaultsLt (fs : List FaultD) (m : Nat) : Prop := ∀ f ∈ fs, f.name.length ≤ m
theorem textF_len {fs : List FaultD} {m : Nat} (h : FaultsLt fs m) : (textF fs).length ≤ fs.length * (m + 11) := by
  induction fs with
  | nil => simp [textF]
  | cons f fs ih =>
    have h1 := ih (fun x hx => h x (List.mem_cons_of_mem _ hx))
    have h2 := h f (List.mem_cons_self ..)
    have h3 := wordF_len f.kind
    have h4 : (pieceF f).length ≤ m + 11 := by
      unfold pieceF
      rw [List.length_append, List.length_append]
      split
      · simp; omega
      · simp; omega
    have e : textF (f :: fs) = pieceF f ++ textF fs := by unfold textF; rw [List.flatMap_cons]
    rw [e, List.length_append, List.length_cons, Nat.add_mul]; omega

set_option maxRecDepth 100000 in
set_option maxHeartbeats 8000000 in
theorem rulesRaw_law (v u : Value) (ls : List LineD) (fs : List FaultD) (w : World) (hv : Hid (RowsAt 4 lineVals w v ls)) (hl : ls.length ≤ 1000000000000) (hlt : Hid (LinesLt ls 8796093022000)) (hu : Hid (RowsAt 2 fVals w u fs)) (hfl : fs.length ≤ 1000000000000) (hft : Hid (FaultsLt fs 10000000)) :
    Calls Try.prog 4 #[v, u] w (lawEndR w) := by
  obtain ⟨p, c, rfl⟩ := hv.out.slice
  obtain ⟨q, d, rfl⟩ := hu.out.slice
  have hcap : ls.length ≤ c := by
    obtain ⟨p9, c9, e9, -, h9, -⟩ := hv.out
    injection e9 with e1 e2 e3
    subst e3; exact h9
  have hcap2 : fs.length ≤ d := by
    obtain ⟨p9, c9, e9, -, h9, -⟩ := hu.out
    injection e9 with e1 e2 e3
    subst e3; exact h9
  obtain ⟨nl, hnl⟩ : ∃ n : Nat, n = min ls.length 20 := ⟨_, rfl⟩
  obtain ⟨nf, hnf⟩ : ∃ n : Nat, n = min fs.length 20 := ⟨_, rfl⟩
  have m1 : min (ls.length : Int) 20 = (nl : Int) := by omega
  have m2 : min (fs.length : Int) 20 = (nf : Int) := by omega
  have m3 : (nl : Int) ≤ (c : Int) := by omega
  have m4 : (nf : Int) ≤ (d : Int) := by omega
  have m5 : (0 : Int) ≤ (nl : Int) := by omega
  have m6 : (0 : Int) ≤ (nf : Int) := by omega
  have hL : (ls.take nl).length = nl := by rw [List.length_take]; omega
  have hF : (fs.take nf).length = nf := by rw [List.length_take]; omega
  have hR := Lib.hid (hv.out.take nl (by omega))
  have hG := Lib.hid (hu.out.take nf (by omega))
  have hlt1 := Lib.hid (small_take hlt.out nl)
  have hft1 : Hid (FaultsLt (fs.take nf) 10000000) := Lib.hid (fun l hl => hft.out l (List.mem_of_mem_take hl))
  have n1 : nl ≤ 20 := by omega
  have n2 : nf ≤ 20 := by omega
  have hL' := Lib.hid hL
  have hF' := Lib.hid hF
  clear hnl hnf hL hF hv hu hlt hft hcap hcap2
  go_enter Try.func4, Try.ntmps4
  go_upto_region 1 with fail
  refine wp_region_noPanic ?_
  refine wp_region_held_drew (S := (fun W => W = w.drew)) (by kernel_rfl) ((rfl)) (fun hHeld => ?_)
  refine tk 0 rfl ?_
  refine tk 1 rfl ?_
  refine tk 2 rfl ?_
  refine tk 3 rfl ?_
  refine tk 4 (v := .slice p nl c) (hy := fun wS hSw => by go_simp) rfl ?_
  refine tk 5 rfl ?_
  refine tk 6 rfl ?_
  refine tk 7 rfl ?_
  refine tk 8 rfl ?_
  refine tk 9 (v := .slice q nf d) (hy := fun wS hSw => by go_simp) rfl ?_
  refine tk 10 rfl ?_
  refine tk 11 rfl ?_
  refine wpAnyH_done (by kernel_rfl) (NoPanic.normal ?_) _
  clear hHeld
  obtain ⟨L, hLe⟩ : ∃ L, ls.take nl = L := ⟨_, rfl⟩
  obtain ⟨F, hFe⟩ : ∃ L, fs.take nf = L := ⟨_, rfl⟩
  rw [hLe] at hR hlt1 hL'
  rw [hFe] at hG hft1 hF'
  obtain rfl : L.length = nl := hL'.out
  obtain rfl : F.length = nf := hF'.out
  have hR0 := Lib.hid (hR.out.keep ((Keeps.refl (fun _ => False) _).drew))
  have hG0 := Lib.hid (hG.out.keep ((Keeps.refl (fun _ => False) _).drew))
  have k0 := Lib.hid ((Keeps.refl (fun _ => False) w).drew)
  clear hLe hFe hL' hF' m1 m2 m3 m4 m5 m6 hR hG
  generalize hw0 : w.drew = w0 at hR0 hG0 k0 ⊢
  clear hw0
  go_wp2_with fail
  refine (to_any _ L _ hR0 (by omega)).mono ?_
  rintro e w1 ⟨p1, c1, rfl, hO1, k1⟩
  have hC1 := Lib.hid (hO1.at lineVals_len)
  have hR1 := Lib.hid (hR0.out.keep k1)
  have hG1 := Lib.hid (hG0.out.keep k1)
  have hk1 := Lib.hid (k0.out.trans k1)
  clear hO1 k1 hR0 hG0 k0
  go_wp2_with fail
  refine (ruCheck_any _ L _ hC1 (by omega) (Lib.hid (small_mono hlt1.out (by omega)))).mono ?_
  obtain ⟨r, hr⟩ : ∃ r, checkR L = r := ⟨_, rfl⟩
  rw [hr]
  obtain ⟨xf, xe⟩ := r
  rintro e w2 ⟨p2, c2, rfl, hO2, k2⟩
  have hr' := Lib.hid hr
  have hR2 := Lib.hid (hR1.out.keep k2)
  have hG2 := Lib.hid (hG1.out.keep k2)
  have hk2 := Lib.hid (hk1.out.trans k2)
  clear hO2 k2 hR1 hG1 hk1 hC1 hr
  obtain ⟨i0, hi0, hi1, hi2, hi3⟩ := faultAll
  go_wp2_with fail
  go_loopw [8, 7] (fun iv ov wr => ∃ (k : Nat) (qa : Option Addr) (dd : Nat), k ≤ F.length ∧ iv = .int .i64 k ∧ ov = .slice qa k dd ∧ Hid (OwnR 41 2 fVals w2 wr ov (F.take k)) ∧ Hid (Keeps (fun _ => False) w2 wr)) (fun iv _ _ => F.length - (intOf iv).toNat)
  case atStart => exact ⟨0, none, 0, by omega, rfl, rfl, Lib.hid (OwnR.nil _ _ (Nat.le_refl _)), Lib.hid (Keeps.refl _ _)⟩
  case round =>
    obtain ⟨k, qa, dd, hk, rfl, rfl, hO, hKw⟩ := hrel
    by_cases hlk : k < F.length
    · obtain ⟨g, o, rfl, hrows⟩ := hG2.out.open (by omega)
      obtain ⟨f, hq⟩ : ∃ q, F[k]? = some q := ⟨_, List.getElem?_eq_getElem hlk⟩
      obtain ⟨N, hN⟩ : ∃ N : ByteArray, N = ⟨f.name.toArray⟩ := ⟨_, rfl⟩
      have hrow : Hid (wr.rangeAt g (o + k * 2) [.int .i64 f.kind, .string N]) := Lib.hid (by rw [hN]; exact hKw.out.rangeAt (hrows k f hq) id)
      have hgw : Hid (¬ w2.heap.size ≤ g) := Lib.hid (by have := World.block_lt_of_cell? w2 _ (hrows k f hq 0 _ rfl); have h3 : g < w2.heap.size := this; omega)
      have hqd : Hid (f = ⟨f.kind, N.data.toList⟩) := Lib.hid (by rw [hN])
      have hstep : Hid (F.take (k + 1) = F.take k ++ [f]) := Lib.hid (by
        obtain ⟨h2, e⟩ := List.getElem?_eq_some_iff.1 hq
        rw [List.take_succ_eq_append_getElem h2, e])
      have htk : Hid ((F.take k).length = k) := Lib.hid (by rw [List.length_take]; omega)
      have m1 : (0 : Int) ≤ (k : Int) := by omega
      have m2 : (k : Int) < (F.length : Int) := by omega
      clear hrows hN hq
      go_upto_region 7 with fail
      refine wp_region_noPanic ?_
      refine wp_region_held_drew (S := (fun W => Keeps (fun i => w2.heap.size ≤ i) wr W)) (by kernel_rfl) (((Keeps.refl _ _).drew)) (fun hHeld => ?_)
      refine tk 0 rfl ?_
      refine tk 1 rfl ?_
      refine tk 2 rfl ?_
      refine tk 3 rfl ?_
      refine tk 4 rfl ?_
      refine tkL 5 rfl (yieldsIf_load_cell (by rfl) 3 (.tmp 35) rfl g (o + k * 2 + 0) rfl _ (fun _ s => s.rangeAt hrow.out hgw.out 0 _ rfl) (fun w s => load_int w _ _ _ s)) ?_
      refine tk 6 rfl ?_
      refine tk 7 rfl ?_
      refine tk 8 rfl ?_
      refine tk 9 rfl ?_
      refine tkL 10 rfl (yieldsIf_load_cell (by rfl) 9 (.tmp 40) rfl g (o + k * 2 + 1) rfl _ (fun _ s => s.rangeAt hrow.out hgw.out 1 _ rfl) (fun w s => load_str w _ _ _ s)) ?_
      refine tk 11 rfl ?_
      refine stepL 12 rfl (by kernel_rfl) (fun K hK => ?_)
      go_simp
      refine hK.out _ _ ((hHeld.alloc _)) (fun hHeld => ?_)
      clear hK K
      try simp only [Act.put, sA, sZ, sS]
      refine stepL 13 rfl (by kernel_rfl) (fun K hK => ?_)
      rw [if_pos (by rfl)]
      (refine wp_append_r (.tmp 31) (.tmp 43) 24 41 rfl i0 _ 24 Try.underlying24 hi0 hi1 hi2 hi3 rfl (by decide) (by decide) fVals_len w2 _ k (F.take k) htk.out rfl (hO.out.keep (((Keeps.refl (fun _ => False) _).drew).alloc _) (fun _ _ f => f)) _ rfl ⟨f.kind, N.data.toList⟩ (cells_new rfl _ _) (fVals_one _) (by omega) ?_; intro q8 d8 w8 hO8 hg8; have hO8' := Lib.hid hO8; have hK8 := Lib.hid (OwnR.keeps (hO.out.keep (((Keeps.refl (fun _ => False) _).drew).alloc _) (fun _ _ f => f)) ((hKw.out.drew).alloc _) hg8); have hg8' := Lib.hid (hg8.k.mono (G := fun i => w2.heap.size ≤ i) (fun i e => .inl (hO.out.2.1 i e))); clear hO8 hg8)
      refine hK.out _ _ ((hHeld.trans hg8'.out)) (fun hHeld => ?_)
      clear hK K
      try simp only [Act.put, sA, sZ, sS]
      refine tk 14 rfl ?_
      refine wpAnyH_done (by kernel_rfl) (NoPanic.normal ?_) _
      clear hHeld hg8'
      go_wp2_with fail
      exact ⟨⟨k + 1, q8, d8, by omega, by go_num, rfl, by rw [hstep.out, hqd.out]; exact hO8', hK8⟩, by simp [intOf]; omega⟩
    · obtain rfl : k = F.length := by omega
      rw [List.take_length] at hO
      have hX := Lib.hid (hO.out.at fVals_len)
      have hR3 := Lib.hid (hR2.out.keep hKw.out)
      have hG3 := Lib.hid (hG2.out.keep hKw.out)
      have hk3 := Lib.hid (hk2.out.trans hKw.out)
      clear hO hKw hR2 hG2 hk2 hlk hk
      have hzz := textF_len hft1.out
      have hz : (textF F).length ≤ 1000000000 := by
        have : F.length * (10000000 + 11) ≤ 20 * (10000000 + 11) := Nat.mul_le_mul_right _ n2
        omega
      obtain ⟨T, hT⟩ : ∃ T : ByteArray, T = ⟨(textF F).toArray⟩ := ⟨_, rfl⟩
      have hT' := Lib.hid hT
      clear hzz hT
      go_wp2_with fail
      refine (tells_any _).mono ?_
      rintro e w5 ⟨rfl, k5⟩
      have hX5 := Lib.hid (hX.out.keep k5)
      have hR5 := Lib.hid (hR3.out.keep k5)
      have hG5 := Lib.hid (hG3.out.keep k5)
      have hk5 := Lib.hid (hk3.out.trans k5)
      clear k5 hX hR3 hG3 hk3
      have hLn := Lib.hid hR5.out.lines
      cases hz1 : rightC L with
      | true =>
        have hxe : xe = 0 := by have h := hr'.out; unfold checkR at h; rw [if_pos hz1] at h; injection h with h1 h2; exact h2.symm
        have hz1' := Lib.hid hz1
        subst hxe
        clear hz1 hr'
        go_wp2_with fail
        refine (rRight_c _ L _ _ hLn (by omega) hlt1 hz1').mono ?_
        rintro e w6 ⟨rfl, k6⟩
        have hX6 := Lib.hid (hX5.out.keep k6)
        have hG6 := Lib.hid (hG5.out.keep k6)
        have hk6 := Lib.hid (hk5.out.trans k6)
        clear k6 hX5 hG5 hk5 hz1' hLn hR5
        go_wp2_with fail
        refine (ruText_any _ F T _ hX6 (by omega) hz hT').mono ?_
        rintro e w7 ⟨rfl, k7⟩
        have hG7 := Lib.hid (hG6.out.keep k7)
        have hk7 := Lib.hid (hk6.out.trans k7)
        clear k7 hX6 hG6 hk6
        go_wp2_with fail
        refine (r8Text_any _ F T _ hG7 (by omega) hz hT').mono ?_
        rintro e w8 ⟨rfl, k8⟩
        have hk8 := Lib.hid (hk7.out.trans k8)
        clear k8 hG7 hk7
        go_wp2_with fail
        go_ret
        exact ⟨rfl, hk8.out⟩
      | false =>
        have hxe : xe = 1 := by have h := hr'.out; unfold checkR at h; rw [if_neg (by rw [hz1]; exact Bool.false_ne_true)] at h; injection h with h1 h2; exact h2.symm
        have hz1' := Lib.hid hz1
        subst hxe
        clear hz1 hr'
        go_wp2_with fail
        refine (rRight_c _ L _ _ hLn (by omega) hlt1 hz1').mono ?_
        rintro e w6 ⟨rfl, k6⟩
        have hX6 := Lib.hid (hX5.out.keep k6)
        have hG6 := Lib.hid (hG5.out.keep k6)
        have hk6 := Lib.hid (hk5.out.trans k6)
        clear k6 hX5 hG5 hk5 hz1' hLn hR5
        go_wp2_with fail
        refine (ruText_any _ F T _ hX6 (by omega) hz hT').mono ?_
        rintro e w7 ⟨rfl, k7⟩
        have hG7 := Lib.hid (hG6.out.keep k7)
        have hk7 := Lib.hid (hk6.out.trans k7)
        clear k7 hX6 hG6 hk6
        go_wp2_with fail
        refine (r8Text_any _ F T _ hG7 (by omega) hz hT').mono ?_
        rintro e w8 ⟨rfl, k8⟩
        have hk8 := Lib.hid (hk7.out.trans k8)
        clear k8 hG7 hk7
        go_wp2_with fail
        go_ret
        exact ⟨rfl, hk8.out⟩
end Go.Proofs.Ythofplmjlfhloaa
/- Lines and faults of the document that came in, of a bulk that is bounded (gen_rvg.py, out of CGL). -/
set_option linter.unusedVariables false
set_option linter.unusedSimpArgs false
namespace Go.Proofs.Ythofplmjlfhloaa
open Go.ChangeShapes Go.WideShapes Go.ChangeAt Go.RowKit Go.Deep

theorem bulk_part {H : Type} {d : DataW H} {l : List (DataW H)} (h : d ∈ l) : Rows.uptoBulk d ≤ Rows.uptoBulkAll l := by
  induction l with
  | nil => cases h
  | cons x r ih =>
    simp only [Rows.uptoBulkAll]
    rcases List.mem_cons.1 h with e | e
    · subst e; omega
    · have := ih e; omega
theorem bulk_len {H : Type} (l : List (DataW H)) : l.length ≤ Rows.uptoBulkAll l := by
  induction l with
  | nil => simp [Rows.uptoBulkAll]
  | cons x r ih =>
    have h1 : 1 ≤ Rows.uptoBulk x := by
      cases x with
      | lit l => cases l <;> simp [Rows.uptoBulk]
      | _ => simp [Rows.uptoBulk]
    simp only [Rows.uptoBulkAll, List.length_cons]; omega
theorem listX4 {α : Type} {l : List α} (h : l.length = 4) : ∃ a b c d, l = [a, b, c, d] := by
  match l, h with
  | [a, b, c, d], _ => exact ⟨a, b, c, d, rfl⟩
theorem listX2 {α : Type} {l : List α} (h : l.length = 2) : ∃ a b, l = [a, b] := by
  match l, h with
  | [a, b], _ => exact ⟨a, b, rfl⟩
theorem cxFault : Try.prog.cellsOf 40 = 2 := by kernel_rfl
theorem cxInt : Try.prog.cellsOf 3 = 1 := by kernel_rfl
theorem cxStr : Try.prog.cellsOf 9 = 1 := by kernel_rfl
theorem cxLine : Try.prog.cellsOf 45 = 4 := by kernel_rfl
theorem choose_l {α : Type} (n : Nat) (P : Nat → α → Prop) (h : ∀ i, i < n → ∃ a, P i a) : ∃ l : List α, l.length = n ∧ ∀ i a, l[i]? = some a → P i a := by
  induction n with
  | zero => exact ⟨[], rfl, fun i a e => by simp at e⟩
  | succ n ih =>
    obtain ⟨l, hl, hP⟩ := ih (fun i hi => h i (by omega))
    obtain ⟨a, ha⟩ := h n (by omega)
    refine ⟨l ++ [a], by simp [hl], fun i b e => ?_⟩
    by_cases hi : i < l.length
    · rw [List.getElem?_append_left hi] at e; exact hP i b e
    · rw [List.getElem?_append_right (by omega)] at e
      have : i = n := by have := (List.getElem?_eq_some_iff.1 e).1; simp at this; omega
      subst this
      rw [hl, Nat.sub_self] at e
      injection e with e; subst e; exact ha
section
variable {H : Type} {enc : TypeId × Value → H} {W : World}
set_option maxRecDepth 100000 in
theorem line_came {fuel : Nat} {cs : List Value} {x : DataW H × List MemPlace} {M : Nat} (hl : cs.length = 4) (h : DataW.trod enc Try.prog W 0 (fun _ => true) true fuel 45 cs = some x) (hM : Rows.uptoBulk x.1 ≤ M) :
    ∃ l : LineD, (l.name.length ≤ M ∧ l.leaf.length ≤ M ∧ l.value.length ≤ M) ∧ cs = lineVals l := by
  obtain ⟨c0, c1, c2, c3, rfl⟩ := listX4 hl
  obtain ⟨xs, n, -, hx, -, hlen, hf⟩ := DataW.trod_struct Try.underlying45 h
  obtain ⟨y0, y1, y2, y3, rfl⟩ := listX4 hlen
  have f0 : DataW.trod enc Try.prog W 0 (fun _ => true) true n 3 ((([c0, c1, c2, c3] : List Value).drop 0).take (Try.prog.cellsOf 3)) = some y0 := hf 0 _ rfl
  rw [cxInt] at f0
  have f1 : DataW.trod enc Try.prog W 0 (fun _ => true) true n 9 ((([c0, c1, c2, c3] : List Value).drop 1).take (Try.prog.cellsOf 9)) = some y1 := hf 1 _ rfl
  rw [cxStr] at f1
  have f2 : DataW.trod enc Try.prog W 0 (fun _ => true) true n 9 ((([c0, c1, c2, c3] : List Value).drop 2).take (Try.prog.cellsOf 9)) = some y2 := hf 2 _ rfl
  rw [cxStr] at f2
  have f3 : DataW.trod enc Try.prog W 0 (fun _ => true) true n 9 ((([c0, c1, c2, c3] : List Value).drop 3).take (Try.prog.cellsOf 9)) = some y3 := hf 3 _ rfl
  rw [cxStr] at f3
  obtain ⟨n0, e0, -, w0⟩ := DataW.trod_int Try.underlying3 f0
  obtain ⟨N, e1, r1, -⟩ := DataW.trod_string Try.underlying9 f1
  obtain ⟨F, e2, r2, -⟩ := DataW.trod_string Try.underlying9 f2
  obtain ⟨V, e3, r3, -⟩ := DataW.trod_string Try.underlying9 f3
  injection e0 with e0 _; injection e1 with e1 _; injection e2 with e2 _; injection e3 with e3 _
  subst e0; subst e1; subst e2; subst e3
  subst r1; subst r2; subst r3
  subst hx
  simp only [List.map_cons, List.map_nil, Rows.uptoBulk, Rows.uptoBulkAll] at hM
  exact ⟨⟨n0, N.data.toList, F.data.toList, V.data.toList⟩, ⟨by show N.data.toList.length ≤ M; omega, by show F.data.toList.length ≤ M; omega, by show V.data.toList.length ≤ M; omega⟩, rfl⟩
theorem lines_came {fuel : Nat} {x0 : Value} {x : DataW H × List MemPlace} {M : Nat} (h : DataW.trod enc Try.prog W 0 (fun _ => true) true fuel 22 [x0] = some x) (hM : Rows.uptoBulk x.1 ≤ M) :
    ∃ (ls : List LineD) (p : Option Addr) (c : Nat), x0 = .slice p ls.length c ∧ RowsAt 4 lineVals W (.slice p ls.length c) ls ∧ LinesLt ls M ∧ ls.length ≤ M := by
  rcases Go.Deep.open_slice Try.underlying22 h with ⟨hcs, -⟩ | ⟨a, len, cap, m, n, D, Pl, hcs, -, hlc, hm, hmm, hx, hall⟩
  · injection hcs with hcs _; subst hcs
    exact ⟨[], none, 0, rfl, RowsAt.nil _, (fun l hl => by cases hl), by simp⟩
  · injection hcs with hcs _; subst hcs
    simp only [if_true] at hmm
    subst hmm
    subst hx
    simp only [Rows.uptoBulk] at hM
    have hex : ∀ i, i < len → ∃ l : LineD, (l.name.length ≤ M ∧ l.leaf.length ≤ M ∧ l.value.length ≤ M) ∧ ∀ j, j < 4 → W.cell? ((a.add (i * 4)).add j) = (lineVals l)[j]? := fun i hi => by
      obtain ⟨cs', h1, h2⟩ := hall i (by omega)
      rw [cxLine] at h1
      obtain ⟨-, hl, hc⟩ := World.cells?_some h1
      obtain ⟨l, hok, rfl⟩ := line_came (M := M) hl h2 (Nat.le_trans (bulk_part (List.mem_map.2 ⟨i, List.mem_range.2 hi, rfl⟩)) (by omega))
      exact ⟨l, hok, hc⟩
    have hlenM : len ≤ M := by
      have h1 := bulk_len ((List.range len).map D)
      rw [List.length_map, List.length_range] at h1
      omega
    obtain ⟨ls, hlen2, hls⟩ := choose_l len _ hex
    refine ⟨ls, some a, m, by rw [hlen2], ⟨some a, m, rfl, (fun e => nomatch e), by rw [hlen2]; exact hlc, fun h0 => ?_⟩, fun l hl => ?_, by rw [hlen2]; exact hlenM⟩
    · obtain ⟨b, o, s⟩ := a
      have h00 := (hls 0 ls[0] (List.getElem?_eq_getElem h0)).2 0 (by omega)
      have hsn : s = none := by simpa [Addr.add] using World.cell?_spot (h00.trans (show (lineVals ls[0])[0]? = some (.int .i64 ls[0].head) from rfl))
      subst hsn
      refine ⟨b, o, rfl, fun i l hl j u hu => ?_⟩
      have hj : j < 4 := by have := (List.getElem?_eq_some_iff.1 hu).1; simpa [lineVals] using this
      have := (hls i l hl).2 j hj
      rw [hu, Addr.add_mid, Addr.add_mid] at this
      exact this
    · obtain ⟨i, hi, rfl⟩ := List.mem_iff_getElem.1 hl
      exact (hls i _ (List.getElem?_eq_getElem hi)).1
set_option maxRecDepth 100000 in
theorem fault_came {fuel : Nat} {cs : List Value} {x : DataW H × List MemPlace} {M : Nat} (hl : cs.length = 2) (h : DataW.trod enc Try.prog W 0 (fun _ => true) true fuel 40 cs = some x) (hM : Rows.uptoBulk x.1 ≤ M) :
    ∃ l : FaultD, l.name.length ≤ M ∧ cs = fVals l := by
  obtain ⟨c0, c1, rfl⟩ := listX2 hl
  obtain ⟨xs, n, -, hx, -, hlen, hf⟩ := DataW.trod_struct Try.underlying40 h
  obtain ⟨y0, y1, rfl⟩ := listX2 hlen
  have f0 : DataW.trod enc Try.prog W 0 (fun _ => true) true n 3 ((([c0, c1] : List Value).drop 0).take (Try.prog.cellsOf 3)) = some y0 := hf 0 _ rfl
  rw [cxInt] at f0
  have f1 : DataW.trod enc Try.prog W 0 (fun _ => true) true n 9 ((([c0, c1] : List Value).drop 1).take (Try.prog.cellsOf 9)) = some y1 := hf 1 _ rfl
  rw [cxStr] at f1
  obtain ⟨n0, e0, -, w0⟩ := DataW.trod_int Try.underlying3 f0
  obtain ⟨N, e1, r1, -⟩ := DataW.trod_string Try.underlying9 f1
  injection e0 with e0 _; injection e1 with e1 _
  subst e0; subst e1
  subst r1
  subst hx
  simp only [List.map_cons, List.map_nil, Rows.uptoBulk, Rows.uptoBulkAll] at hM
  exact ⟨⟨n0, N.data.toList⟩, by show N.data.toList.length ≤ M; omega, rfl⟩
theorem faults_came {fuel : Nat} {x0 : Value} {x : DataW H × List MemPlace} {M : Nat} (h : DataW.trod enc Try.prog W 0 (fun _ => true) true fuel 31 [x0] = some x) (hM : Rows.uptoBulk x.1 ≤ M) :
    ∃ (ls : List FaultD) (p : Option Addr) (c : Nat), x0 = .slice p ls.length c ∧ RowsAt 2 fVals W (.slice p ls.length c) ls ∧ FaultsLt ls M ∧ ls.length ≤ M := by
  rcases Go.Deep.open_slice Try.underlying31 h with ⟨hcs, -⟩ | ⟨a, len, cap, m, n, D, Pl, hcs, -, hlc, hm, hmm, hx, hall⟩
  · injection hcs with hcs _; subst hcs
    exact ⟨[], none, 0, rfl, RowsAt.nil _, (fun l hl => by cases hl), by simp⟩
  · injection hcs with hcs _; subst hcs
    simp only [if_true] at hmm
    subst hmm
    subst hx
    simp only [Rows.uptoBulk] at hM
    have hex : ∀ i, i < len → ∃ l : FaultD, l.name.length ≤ M ∧ ∀ j, j < 2 → W.cell? ((a.add (i * 2)).add j) = (fVals l)[j]? := fun i hi => by
      obtain ⟨cs', h1, h2⟩ := hall i (by omega)
      rw [cxFault] at h1
      obtain ⟨-, hl, hc⟩ := World.cells?_some h1
      obtain ⟨l, hok, rfl⟩ := fault_came (M := M) hl h2 (Nat.le_trans (bulk_part (List.mem_map.2 ⟨i, List.mem_range.2 hi, rfl⟩)) (by omega))
      exact ⟨l, hok, hc⟩
    have hlenM : len ≤ M := by
      have h1 := bulk_len ((List.range len).map D)
      rw [List.length_map, List.length_range] at h1
      omega
    obtain ⟨ls, hlen2, hls⟩ := choose_l len _ hex
    refine ⟨ls, some a, m, by rw [hlen2], ⟨some a, m, rfl, (fun e => nomatch e), by rw [hlen2]; exact hlc, fun h0 => ?_⟩, fun l hl => ?_, by rw [hlen2]; exact hlenM⟩
    · obtain ⟨b, o, s⟩ := a
      have h00 := (hls 0 ls[0] (List.getElem?_eq_getElem h0)).2 0 (by omega)
      have hsn : s = none := by simpa [Addr.add] using World.cell?_spot (h00.trans (show (fVals ls[0])[0]? = some (.int .i64 ls[0].kind) from rfl))
      subst hsn
      refine ⟨b, o, rfl, fun i l hl j u hu => ?_⟩
      have hj : j < 2 := by have := (List.getElem?_eq_some_iff.1 hu).1; simpa [fVals] using this
      have := (hls i l hl).2 j hj
      rw [hu, Addr.add_mid, Addr.add_mid] at this
      exact this
    · obtain ⟨i, hi, rfl⟩ := List.mem_iff_getElem.1 hl
      exact (hls i _ (List.getElem?_eq_getElem hi)).1
end
end Go.Proofs.Ythofplmjlfhloaa
/- RulesRaw, proved in its second form, for every input whose bulk is at most 1048576 (gen_rvh.py, out of CHP). -/
set_option linter.unusedVariables false
namespace Go.Proofs.Ythofplmjlfhloaa
open Go.ChangeShapes Go.WideShapes Go.ChangeAt Go.RowKit Go.WideMaps Go.Deep
open Go.ChangeMaps (open_string)
namespace rulesRawProof
theorem own : ownKnob Try.prog.godebug = none := by kernel_rfl
theorem laidOut : laidOutB Try.prog = true := by kernel_rfl
theorem bound {H : Type} {l : List (DataW H)} (hk : Rows.uptoSmall H l = true) : Rows.uptoBulkAll l ≤ 1048576 := by
  simpa [Rows.uptoSmall] using hk
set_option maxRecDepth 100000 in
theorem contract (H : Type) (enc : TypeId × Value → H) (W : World) (base : Nat) (args : Array Value) (ds gs : List (DataW H)) (before : List MemPlace)
    (hval : ∀ (j : Nat) t v, Try.f4.params[j]? = some t → args[j]? = some v → Value.okWide Try.prog W .any base t v)
    (hW : DataW.Whole enc Try.prog Try.f4.params.toList Rows.rulesRawSpec.vars false W args.toList ds gs before) (hk : Rows.uptoSmall H (ds ++ gs) = true) :
    Calls Try.prog 4 args W fun e W' => ∃ v, e = .returned v ∧ Rows.rulesRawSpec.post enc Try.prog Try.f4 false true false false W args v W' := by
  have hW' := hW
  obtain ⟨p, q, hA0, hV, rfl, hfz, hnd⟩ := hW
  have hA : DataW.TrodAll enc Try.prog W 0 (fun _ => true) true Try.f4.params.toList args.toList ds p := hA0
  rw [Try.params4] at hA hval
  obtain ⟨v0, vs0, d0, ds0, p0, q0, hargs, rfl, rfl, h0, r0⟩ := trodAll_cons hA
  obtain ⟨v1, vs1, d1, ds1, p1, q1, rfl, rfl, rfl, h1, r1⟩ := trodAll_cons r0
  obtain ⟨rfl, rfl, rfl⟩ := trodAll_nil r1
  obtain rfl : args = #[v0, v1] := by cases args; simp_all
  obtain ⟨rfl, rfl⟩ := trodVars_none hV
  have k0 := h0
  have k1 := h1
  have hb := bound hk
  simp only [List.append_nil, Rows.uptoBulkAll] at hb
  have lt0 : ∀ x ∈ p0, x.block < W.heap.size := by obtain ⟨m, hm⟩ := k0; exact DataW.trod_lt m _ _ _ hm
  have lt1 : ∀ x ∈ p1, x.block < W.heap.size := by obtain ⟨m, hm⟩ := k1; exact DataW.trod_lt m _ _ _ hm
  obtain ⟨sa, sl, sc, rfl⟩ := okWide_slice Try.underlying22 (hval 0 22 v0 rfl rfl)
  obtain ⟨m0, hm0⟩ := h0
  obtain ⟨ls, pz, cz, hvz, hrows, hlt, hlen⟩ := lines_came (M := 1048576) (show DataW.trod enc Try.prog W 0 (fun _ => true) true m0 22 [.slice sa sl sc] = some (d0, p0) from hm0) (by simp only; omega)
  rw [hvz] at hW' k0 hA0 ⊢
  obtain ⟨ta, tl, tc, rfl⟩ := okWide_slice Try.underlying31 (hval 1 31 v1 rfl rfl)
  obtain ⟨m1, hm1⟩ := h1
  obtain ⟨fs, py, cy, hvy, hrowf, hft, hflen⟩ := faults_came (M := 1048576) (show DataW.trod enc Try.prog W 0 (fun _ => true) true m1 31 [.slice ta tl tc] = some (d1, p1) from hm1) (by simp only; omega)
  rw [hvy] at hW' k1 hA0 ⊢
  clear hA0
  simp only [List.append_nil] at hW'
  refine (rulesRaw_law _ _ ls fs W (Lib.hid hrows) (by omega) (Lib.hid (small_mono hlt (by omega))) (Lib.hid hrowf) (by omega) (Lib.hid (fun f hf => Nat.le_trans (hft f hf) (by omega)))).mono fun e W' ⟨he, hke⟩ => ?_
  have bel := hke.below (Nat.le_refl _) (fun _ f => f.elim)
  subst he
  exact ⟨_, rfl, _, _, _, [], _, [], hW', trodAll_mk1 (shut_bool Try.underlying4 _), (trodAll_cons_mk (Below.trod laidOut (by kernel_rfl) (of_decide_eq_true (by kernel_rfl)) k0 bel lt0) (trodAll_cons_mk (Below.trod laidOut (by kernel_rfl) (of_decide_eq_true (by kernel_rfl)) k1 bel lt1) trodAll_mk0)), rfl, bel.frame _, fun h => by cases h⟩
set_option maxRecDepth 100000 in
theorem lifted (os : Os) (started : os.Started) (H : Type) (enc : TypeId × Value → H) (F : Stop.Interp) :
    ReturnsInHanded {} Try.checked os 4 .any ((Rows.OpenSpec.upto Rows.rulesRawSpec).pre6 enc Try.prog Try.f4 Rows.rulesRawUptoRow.domain false) (((Rows.OpenSpec.upto Rows.rulesRawSpec).at F).post enc Try.prog Try.f4 false true false false) := by
  refine returnsInHanded_of_cond (C := Try.checked) (s := Rows.OpenSpec.upto Rows.rulesRawSpec) (k := Rows.uptoSmall) rfl own started (by kernel_rfl) Try.func4
    (OpenSpec.witness (enc := enc) (C := Try.checked) (s := Rows.OpenSpec.upto Rows.rulesRawSpec) (k := Rows.uptoSmall) rfl false ⟨#[], #[.slice none 0 0, .slice none 0 0], []⟩ 8 (by kernel_rfl) (by kernel_rfl) (by kernel_rfl)
      (x := ([.nil, .nil], [], [])) (by kernel_rfl) rfl (by kernel_rfl)) ?_
  intro W base args ds gs before hval hW _ hk _
  exact contract H enc W base args ds gs before hval hW hk
theorem over : Rows.rulesRawUptoRow.holds Try.pinned (Rows.OpenSpec.upto Rows.rulesRawSpec) :=
  OpenClaim.holds_of_cond 4 Try.f4 rfl rfl rfl rfl rfl rfl rfl ⟨rfl, rfl, rfl, rfl, rfl⟩ rfl rfl rfl rfl rfl (by kernel_rfl) Try.func4 (by kernel_rfl)
    (of_decide_eq_true (by kernel_rfl)) (by unfold Func.isWrapper; first | (rw [if_pos (by decide +kernel)]; kernel_rfl) | (rw [if_neg (by decide +kernel)]; exact ⟨rfl, rfl⟩))
    (fun os started H enc _ F => lifted os started H enc F)
end rulesRawProof
theorem rulesRawUpto_holds : Rows.RulesRawUptoSaid := rulesRawProof.over
end Go.Proofs.Ythofplmjlfhloaa
