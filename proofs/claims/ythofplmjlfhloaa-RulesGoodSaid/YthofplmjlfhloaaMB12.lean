/- RulesRaw, walked (gen_rve.py). -/
import Derived.Test.YthofplmjlfhloaaMB11
import Derived.Test.YthofplmjlfhloaaMB08
import Derived.Test.YthofplmjlfhloaaMB05
import Derived.Deep.DeepCutAuto
import Derived.Test.YthofplmjlfhloaaRows
import Derived.ProofKit
import Derived.OpenShut
import Derived.ShutString
import Derived.ChangeOld
import Derived.Deep.Grids
set_option linter.unusedVariables false
set_option linter.unusedSimpArgs false
set_option linter.unusedVariables false
set_option linter.unusedSimpArgs false
namespace Go.Proofs.Ythofplmjlfhloaa
open Go.RowKit

theorem small_take {D : List LineD} {m : Nat} (h : LinesLt D m) (k : Nat) : LinesLt (D.take k) m := fun l hl => h l (List.mem_of_mem_take hl)
theorem small_mono {D : List LineD} {m k : Nat} (h : LinesLt D m) (hk : m ≤ k) : LinesLt D k := fun l hl => by have := h l hl; omega
def lawEndR (w : World) (e : Ending) (w' : World) : Prop := e = .returned (.bool true) ∧ Keeps (fun _ => False) w w'
def FaultsLt (fs : List FaultD) (m : Nat) : Prop := ∀ f ∈ fs, f.name.length ≤ m
theorem textF_len {fs : List FaultD} {m : Nat} (h : FaultsLt fs m) : (textF fs).length ≤ fs.length * (m + 11) := by
  induction fs with
  | nil => simp [textF]
  | cons f fs ih =>
    have h1 := ih (fun x hx => h x (List.mem_cons_of_mem _ hx))
    have h2 := h f (List.mem_cons_self ..)
    have h3 := wordF_len f.kind
    have h4 : (pieceF f).length ≤ m + 11 := by
      unfold pieceF
      rw [List.length_append, List.length_append]
      split
      · simp; omega
      · simp; omega
    have e : textF (f :: fs) = pieceF f ++ textF fs := by unfold textF; rw [List.flatMap_cons]
    rw [e, List.length_append, List.length_cons, Nat.add_mul]; omega

set_option maxRecDepth 100000 in
set_option maxHeartbeats 8000000 in
theorem rulesRaw_law (v u : Value) (ls : List LineD) (fs : List FaultD) (w : World) (hv : Hid (RowsAt 4 lineVals w v ls)) (hl : ls.length ≤ 1000000000000) (hlt : Hid (LinesLt ls 8796093022000)) (hu : Hid (RowsAt 2 fVals w u fs)) (hfl : fs.length ≤ 1000000000000) (hft : Hid (FaultsLt fs 10000000)) :
    Calls Try.prog 4 #[v, u] w (lawEndR w) := by
  obtain ⟨p, c, rfl⟩ := hv.out.slice
  obtain ⟨q, d, rfl⟩ := hu.out.slice
  have hcap : ls.length ≤ c := by
    obtain ⟨p9, c9, e9, -, h9, -⟩ := hv.out
    injection e9 with e1 e2 e3
    subst e3; exact h9
  have hcap2 : fs.length ≤ d := by
    obtain ⟨p9, c9, e9, -, h9, -⟩ := hu.out
    injection e9 with e1 e2 e3
    subst e3; exact h9
  obtain ⟨nl, hnl⟩ : ∃ n : Nat, n = min ls.length 20 := ⟨_, rfl⟩
  obtain ⟨nf, hnf⟩ : ∃ n : Nat, n = min fs.length 20 := ⟨_, rfl⟩
  have m1 : min (ls.length : Int) 20 = (nl : Int) := by omega
  have m2 : min (fs.length : Int) 20 = (nf : Int) := by omega
  have m3 : (nl : Int) ≤ (c : Int) := by omega
  have m4 : (nf : Int) ≤ (d : Int) := by omega
  have m5 : (0 : Int) ≤ (nl : Int) := by omega
  have m6 : (0 : Int) ≤ (nf : Int) := by omega
  have hL : (ls.take nl).length = nl := by rw [List.length_take]; omega
  have hF : (fs.take nf).length = nf := by rw [List.length_take]; omega
  have hR := Lib.hid (hv.out.take nl (by omega))
  have hG := Lib.hid (hu.out.take nf (by omega))
  have hlt1 := Lib.hid (small_take hlt.out nl)
  have hft1 : Hid (FaultsLt (fs.take nf) 10000000) := Lib.hid (fun l hl => hft.out l (List.mem_of_mem_take hl))
  have n1 : nl ≤ 20 := by omega
  have n2 : nf ≤ 20 := by omega
  have hL' := Lib.hid hL
  have hF' := Lib.hid hF
  clear hnl hnf hL hF hv hu hlt hft hcap hcap2
  go_enter Try.func4, Try.ntmps4
  go_upto_region 1 with fail
  refine wp_region_noPanic ?_
  refine wp_region_held_drew (S := (fun W => W = w.drew)) (by kernel_rfl) ((rfl)) (fun hHeld => ?_)
  refine tk 0 rfl ?_
  refine tk 1 rfl ?_
  refine tk 2 rfl ?_
  refine tk 3 rfl ?_
  refine tk 4 (v := .slice p nl c) (hy := fun wS hSw => by go_simp) rfl ?_
  refine tk 5 rfl ?_
  refine tk 6 rfl ?_
  refine tk 7 rfl ?_
  refine tk 8 rfl ?_
  refine tk 9 (v := .slice q nf d) (hy := fun wS hSw => by go_simp) rfl ?_
  refine tk 10 rfl ?_
  refine tk 11 rfl ?_
  refine wpAnyH_done (by kernel_rfl) (NoPanic.normal ?_) _
  clear hHeld
  obtain ⟨L, hLe⟩ : ∃ L, ls.take nl = L := ⟨_, rfl⟩
  obtain ⟨F, hFe⟩ : ∃ L, fs.take nf = L := ⟨_, rfl⟩
  rw [hLe] at hR hlt1 hL'
  rw [hFe] at hG hft1 hF'
  obtain rfl : L.length = nl := hL'.out
  obtain rfl : F.length = nf := hF'.out
  have hR0 := Lib.hid (hR.out.keep ((Keeps.refl (fun _ => False) _).drew))
  have hG0 := Lib.hid (hG.out.keep ((Keeps.refl (fun _ => False) _).drew))
  have k0 := Lib.hid ((Keeps.refl (fun _ => False) w).drew)
  clear hLe hFe hL' hF' m1 m2 m3 m4 m5 m6 hR hG
  generalize hw0 : w.drew = w0 at hR0 hG0 k0 ⊢
  clear hw0
  go_wp2_with fail
  refine (to_any _ L _ hR0 (by omega)).mono ?_
  rintro e w1 ⟨p1, c1, rfl, hO1, k1⟩
  have hC1 := Lib.hid (hO1.at lineVals_len)
  have hR1 := Lib.hid (hR0.out.keep k1)
  have hG1 := Lib.hid (hG0.out.keep k1)
  have hk1 := Lib.hid (k0.out.trans k1)
  clear hO1 k1 hR0 hG0 k0
  go_wp2_with fail
  refine (ruCheck_any _ L _ hC1 (by omega) (Lib.hid (small_mono hlt1.out (by omega)))).mono ?_
  obtain ⟨r, hr⟩ : ∃ r, checkR L = r := ⟨_, rfl⟩
  rw [hr]
  obtain ⟨xf, xe⟩ := r
  rintro e w2 ⟨p2, c2, rfl, hO2, k2⟩
  have hr' := Lib.hid hr
  have hR2 := Lib.hid (hR1.out.keep k2)
  have hG2 := Lib.hid (hG1.out.keep k2)
  have hk2 := Lib.hid (hk1.out.trans k2)
  clear hO2 k2 hR1 hG1 hk1 hC1 hr
  obtain ⟨i0, hi0, hi1, hi2, hi3⟩ := faultAll
  go_wp2_with fail
  go_loopw [8, 7] (fun iv ov wr => ∃ (k : Nat) (qa : Option Addr) (dd : Nat), k ≤ F.length ∧ iv = .int .i64 k ∧ ov = .slice qa k dd ∧ Hid (OwnR 41 2 fVals w2 wr ov (F.take k)) ∧ Hid (Keeps (fun _ => False) w2 wr)) (fun iv _ _ => F.length - (intOf iv).toNat)
  case atStart => exact ⟨0, none, 0, by omega, rfl, rfl, Lib.hid (OwnR.nil _ _ (Nat.le_refl _)), Lib.hid (Keeps.refl _ _)⟩
  case round =>
    obtain ⟨k, qa, dd, hk, rfl, rfl, hO, hKw⟩ := hrel
    by_cases hlk : k < F.length
    · obtain ⟨g, o, rfl, hrows⟩ := hG2.out.open (by omega)
      obtain ⟨f, hq⟩ : ∃ q, F[k]? = some q := ⟨_, List.getElem?_eq_getElem hlk⟩
      obtain ⟨N, hN⟩ : ∃ N : ByteArray, N = ⟨f.name.toArray⟩ := ⟨_, rfl⟩
      have hrow : Hid (wr.rangeAt g (o + k * 2) [.int .i64 f.kind, .string N]) := Lib.hid (by rw [hN]; exact hKw.out.rangeAt (hrows k f hq) id)
      have hgw : Hid (¬ w2.heap.size ≤ g) := Lib.hid (by have := World.block_lt_of_cell? w2 _ (hrows k f hq 0 _ rfl); have h3 : g < w2.heap.size := this; omega)
      have hqd : Hid (f = ⟨f.kind, N.data.toList⟩) := Lib.hid (by rw [hN])
      have hstep : Hid (F.take (k + 1) = F.take k ++ [f]) := Lib.hid (by
        obtain ⟨h2, e⟩ := List.getElem?_eq_some_iff.1 hq
        rw [List.take_succ_eq_append_getElem h2, e])
      have htk : Hid ((F.take k).length = k) := Lib.hid (by rw [List.length_take]; omega)
      have m1 : (0 : Int) ≤ (k : Int) := by omega
      have m2 : (k : Int) < (F.length : Int) := by omega
      clear hrows hN hq
      go_upto_region 7 with fail
      refine wp_region_noPanic ?_
      refine wp_region_held_drew (S := (fun W => Keeps (fun i => w2.heap.size ≤ i) wr W)) (by kernel_rfl) (((Keeps.refl _ _).drew)) (fun hHeld => ?_)
      refine tk 0 rfl ?_
      refine tk 1 rfl ?_
      refine tk 2 rfl ?_
      refine tk 3 rfl ?_
      refine tk 4 rfl ?_
      refine tkL 5 rfl (yieldsIf_load_cell (by rfl) 3 (.tmp 35) rfl g (o + k * 2 + 0) rfl _ (fun _ s => s.rangeAt hrow.out hgw.out 0 _ rfl) (fun w s => load_int w _ _ _ s)) ?_
      refine tk 6 rfl ?_
      refine tk 7 rfl ?_
      refine tk 8 rfl ?_
      refine tk 9 rfl ?_
      refine tkL 10 rfl (yieldsIf_load_cell (by rfl) 9 (.tmp 40) rfl g (o + k * 2 + 1) rfl _ (fun _ s => s.rangeAt hrow.out hgw.out 1 _ rfl) (fun w s => load_str w _ _ _ s)) ?_
      refine tk 11 rfl ?_
      refine stepL 12 rfl (by kernel_rfl) (fun K hK => ?_)
      go_simp
      refine hK.out _ _ ((hHeld.alloc _)) (fun hHeld => ?_)
      clear hK K
      try simp only [Act.put, sA, sZ, sS]
      refine stepL 13 rfl (by kernel_rfl) (fun K hK => ?_)
      rw [if_pos (by rfl)]
      (refine wp_append_r (.tmp 31) (.tmp 43) 24 41 rfl i0 _ 24 Try.underlying24 hi0 hi1 hi2 hi3 rfl (by decide) (by decide) fVals_len w2 _ k (F.take k) htk.out rfl (hO.out.keep (((Keeps.refl (fun _ => False) _).drew).alloc _) (fun _ _ f => f)) _ rfl ⟨f.kind, N.data.toList⟩ (cells_new rfl _ _) (fVals_one _) (by omega) ?_; intro q8 d8 w8 hO8 hg8; have hO8' := Lib.hid hO8; have hK8 := Lib.hid (OwnR.keeps (hO.out.keep (((Keeps.refl (fun _ => False) _).drew).alloc _) (fun _ _ f => f)) ((hKw.out.drew).alloc _) hg8); have hg8' := Lib.hid (hg8.k.mono (G := fun i => w2.heap.size ≤ i) (fun i e => .inl (hO.out.2.1 i e))); clear hO8 hg8)
      refine hK.out _ _ ((hHeld.trans hg8'.out)) (fun hHeld => ?_)
      clear hK K
      try simp only [Act.put, sA, sZ, sS]
      refine tk 14 rfl ?_
      refine wpAnyH_done (by kernel_rfl) (NoPanic.normal ?_) _
      clear hHeld hg8'
      go_wp2_with fail
      exact ⟨⟨k + 1, q8, d8, by omega, by go_num, rfl, by rw [hstep.out, hqd.out]; exact hO8', hK8⟩, by simp [intOf]; omega⟩
    · obtain rfl : k = F.length := by omega
      rw [List.take_length] at hO
      have hX := Lib.hid (hO.out.at fVals_len)
      have hR3 := Lib.hid (hR2.out.keep hKw.out)
      have hG3 := Lib.hid (hG2.out.keep hKw.out)
      have hk3 := Lib.hid (hk2.out.trans hKw.out)
      clear hO hKw hR2 hG2 hk2 hlk hk
      have hzz := textF_len hft1.out
      have hz : (textF F).length ≤ 1000000000 := by
        have : F.length * (10000000 + 11) ≤ 20 * (10000000 + 11) := Nat.mul_le_mul_right _ n2
        omega
      obtain ⟨T, hT⟩ : ∃ T : ByteArray, T = ⟨(textF F).toArray⟩ := ⟨_, rfl⟩
      have hT' := Lib.hid hT
      clear hzz hT
      go_wp2_with fail
      refine (tells_any _).mono ?_
      rintro e w5 ⟨rfl, k5⟩
      have hX5 := Lib.hid (hX.out.keep k5)
      have hR5 := Lib.hid (hR3.out.keep k5)
      have hG5 := Lib.hid (hG3.out.keep k5)
      have hk5 := Lib.hid (hk3.out.trans k5)
      clear k5 hX hR3 hG3 hk3
      have hLn := Lib.hid hR5.out.lines
      cases hz1 : rightC L with
      | true =>
        have hxe : xe = 0 := by have h := hr'.out; unfold checkR at h; rw [if_pos hz1] at h; injection h with h1 h2; exact h2.symm
        have hz1' := Lib.hid hz1
        subst hxe
        clear hz1 hr'
        go_wp2_with fail
        refine (rRight_c _ L _ _ hLn (by omega) hlt1 hz1').mono ?_
        rintro e w6 ⟨rfl, k6⟩
        have hX6 := Lib.hid (hX5.out.keep k6)
        have hG6 := Lib.hid (hG5.out.keep k6)
        have hk6 := Lib.hid (hk5.out.trans k6)
        clear k6 hX5 hG5 hk5 hz1' hLn hR5
        go_wp2_with fail
        refine (ruText_any _ F T _ hX6 (by omega) hz hT').mono ?_
        rintro e w7 ⟨rfl, k7⟩
        have hG7 := Lib.hid (hG6.out.keep k7)
        have hk7 := Lib.hid (hk6.out.trans k7)
        clear k7 hX6 hG6 hk6
        go_wp2_with fail
        refine (r8Text_any _ F T _ hG7 (by omega) hz hT').mono ?_
        rintro e w8 ⟨rfl, k8⟩
        have hk8 := Lib.hid (hk7.out.trans k8)
        clear k8 hG7 hk7
        go_wp2_with fail
        go_ret
        exact ⟨rfl, hk8.out⟩
      | false =>
        have hxe : xe = 1 := by have h := hr'.out; unfold checkR at h; rw [if_neg (by rw [hz1]; exact Bool.false_ne_true)] at h; injection h with h1 h2; exact h2.symm
        have hz1' := Lib.hid hz1
        subst hxe
        clear hz1 hr'
        go_wp2_with fail
        refine (rRight_c _ L _ _ hLn (by omega) hlt1 hz1').mono ?_
        rintro e w6 ⟨rfl, k6⟩
        have hX6 := Lib.hid (hX5.out.keep k6)
        have hG6 := Lib.hid (hG5.out.keep k6)
        have hk6 := Lib.hid (hk5.out.trans k6)
        clear k6 hX5 hG5 hk5 hz1' hLn hR5
        go_wp2_with fail
        refine (ruText_any _ F T _ hX6 (by omega) hz hT').mono ?_
        rintro e w7 ⟨rfl, k7⟩
        have hG7 := Lib.hid (hG6.out.keep k7)
        have hk7 := Lib.hid (hk6.out.trans k7)
        clear k7 hX6 hG6 hk6
        go_wp2_with fail
        refine (r8Text_any _ F T _ hG7 (by omega) hz hT').mono ?_
        rintro e w8 ⟨rfl, k8⟩
        have hk8 := Lib.hid (hk7.out.trans k8)
        clear k8 hG7 hk7
        go_wp2_with fail
        go_ret
        exact ⟨rfl, hk8.out⟩
end Go.Proofs.Ythofplmjlfhloaa
/- RulesGood, plain: its configurations, reckoned. -/
set_option linter.unusedVariables false
set_option linter.unusedSimpArgs false
namespace Go.Proofs.Ythofplmjlfhloaa
open Go.RowKit

def dgt (k : Nat) : UInt8 := UInt8.ofNat (48 + k)
def topG : LineD := ⟨0, [], routerW, [49, 46, 50, 46, 51, 46, 52]⟩
def pairG (k : Nat) : List LineD := [⟨2, [101, dgt k], areaL, boneW⟩, ⟨2, [101, dgt k], addressL, [49, 48, 46] ++ [dgt k] ++ [46, 48, 46, 49, 47, 49, 54]⟩]
def pairsG : Nat → List LineD
  | 0 => []
  | k + 1 => pairsG k ++ pairG k
def linesG (k : Nat) : List LineD := topG :: pairsG k
def zG (k : Nat) : List LineD := [⟨2, [122], areaL, boneW⟩, ⟨2, [122], addressL, [49, 48, 46] ++ [dgt k] ++ [46, 50, 48, 48, 46, 49, 47, 50, 52]⟩]
def manyG : List UInt8 := [116, 111, 111, 109, 97, 110, 121, 10]
def wantG (n : Nat) : List UInt8 := if 8 < n then manyG else []
def lastG (n : Nat) : List UInt8 := [111, 118, 101, 114, 108, 97, 112, 32, 122, 10] ++ (if 7 < n then manyG else [])
def goodG (n : Nat) : Bool := decide (textF (checkC (buildC (linesG n))) = wantG n) && decide (textF (checkC (buildC (pairsG n))) = [110, 111, 114, 111, 117, 116, 101, 114, 10] ++ wantG n) &&
  (List.range n).all (fun k => decide (textF (checkC (buildC (linesG n ++ zG k))) = lastG n))
set_option maxRecDepth 100000 in
theorem good_all : (List.range 9).all (fun m => goodG (m + 1)) = true := by decide +kernel
end Go.Proofs.Ythofplmjlfhloaa
/- RulesGood, walked (gen_rvj.py). -/
set_option linter.unusedVariables false
set_option linter.unusedSimpArgs false
namespace Go.Proofs.Ythofplmjlfhloaa
open Go.RowKit

theorem u64_natv (n : Int) : ∃ U : Nat, IntKind.u64.wrap n = (U : Int) := by
  refine ⟨(n % 18446744073709551616).toNat, ?_⟩
  unfold IntKind.wrap
  have h1 : IntKind.u64.signed = false := rfl
  have h2 : (2 : Int) ^ IntKind.u64.bits = 18446744073709551616 := rfl
  simp [h1, h2]; omega
theorem dgt_nat {k : Nat} (h : k < 10) : (48 + (k : Int)) = ((dgt k).toNat : Int) := by
  unfold dgt
  rw [UInt8.toNat_ofNat_of_lt' (by show _ < 256; omega)]
  omega
theorem pairsG_len (k : Nat) : (pairsG k).length = 2 * k := by
  induction k with
  | zero => rfl
  | succ k ih => show (pairsG k ++ pairG k).length = _; rw [List.length_append, ih]; show _ + 2 = _; omega
theorem linesG_len (k : Nat) : (linesG k).length = 2 * k + 1 := by show (pairsG k).length + 1 = _; rw [pairsG_len]
theorem linesG_step (k : Nat) : linesG (k + 1) = linesG k ++ pairG k := rfl
theorem pairsG_lt (k : Nat) : LinesLt (pairsG k) 100 := by
  induction k with
  | zero => intro l hl; cases hl
  | succ k ih =>
    intro l hl
    rcases List.mem_append.1 (show l ∈ pairsG k ++ pairG k from hl) with h | h
    · exact ih l h
    · simp only [pairG, List.mem_cons, List.not_mem_nil, or_false] at h
      rcases h with rfl | rfl <;> simp [areaL, addressL, boneW]
theorem linesG_lt (k : Nat) : LinesLt (linesG k) 100 := by
  intro l hl
  rcases List.mem_cons.1 (show l ∈ topG :: pairsG k from hl) with h | h
  · subst h; simp [topG, routerW]
  · exact pairsG_lt k l h
theorem zG_lt (n k : Nat) : LinesLt (linesG n ++ zG k) 100 := by
  intro l hl
  rcases List.mem_append.1 hl with h | h
  · exact linesG_lt n l h
  · simp only [zG, List.mem_cons, List.not_mem_nil, or_false] at h
    rcases h with rfl | rfl <;> simp [areaL, addressL, boneW]
theorem good_one {n : Nat} (h1 : 1 ≤ n) (h9 : n ≤ 9) : textF (checkC (buildC (linesG n))) = wantG n ∧ textF (checkC (buildC (pairsG n))) = [110, 111, 114, 111, 117, 116, 101, 114, 10] ++ wantG n ∧ ∀ k, k < n → textF (checkC (buildC (linesG n ++ zG k))) = lastG n := by
  have h := List.all_eq_true.1 good_all (n - 1) (List.mem_range.2 (by omega))
  rw [show n - 1 + 1 = n by omega] at h
  unfold goodG at h
  simp only [Bool.and_eq_true, decide_eq_true_eq] at h
  exact ⟨h.1.1, h.1.2, fun k hk => by simpa using List.all_eq_true.1 h.2 k (List.mem_range.2 hk)⟩
/-- two lines in a new block -/
theorem rows_two (w : World) (g : Nat) (hg : g = w.heap.size) (a b : LineD) (t : TypeId) (A B : Int) (A1 A2 A3 B1 B2 B3 : ByteArray) (ha : a = ⟨A, A1.data.toList, A2.data.toList, A3.data.toList⟩) (hb : b = ⟨B, B1.data.toList, B2.data.toList, B3.data.toList⟩) :
    RowsAt 4 lineVals (w.alloc (.cells #[.int .i64 A, .string A1, .string A2, .string A3, .int .i64 B, .string B1, .string B2, .string B3] t)) (.slice (some ⟨g, 0, none⟩) 2 2) [a, b] := by
  subst hg; subst ha; subst hb
  have h := new_rangeb w [.int .i64 A, .string A1, .string A2, .string A3, .int .i64 B, .string B1, .string B2, .string B3] t
  refine ⟨_, 2, rfl, fun h => (by cases h), by simp, fun _ => ⟨_, 0, rfl, fun i x hx => ?_⟩⟩
  match i, hx with
  | 0, hx =>
    simp at hx; subst hx
    intro j u hu
    have hj : j < 4 := by have := (List.getElem?_eq_some_iff.1 hu).1; simpa [lineVals] using this
    have := h j u (by rw [← hu]; match j, hj with | 0, _ => rfl | 1, _ => rfl | 2, _ => rfl | 3, _ => rfl)
    simpa using this
  | 1, hx =>
    simp at hx; subst hx
    intro j u hu
    have hj : j < 4 := by have := (List.getElem?_eq_some_iff.1 hu).1; simpa [lineVals] using this
    have := h (4 + j) u (by rw [← hu]; match j, hj with | 0, _ => rfl | 1, _ => rfl | 2, _ => rfl | 3, _ => rfl)
    simpa using this
  | n + 2, hx => simp at hx

theorem check_len {ls : List LineD} (hr : rightC ls = true) : (checkC ls).length ≤ 1000000 := by
  have hlen := right_len hr
  have h1 := namesA_len 2 ls
  have h2 := router_len ls (namesA 2 ls)
  have h3 := unset_len 2 (namesA 2 ls) (valuesC ls (namesA 2 ls) areaL) (by omega)
  have h4 := unset_len 3 (namesA 2 ls) (valuesC ls (namesA 2 ls) addressL) (by omega)
  have h5 := over_len (namesA 2 ls) (valuesC ls (namesA 2 ls) addressL) (by omega)
  have h6 := bad_len (namesA 2 ls) (valuesC ls (namesA 2 ls) deadW) (valuesC ls (namesA 2 ls) helloW) (by omega)
  have h7 := back_len ls (valuesC ls (namesA 2 ls) areaL)
  have h8 := unused_len ls (valuesC ls (namesA 2 ls) areaL) hlen
  have h9 : (tooManyC (namesA 2 ls)).length ≤ 1 := by unfold tooManyC; split <;> simp
  unfold checkC
  simp only [List.length_append]
  omega
theorem ba_app (a b : List UInt8) : (⟨a.toArray⟩ : ByteArray) ++ ⟨b.toArray⟩ = ⟨(a ++ b).toArray⟩ := by apply ByteArray.ext; simp
theorem alloc_size (w : World) (o : Obj) : (w.alloc o).heap.size = w.heap.size + 1 := Array.size_push ..
theorem own_new5 (w : World) (f : LineD) : OwnR 45 4 lineVals w (w.alloc (.cells (lineVals f).toArray 45)) (.slice (some ⟨w.heap.size, 0, none⟩) 1 1) [f] := by
  refine ⟨⟨by simp [rowCells, lineVals], .inr ⟨w.heap.size, 1, (lineVals f).toArray, rfl, Nat.zero_le _, heap_alloc_last w _, by simp, by unfold maxLen; simp, by simp [lineVals], by simp [rowCells, lineVals]⟩⟩, fun k e => by simp [Value.ownBlock] at e; omega, ((Keeps.refl (fun _ => False) w).alloc _).size⟩
set_option maxRecDepth 100000 in
set_option maxHeartbeats 16000000 in
theorem rulesGood_law (count which : Int) (w : World) : Calls Try.prog 5 #[.int .i64 count, .int .i64 which] w (lawEndR w) := by
  obtain ⟨i0, hi0, hi1, hi2, hi3⟩ := line5All
  obtain ⟨U, hU⟩ := u64_natv count
  obtain ⟨V, hV⟩ := u64_natv which
  obtain ⟨n, e1, hn1, hn9⟩ : ∃ N : Nat, 1 + (U : Int) % 9 = N ∧ 1 ≤ N ∧ N ≤ 9 := ⟨1 + U % 9, by omega, by omega, by omega⟩
  obtain ⟨K, e2, hKn⟩ : ∃ K : Nat, (V : Int) % (n : Int) = K ∧ K < n := ⟨V % n, by omega, Nat.mod_lt _ (by omega)⟩
  go_enter Try.func5, Try.ntmps5
  have hO0 : Hid (OwnR 45 4 lineVals w (w.alloc (.cells #[.int .i64 0, .string ⟨#[]⟩, .string ⟨#[114, 111, 117, 116, 101, 114, 45, 105, 100]⟩, .string ⟨#[49, 46, 50, 46, 51, 46, 52]⟩] 45)) (.slice (some ⟨w.heap.size, 0, none⟩) (linesG 0).length 1) (linesG 0)) := Lib.hid (own_new5 w topG)
  have hK0 : Hid (Keeps (fun _ => False) w (w.alloc (.cells #[.int .i64 0, .string ⟨#[]⟩, .string ⟨#[114, 111, 117, 116, 101, 114, 45, 105, 100]⟩, .string ⟨#[49, 46, 50, 46, 51, 46, 52]⟩] 45))) := Lib.hid ((Keeps.refl _ _).alloc _)
  go_wp2_with fail
  clear e1 hU
  go_loopw [7, 6] (fun iv lv wr => ∃ (k : Nat) (q : Option Addr) (d : Nat), k ≤ n ∧ iv = .int .i64 k ∧ lv = .slice q (linesG k).length d ∧ Hid (OwnR 45 4 lineVals w wr lv (linesG k)) ∧ Hid (Keeps (fun _ => False) w wr)) (fun iv _ _ => n - (intOf iv).toNat)
  case atStart => exact ⟨0, _, 1, by omega, rfl, rfl, hO0, hK0⟩
  case round =>
    obtain ⟨k, q, d, hk, rfl, rfl, hO, hKr⟩ := hrel
    by_cases hlk : k < n
    · obtain ⟨C, hC⟩ : ∃ C : ByteArray, C = ⟨#[dgt k]⟩ := ⟨_, rfl⟩
      have hcv := conv_one wr (48 + (k : Int)) (dgt k) (dgt_nat (by omega))
      have hcv2 := conv_one (wr.alloc (.cells #[.int .u8 (48 + (k : Int))] 5)) (48 + (k : Int)) (dgt k) (dgt_nat (by omega))
      rw [← hC] at hcv hcv2
      have hCs : C.size ≤ 1 := by rw [hC]; exact Nat.le_refl _
      have hC' := Lib.hid hC; clear hC
      have m1 : (0 : Int) ≤ (k : Int) := by omega
      have m2 : (k : Int) < 9 := by omega
      have sz1 : (wr.alloc (.cells #[.int .u8 (48 + (k : Int))] 5)).heap.size = wr.heap.size + 1 := alloc_size _ _
      have sz2 : (((wr.alloc (.cells #[.int .u8 (48 + (k : Int))] 5)).alloc (.cells #[.int .u8 (48 + (k : Int))] 5)).heap.size) = wr.heap.size + 1 + 1 := by rw [alloc_size, alloc_size]
      rw [sz1] at hcv2
      have hO3 := Lib.hid (hO.out.keep ((((Keeps.refl (fun _ => False) wr).alloc (.cells #[.int .u8 (48 + (k : Int))] 5)).alloc (.cells #[.int .u8 (48 + (k : Int))] 5)).alloc (.cells #[.int .i64 2, .string (⟨#[101]⟩ ++ C), .string ⟨#[97, 114, 101, 97]⟩, .string ⟨#[48, 46, 48, 46, 48, 46, 48]⟩, .int .i64 2, .string (⟨#[101]⟩ ++ C), .string ⟨#[97, 100, 100, 114, 101, 115, 115]⟩, .string (⟨#[49, 48, 46]⟩ ++ C ++ ⟨#[46, 48, 46, 49, 47, 49, 54]⟩)] 45)) (fun _ _ f => f))
      have hK3 := Lib.hid (((hKr.out.alloc (.cells #[.int .u8 (48 + (k : Int))] 5)).alloc (.cells #[.int .u8 (48 + (k : Int))] 5)).alloc (.cells #[.int .i64 2, .string (⟨#[101]⟩ ++ C), .string ⟨#[97, 114, 101, 97]⟩, .string ⟨#[48, 46, 48, 46, 48, 46, 48]⟩, .int .i64 2, .string (⟨#[101]⟩ ++ C), .string ⟨#[97, 100, 100, 114, 101, 115, 115]⟩, .string (⟨#[49, 48, 46]⟩ ++ C ++ ⟨#[46, 48, 46, 49, 47, 49, 54]⟩)] 45))
      have hR3 : Hid (RowsAt 4 lineVals _ _ (pairG k)) := Lib.hid (rows_two ((wr.alloc (.cells #[.int .u8 (48 + (k : Int))] 5)).alloc (.cells #[.int .u8 (48 + (k : Int))] 5)) (wr.heap.size + 1 + 1) sz2.symm ⟨2, [101, dgt k], areaL, boneW⟩ ⟨2, [101, dgt k], addressL, [49, 48, 46] ++ [dgt k] ++ [46, 48, 46, 49, 47, 49, 54]⟩ 45 2 2 (⟨#[101]⟩ ++ C) ⟨#[97, 114, 101, 97]⟩ ⟨#[48, 46, 48, 46, 48, 46, 48]⟩ (⟨#[101]⟩ ++ C) ⟨#[97, 100, 100, 114, 101, 115, 115]⟩ (⟨#[49, 48, 46]⟩ ++ C ++ ⟨#[46, 48, 46, 49, 47, 49, 54]⟩) (by rw [hC'.out]; rfl) (by rw [hC'.out]; simp [addressL]))
      clear hO hKr hO0 hK0 sz1 sz2
      go_wp2_with ((with_reducible refine at_slot 49 ?_); go_must (refine wpList_append_rows rfl (.tmp 36) (.tmp 48) 22 45 rfl i0 _ 56 Try.underlying22 hi0 hi1 hi2 hi3 rfl (by decide) (by decide) lineVals_len lineVals_one w _ (linesG k) rfl hO3.out _ rfl (pairG k) hR3.out (by rw [linesG_len]; show 2 * k + 1 + 2 ≤ _; omega) ?_); intro p4 c4 w4 hZ4 hG4)
      have hk4 := Lib.hid (OwnR.keeps hO3.out hK3.out hG4.out)
      exact ⟨⟨k + 1, p4, c4, by omega, by go_num, by rw [linesG_step, List.length_append], by rw [linesG_step]; exact hZ4, hk4⟩, by simp [intOf]; omega⟩
    · obtain rfl : k = n := by omega
      have hR0 := Lib.hid (hO.out.at lineVals_len)
      have hdl : (linesG k).length ≤ d := by obtain ⟨p9, c9, e9, -, h9, -⟩ := hR0.out; injection e9 with e1 e2 e3; subst e3; exact h9
      obtain ⟨g, o, rfl, -⟩ := hR0.out.open (by rw [linesG_len]; omega)
      have l1 : (1 : Int) ≤ ((linesG k).length : Int) := by rw [linesG_len]; omega
      have l2 : (1 : Int) ≤ (d : Int) := by omega
      have l3 : ¬ d = 1 := by rw [linesG_len] at hdl; omega
      have l4 : ((linesG k).length : Int) ≤ (d : Int) := by omega
      obtain ⟨hg1, hg2, hg3⟩ := good_one hn1 hn9
      have hg3 := hg3 K hKn
      have hlk := hlk
      clear hO0 hK0
      go_wp2_with fail
      refine (build_any _ (linesG k) _ hR0 (by rw [linesG_len]; omega) (Lib.hid (small_mono (linesG_lt k) (by omega)))).mono ?_
      rintro e w21 ⟨p1a, c1a, rfl, hX, kk⟩
      have hO1 := Lib.hid (hO.out.keep kk (fun _ _ f => f))
      have hK1 := Lib.hid (hKr.out.trans kk)
      have hB1a := Lib.hid (hX.at lineVals_len)
      clear hX
      clear kk hO hKr
      go_wp2_with fail
      refine (to_any _ (buildC (linesG k)) _ hB1a (by have := right_len (build_right (linesG k)); omega)).mono ?_
      rintro e w22 ⟨p1b, c1b, rfl, hX, kk⟩
      have hO2 := Lib.hid (hO1.out.keep kk (fun _ _ f => f))
      have hK2 := Lib.hid (hK1.out.trans kk)
      have hB1b := Lib.hid (hX.at lineVals_len)
      clear hX hB1a
      clear kk hO1 hK1
      go_wp2_with fail
      have hc := Lib.hid (ruCheck_any _ (buildC (linesG k)) _ hB1b (by have := right_len (build_right (linesG k)); omega) (Lib.hid (right_lt (build_right (linesG k)) 9223372036854775807 (by omega))))
      rw [show checkR (buildC (linesG k)) = (checkC (buildC (linesG k)), 0) by unfold checkR; rw [if_pos (build_right _)]] at hc
      have hlf1 := check_len (build_right (linesG k))
      have hgl := (hO2.out.at lineVals_len).lt (by rw [linesG_len]; omega) (fun _ => Nat.zero_lt_succ _) g rfl
      refine (hc.out).mono ?_
      rintro e w23 ⟨p1c, c1c, rfl, hX, kk⟩
      have hO3 := Lib.hid (hO2.out.keep kk (fun _ _ f => f))
      have hK3 := Lib.hid (hK2.out.trans kk)
      have hA1 : Hid (∀ i, (Value.slice p1c (checkC (buildC (linesG k))).length c1c).ownBlock = some i → i ≠ g) := Lib.hid (fun i e => by have := hX.2.1 i e; omega)
      clear hgl
      have hF1x := Lib.hid (hX.at fVals_len)
      clear hX hB1b hc
      clear kk hO2 hK2
      generalize checkC (buildC (linesG k)) = fs1 at hF1x hlf1 hg1 hA1 ⊢
      clear hR0
      have hR9 := Lib.hid ((hO3.out.at lineVals_len).drop 1 (by rw [linesG_len]; omega) (d - 1) (by have := hdl; rw [linesG_len]; rw [linesG_len] at this; omega))
      rw [show (linesG k).drop 1 = pairsG k from rfl, show o + 1 * 4 = o + 4 by omega] at hR9
      go_wp2_with fail
      refine (build_any _ (pairsG k) _ hR9 (by rw [pairsG_len]; omega) (Lib.hid (small_mono (pairsG_lt k) (by omega)))).mono ?_
      rintro e w24 ⟨p2a, c2a, rfl, hX, kk⟩
      have hO4 := Lib.hid (hO3.out.keep kk (fun _ _ f => f))
      have hK4 := Lib.hid (hK3.out.trans kk)
      have hF1x4 := Lib.hid (hF1x.out.keep kk)
      have hB2a := Lib.hid (hX.at lineVals_len)
      clear hX
      clear kk hO3 hK3 hF1x
      go_wp2_with fail
      refine (to_any _ (buildC (pairsG k)) _ hB2a (by have := right_len (build_right (pairsG k)); omega)).mono ?_
      rintro e w25 ⟨p2b, c2b, rfl, hX, kk⟩
      have hO5 := Lib.hid (hO4.out.keep kk (fun _ _ f => f))
      have hK5 := Lib.hid (hK4.out.trans kk)
      have hF1x5 := Lib.hid (hF1x4.out.keep kk)
      have hB2b := Lib.hid (hX.at lineVals_len)
      clear hX hB2a
      clear kk hO4 hK4 hF1x4
      go_wp2_with fail
      have hc := Lib.hid (ruCheck_any _ (buildC (pairsG k)) _ hB2b (by have := right_len (build_right (pairsG k)); omega) (Lib.hid (right_lt (build_right (pairsG k)) 9223372036854775807 (by omega))))
      rw [show checkR (buildC (pairsG k)) = (checkC (buildC (pairsG k)), 0) by unfold checkR; rw [if_pos (build_right _)]] at hc
      have hlf2 := check_len (build_right (pairsG k))
      have hgl := (hO5.out.at lineVals_len).lt (by rw [linesG_len]; omega) (fun _ => Nat.zero_lt_succ _) g rfl
      refine (hc.out).mono ?_
      rintro e w26 ⟨p2c, c2c, rfl, hX, kk⟩
      have hO6 := Lib.hid (hO5.out.keep kk (fun _ _ f => f))
      have hK6 := Lib.hid (hK5.out.trans kk)
      have hF1x6 := Lib.hid (hF1x5.out.keep kk)
      have hA2 : Hid (∀ i, (Value.slice p2c (checkC (buildC (pairsG k))).length c2c).ownBlock = some i → i ≠ g) := Lib.hid (fun i e => by have := hX.2.1 i e; omega)
      clear hgl
      have hF2x := Lib.hid (hX.at fVals_len)
      clear hX hB2b hc
      clear kk hO5 hK5 hF1x5
      generalize checkC (buildC (pairsG k)) = fs2 at hF2x hlf2 hg2 hA2 ⊢
      clear hR9
      obtain ⟨C, hC⟩ : ∃ C : ByteArray, C = ⟨#[dgt K]⟩ := ⟨_, rfl⟩
      have hcv := conv_one w26 (48 + (K : Int)) (dgt K) (dgt_nat (by omega))
      rw [← hC] at hcv
      have hCs : C.size ≤ 1 := by rw [hC]; exact Nat.le_refl _
      have hC' := Lib.hid hC; clear hC
      have m1 : (0 : Int) ≤ (K : Int) := by omega
      have m2 : (K : Int) < 9 := by omega
      have m3 : (0 : Int) ≤ (k : Int) := by omega
      have m4 : (k : Int) ≤ 9 := by omega
      have m5 : (1 : Int) ≤ (k : Int) := by omega
      have sz1 : (w26.alloc (.cells #[.int .u8 (48 + (K : Int))] 5)).heap.size = w26.heap.size + 1 := alloc_size _ _
      have kkk : Keeps (fun _ => False) w26 ((w26.alloc (.cells #[.int .u8 (48 + (K : Int))] 5)).alloc (.cells #[.int .i64 2, .string ⟨#[122]⟩, .string ⟨#[97, 114, 101, 97]⟩, .string ⟨#[48, 46, 48, 46, 48, 46, 48]⟩, .int .i64 2, .string ⟨#[122]⟩, .string ⟨#[97, 100, 100, 114, 101, 115, 115]⟩, .string (⟨#[49, 48, 46]⟩ ++ C ++ ⟨#[46, 50, 48, 48, 46, 49, 47, 50, 52]⟩)] 45)) := ((Keeps.refl (fun _ => False) w26).alloc (.cells #[.int .u8 (48 + (K : Int))] 5)).alloc (.cells #[.int .i64 2, .string ⟨#[122]⟩, .string ⟨#[97, 114, 101, 97]⟩, .string ⟨#[48, 46, 48, 46, 48, 46, 48]⟩, .int .i64 2, .string ⟨#[122]⟩, .string ⟨#[97, 100, 100, 114, 101, 115, 115]⟩, .string (⟨#[49, 48, 46]⟩ ++ C ++ ⟨#[46, 50, 48, 48, 46, 49, 47, 50, 52]⟩)] 45)
      have hO3 := Lib.hid (hO6.out.keep kkk (fun _ _ f => f))
      have hK3 := Lib.hid (hK6.out.trans kkk)
      have hF1x_3 := Lib.hid (hF1x6.out.keep kkk)
      have hF2x_3 := Lib.hid (hF2x.out.keep kkk)
      have hR3 : Hid (RowsAt 4 lineVals _ _ (zG K)) := Lib.hid (rows_two (w26.alloc (.cells #[.int .u8 (48 + (K : Int))] 5)) (w26.heap.size + 1) sz1.symm ⟨2, [122], areaL, boneW⟩ ⟨2, [122], addressL, [49, 48, 46] ++ [dgt K] ++ [46, 50, 48, 48, 46, 49, 47, 50, 52]⟩ 45 2 2 ⟨#[122]⟩ ⟨#[97, 114, 101, 97]⟩ ⟨#[48, 46, 48, 46, 48, 46, 48]⟩ ⟨#[122]⟩ ⟨#[97, 100, 100, 114, 101, 115, 115]⟩ (⟨#[49, 48, 46]⟩ ++ C ++ ⟨#[46, 50, 48, 48, 46, 49, 47, 50, 52]⟩) rfl (by rw [hC'.out]; simp [addressL]))
      clear hO6 hK6 hF1x6 hF2x sz1 kkk
      go_wp2_with ((with_reducible refine at_slot 83 ?_); go_must (refine wpList_append_rows rfl (.tmp 72) (.tmp 82) 22 45 rfl i0 _ 56 Try.underlying22 hi0 hi1 hi2 hi3 rfl (by decide) (by decide) lineVals_len lineVals_one w _ (linesG k) rfl hO3.out _ rfl (zG K) hR3.out (by rw [linesG_len]; show 2 * k + 1 + 2 ≤ _; omega) ?_); intro p4 c4 w4 hZ4 hG4)
      have hB4 := Lib.hid (hZ4.out.at lineVals_len)
      have hK4 := Lib.hid (OwnR.keeps hO3.out hK3.out hG4.out)
      have hF1x_4 := Lib.hid (hF1x_3.out.keepF hG4.out.k (fun _ i e f => hA1.out i e (by have f2 : some g = some i := f; injection f2 with f2; exact f2.symm)))
      have hF2x_4 := Lib.hid (hF2x_3.out.keepF hG4.out.k (fun _ i e f => hA2.out i e (by have f2 : some g = some i := f; injection f2 with f2; exact f2.symm)))
      clear hZ4 hG4 hO3 hK3 hR3 hcv hA1 hA2 hF1x_3 hF2x_3
      refine (build_any _ (linesG k ++ zG K) _ hB4 (by rw [List.length_append, linesG_len]; show 2 * k + 1 + 2 ≤ _; omega) (Lib.hid (small_mono (zG_lt k K) (by omega)))).mono ?_
      rintro e w27 ⟨p3a, c3a, rfl, hX, kk⟩
      have hK7 := Lib.hid (hK4.out.trans kk)
      have hF1x7 := Lib.hid (hF1x_4.out.keep kk)
      have hF2x7 := Lib.hid (hF2x_4.out.keep kk)
      have hB3a := Lib.hid (hX.at lineVals_len)
      clear hX
      clear kk hK4 hF1x_4 hF2x_4
      go_wp2_with fail
      refine (to_any _ (buildC (linesG k ++ zG K)) _ hB3a (by have := right_len (build_right (linesG k ++ zG K)); omega)).mono ?_
      rintro e w28 ⟨p3b, c3b, rfl, hX, kk⟩
      have hK8 := Lib.hid (hK7.out.trans kk)
      have hF1x8 := Lib.hid (hF1x7.out.keep kk)
      have hF2x8 := Lib.hid (hF2x7.out.keep kk)
      have hB3b := Lib.hid (hX.at lineVals_len)
      clear hX hB3a
      clear kk hK7 hF1x7 hF2x7
      go_wp2_with fail
      have hc := Lib.hid (ruCheck_any _ (buildC (linesG k ++ zG K)) _ hB3b (by have := right_len (build_right (linesG k ++ zG K)); omega) (Lib.hid (right_lt (build_right (linesG k ++ zG K)) 9223372036854775807 (by omega))))
      rw [show checkR (buildC (linesG k ++ zG K)) = (checkC (buildC (linesG k ++ zG K)), 0) by unfold checkR; rw [if_pos (build_right _)]] at hc
      have hlf3 := check_len (build_right (linesG k ++ zG K))
      refine (hc.out).mono ?_
      rintro e w29 ⟨p3c, c3c, rfl, hX, kk⟩
      have hK9 := Lib.hid (hK8.out.trans kk)
      have hF1x9 := Lib.hid (hF1x8.out.keep kk)
      have hF2x9 := Lib.hid (hF2x8.out.keep kk)
      have hF3x := Lib.hid (hX.at fVals_len)
      clear hX hB3b hc
      clear kk hK8 hF1x8 hF2x8
      generalize checkC (buildC (linesG k ++ zG K)) = fs3 at hF3x hlf3 hg3 ⊢
      clear hB4
      by_cases k8 : 8 < k
      · have x1 : (8 : Int) < (k : Int) := by omega
        have x2 : (7 : Int) < (k : Int) := by omega
        have k7 : 7 < k := by omega
        have hT1 : Hid (((⟨#[116, 111, 111, 109, 97, 110, 121, 10]⟩ : ByteArray) : ByteArray) = ⟨(textF fs1).toArray⟩) := Lib.hid (by rw [hg1]; unfold wantG; rw [if_pos k8]; try rfl)
        have hT2 : Hid (((⟨#[110, 111, 114, 111, 117, 116, 101, 114, 10]⟩ : ByteArray) ++ ⟨#[116, 111, 111, 109, 97, 110, 121, 10]⟩) = ⟨(textF fs2).toArray⟩) := Lib.hid (by rw [hg2]; unfold wantG; rw [if_pos k8]; exact ba_app [110, 111, 114, 111, 117, 116, 101, 114, 10] [116, 111, 111, 109, 97, 110, 121, 10])
        have hT3 : Hid (((⟨#[111, 118, 101, 114, 108, 97, 112, 32, 122, 10]⟩ : ByteArray) ++ ⟨#[116, 111, 111, 109, 97, 110, 121, 10]⟩) = ⟨(textF fs3).toArray⟩) := Lib.hid (by rw [hg3]; unfold lastG; rw [if_pos k7]; exact ba_app [111, 118, 101, 114, 108, 97, 112, 32, 122, 10] [116, 111, 111, 109, 97, 110, 121, 10])
        have hz1 : (textF fs1).length ≤ 1000000000 := by rw [hg1]; unfold wantG; rw [if_pos k8]; simp [manyG]
        have hz2 : (textF fs2).length ≤ 1000000000 := by rw [hg2]; unfold wantG; rw [if_pos k8]; simp [manyG]
        have hz3 : (textF fs3).length ≤ 1000000000 := by rw [hg3]; unfold lastG; rw [if_pos k7]; simp [manyG]
        clear hg1 hg2 hg3 e2 hV hKn hn1 hn9
        go_wp2_with fail
        refine (tells_any _).mono ?_
        rintro e w30 ⟨rfl, kk⟩
        have hK10 := Lib.hid (hK9.out.trans kk)
        have hF1x10 := Lib.hid (hF1x9.out.keep kk)
        have hF2x10 := Lib.hid (hF2x9.out.keep kk)
        have hF3x10 := Lib.hid (hF3x.out.keep kk)
        clear kk hK9 hF1x9 hF2x9 hF3x
        go_wp2_with fail
        refine (ruText_any _ fs1 (⟨#[116, 111, 111, 109, 97, 110, 121, 10]⟩ : ByteArray) _ hF1x10 (by omega) hz1 hT1).mono ?_
        rintro e w31 ⟨rfl, kk⟩
        have hK11 := Lib.hid (hK10.out.trans kk)
        have hF2x11 := Lib.hid (hF2x10.out.keep kk)
        have hF3x11 := Lib.hid (hF3x10.out.keep kk)
        clear kk hK10 hF2x10 hF3x10
        go_wp2_with fail
        refine (ruText_any _ fs2 ((⟨#[110, 111, 114, 111, 117, 116, 101, 114, 10]⟩ : ByteArray) ++ ⟨#[116, 111, 111, 109, 97, 110, 121, 10]⟩) _ hF2x11 (by omega) hz2 hT2).mono ?_
        rintro e w32 ⟨rfl, kk⟩
        have hK12 := Lib.hid (hK11.out.trans kk)
        have hF3x12 := Lib.hid (hF3x11.out.keep kk)
        clear kk hK11 hF3x11
        go_wp2_with fail
        refine (ruText_any _ fs3 ((⟨#[111, 118, 101, 114, 108, 97, 112, 32, 122, 10]⟩ : ByteArray) ++ ⟨#[116, 111, 111, 109, 97, 110, 121, 10]⟩) _ hF3x12 (by omega) hz3 hT3).mono ?_
        rintro e w33 ⟨rfl, kk⟩
        have hK13 := Lib.hid (hK12.out.trans kk)
        clear kk hK12
        go_wp2_with fail
        go_ret
        exact ⟨rfl, hK13.out⟩
      · have x1 : ¬ (8 : Int) < (k : Int) := by omega
        by_cases k7 : 7 < k
        · have x2 : (7 : Int) < (k : Int) := by omega
          go_upto_region 18 with fail
          generalize hW1 : (⟨#[]⟩ : ByteArray) = W1
          have sW1 : W1.size ≤ 0 := by rw [← hW1]; exact Nat.le_refl _
          have hT1 : Hid (W1 = ⟨(textF fs1).toArray⟩) := Lib.hid (by rw [← hW1, hg1]; unfold wantG; rw [if_neg k8])
          have hT2 : Hid (((⟨#[110, 111, 114, 111, 117, 116, 101, 114, 10]⟩ : ByteArray) ++ W1) = ⟨(textF fs2).toArray⟩) := Lib.hid (by rw [← hW1, hg2]; unfold wantG; rw [if_neg k8]; exact ba_app [110, 111, 114, 111, 117, 116, 101, 114, 10] [])
          have hT3 : Hid (((⟨#[111, 118, 101, 114, 108, 97, 112, 32, 122, 10]⟩ : ByteArray) ++ ⟨#[116, 111, 111, 109, 97, 110, 121, 10]⟩) = ⟨(textF fs3).toArray⟩) := Lib.hid (by rw [hg3]; unfold lastG; rw [if_pos k7]; exact ba_app [111, 118, 101, 114, 108, 97, 112, 32, 122, 10] [116, 111, 111, 109, 97, 110, 121, 10])
          have hz1 : (textF fs1).length ≤ 1000000000 := by rw [hg1]; unfold wantG; rw [if_neg k8]; simp [manyG]
          have hz2 : (textF fs2).length ≤ 1000000000 := by rw [hg2]; unfold wantG; rw [if_neg k8]; simp [manyG]
          have hz3 : (textF fs3).length ≤ 1000000000 := by rw [hg3]; unfold lastG; rw [if_pos k7]; simp [manyG]
          clear hg1 hg2 hg3 e2 hV hKn hn1 hn9 hW1
          go_wp2_with fail
          refine (tells_any _).mono ?_
          rintro e w30 ⟨rfl, kk⟩
          have hK10 := Lib.hid (hK9.out.trans kk)
          have hF1x10 := Lib.hid (hF1x9.out.keep kk)
          have hF2x10 := Lib.hid (hF2x9.out.keep kk)
          have hF3x10 := Lib.hid (hF3x.out.keep kk)
          clear kk hK9 hF1x9 hF2x9 hF3x
          go_wp2_with fail
          refine (ruText_any _ fs1 W1 _ hF1x10 (by omega) hz1 hT1).mono ?_
          rintro e w31 ⟨rfl, kk⟩
          have hK11 := Lib.hid (hK10.out.trans kk)
          have hF2x11 := Lib.hid (hF2x10.out.keep kk)
          have hF3x11 := Lib.hid (hF3x10.out.keep kk)
          clear kk hK10 hF2x10 hF3x10
          go_wp2_with fail
          refine (ruText_any _ fs2 ((⟨#[110, 111, 114, 111, 117, 116, 101, 114, 10]⟩ : ByteArray) ++ W1) _ hF2x11 (by omega) hz2 hT2).mono ?_
          rintro e w32 ⟨rfl, kk⟩
          have hK12 := Lib.hid (hK11.out.trans kk)
          have hF3x12 := Lib.hid (hF3x11.out.keep kk)
          clear kk hK11 hF3x11
          go_wp2_with fail
          refine (ruText_any _ fs3 ((⟨#[111, 118, 101, 114, 108, 97, 112, 32, 122, 10]⟩ : ByteArray) ++ ⟨#[116, 111, 111, 109, 97, 110, 121, 10]⟩) _ hF3x12 (by omega) hz3 hT3).mono ?_
          rintro e w33 ⟨rfl, kk⟩
          have hK13 := Lib.hid (hK12.out.trans kk)
          clear kk hK12
          go_wp2_with fail
          go_ret
          exact ⟨rfl, hK13.out⟩
        · have x2 : ¬ (7 : Int) < (k : Int) := by omega
          go_upto_region 18 with fail
          generalize hW1 : (⟨#[]⟩ : ByteArray) = W1
          have sW1 : W1.size ≤ 0 := by rw [← hW1]; exact Nat.le_refl _
          have hT1 : Hid (W1 = ⟨(textF fs1).toArray⟩) := Lib.hid (by rw [← hW1, hg1]; unfold wantG; rw [if_neg k8])
          have hT2 : Hid (((⟨#[110, 111, 114, 111, 117, 116, 101, 114, 10]⟩ : ByteArray) ++ W1) = ⟨(textF fs2).toArray⟩) := Lib.hid (by rw [← hW1, hg2]; unfold wantG; rw [if_neg k8]; exact ba_app [110, 111, 114, 111, 117, 116, 101, 114, 10] [])
          have hT3 : Hid ((⟨#[111, 118, 101, 114, 108, 97, 112, 32, 122, 10]⟩ : ByteArray) = ⟨(textF fs3).toArray⟩) := Lib.hid (by rw [hg3]; unfold lastG; rw [if_neg k7]; try rfl)
          have hz1 : (textF fs1).length ≤ 1000000000 := by rw [hg1]; unfold wantG; rw [if_neg k8]; simp [manyG]
          have hz2 : (textF fs2).length ≤ 1000000000 := by rw [hg2]; unfold wantG; rw [if_neg k8]; simp [manyG]
          have hz3 : (textF fs3).length ≤ 1000000000 := by rw [hg3]; unfold lastG; rw [if_neg k7]; simp [manyG]
          clear hg1 hg2 hg3 e2 hV hKn hn1 hn9 hW1
          go_wp2_with fail
          refine (tells_any _).mono ?_
          rintro e w30 ⟨rfl, kk⟩
          have hK10 := Lib.hid (hK9.out.trans kk)
          have hF1x10 := Lib.hid (hF1x9.out.keep kk)
          have hF2x10 := Lib.hid (hF2x9.out.keep kk)
          have hF3x10 := Lib.hid (hF3x.out.keep kk)
          clear kk hK9 hF1x9 hF2x9 hF3x
          go_wp2_with fail
          refine (ruText_any _ fs1 W1 _ hF1x10 (by omega) hz1 hT1).mono ?_
          rintro e w31 ⟨rfl, kk⟩
          have hK11 := Lib.hid (hK10.out.trans kk)
          have hF2x11 := Lib.hid (hF2x10.out.keep kk)
          have hF3x11 := Lib.hid (hF3x10.out.keep kk)
          clear kk hK10 hF2x10 hF3x10
          go_wp2_with fail
          refine (ruText_any _ fs2 ((⟨#[110, 111, 114, 111, 117, 116, 101, 114, 10]⟩ : ByteArray) ++ W1) _ hF2x11 (by omega) hz2 hT2).mono ?_
          rintro e w32 ⟨rfl, kk⟩
          have hK12 := Lib.hid (hK11.out.trans kk)
          have hF3x12 := Lib.hid (hF3x11.out.keep kk)
          clear kk hK11 hF3x11
          go_wp2_with fail
          refine (ruText_any _ fs3 (⟨#[111, 118, 101, 114, 108, 97, 112, 32, 122, 10]⟩ : ByteArray) _ hF3x12 (by omega) hz3 hT3).mono ?_
          rintro e w33 ⟨rfl, kk⟩
          have hK13 := Lib.hid (hK12.out.trans kk)
          clear kk hK12
          go_wp2_with fail
          go_ret
          exact ⟨rfl, hK13.out⟩
end Go.Proofs.Ythofplmjlfhloaa
/- RulesGood, proved: a configuration of whatever many interfaces is right; for every input. No condition. -/

namespace Go.Proofs.Ythofplmjlfhloaa
open Go.ChangeShapes Go.WideShapes Go.ChangeAt Go.RowKit Go.WideMaps Go.Deep
open Go.ChangeMaps (open_string)
set_option linter.unusedVariables false
namespace rulesGoodProof
theorem own : ownKnob Try.prog.godebug = none := by kernel_rfl
theorem laidOut : laidOutB Try.prog = true := by kernel_rfl
set_option maxRecDepth 100000 in
theorem lifted (os : Os) (started : os.Started) (H : Type) (enc : TypeId × Value → H) :
    ReturnsInHanded {} Try.checked os 5 .any (Rows.rulesGoodSpec.pre6 enc Try.prog Try.f5 Rows.rulesGoodRow.domain false) (Rows.rulesGoodSpec.post enc Try.prog Try.f5 false true false false) := by
  refine returnsInHanded_of_change (C := Try.checked) own started (by kernel_rfl) Try.func5
    (ChangeSpec.witness6 (enc := enc) (C := Try.checked) false ⟨#[], #[.int .i64 0, .int .i64 0], []⟩ 8 (by kernel_rfl) (by kernel_rfl) (by kernel_rfl) (by kernel_rfl)) ?_
  intro W base args ds gs before hval0 hW hcnd _
  have hval : ∀ (j : Nat) t v, Try.f5.params[j]? = some t → args[j]? = some v → Value.okWide Try.prog W .any base t v := hval0
  have hW' := hW
  obtain ⟨p, q, hA0, hV, rfl, hfz, hnd⟩ := hW
  have hA : DataW.TrodAll enc Try.prog W 0 (fun _ => true) true Try.f5.params.toList args.toList ds p := hA0
  rw [Try.params5] at hA hval
  obtain ⟨v0, vs0, d0, ds0, p0, q0, hargs, rfl, rfl, h0, r0⟩ := trodAll_cons hA
  obtain ⟨v1, vs1, d1, ds1, p1, q1, rfl, rfl, rfl, h1, r1⟩ := trodAll_cons r0
  obtain ⟨rfl, rfl, rfl⟩ := trodAll_nil r1
  obtain rfl : args = #[v0, v1] := by cases args; simp_all
  obtain ⟨rfl, rfl⟩ := trodVars_none hV
  have k0 := h0
  obtain ⟨a0, rfl, rfl, rfl, w0⟩ := open_int Try.underlying3 (hval 0 3 v0 rfl rfl) h0
  have b0 := w0
  simp [Lit.wf, IntKind.min, IntKind.max, IntKind.signed, IntKind.bits] at b0
  have lt0 : ∀ x ∈ ([] : List MemPlace), x.block < W.heap.size := fun x hx => by cases hx
  have k1 := h1
  obtain ⟨a1, rfl, rfl, rfl, w1⟩ := open_int Try.underlying3 (hval 1 3 v1 rfl rfl) h1
  have b1 := w1
  simp [Lit.wf, IntKind.min, IntKind.max, IntKind.signed, IntKind.bits] at b1
  have lt1 : ∀ x ∈ ([] : List MemPlace), x.block < W.heap.size := fun x hx => by cases hx
  clear hA0 hval0
  simp only [List.append_nil] at hW'
  refine (rulesGood_law a0 a1 W).mono fun e W' ⟨he, hke⟩ => ?_
  have bel := hke.below (Nat.le_refl _) (fun _ f => f.elim)
  subst he
  exact ⟨_, rfl, _, _, _, [], _, [], hW', trodAll_mk1 (shut_bool Try.underlying4 _), (trodAll_cons_mk (Below.trod laidOut (by kernel_rfl) (of_decide_eq_true (by kernel_rfl)) k0 bel lt0) (trodAll_cons_mk (Below.trod laidOut (by kernel_rfl) (of_decide_eq_true (by kernel_rfl)) k1 bel lt1) trodAll_mk0)), rfl, bel.frame _, fun h => by cases h⟩
theorem over : Rows.rulesGoodRow.holds Try.pinned (OpenSpec.ofChange Rows.rulesGoodSpec) :=
  OpenClaim.holds_of_wide 5 Try.f5 rfl rfl rfl rfl rfl rfl rfl ⟨rfl, rfl, rfl, rfl, rfl⟩ rfl rfl rfl rfl rfl (by kernel_rfl) Try.func5 (by kernel_rfl)
    (of_decide_eq_true (by kernel_rfl)) (by unfold Func.isWrapper; first | (rw [if_pos (by decide +kernel)]; kernel_rfl) | (rw [if_neg (by decide +kernel)]; exact ⟨rfl, rfl⟩))
    (fun os started H enc _ => lifted os started H enc)
end rulesGoodProof
theorem rulesGood_holds : Rows.RulesGoodSaid := rulesGoodProof.over
end Go.Proofs.Ythofplmjlfhloaa
