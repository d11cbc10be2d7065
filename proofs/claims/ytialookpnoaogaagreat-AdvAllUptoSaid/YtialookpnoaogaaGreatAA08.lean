/- conf.find, walked. -/
import Derived.Test.YtialookpnoaogaaGreatAA07
import Derived.Test.YtialookpnoaogaaGreatAA05
import Derived.Lib.ItoaNum
import Derived.Test.YtialookpnoaogaaGreatAA03
import Derived.Deep.DeepCutAuto
import Derived.OwnWalk
set_option linter.unusedVariables false
set_option linter.unusedSimpArgs false
namespace Go.Proofs.YtialookpnoaogaaGreat
open Go.RowKit

/-- where a line would stand -/
def posL (x : LineD) : List LineD → Nat
  | [] => 0
  | q :: ls => if lessB q x then posL x ls + 1 else 0
theorem posL_le (x : LineD) (ls : List LineD) : posL x ls ≤ ls.length := by
  induction ls with
  | nil => exact Nat.le_refl _
  | cons q ls ih => unfold posL; split <;> simp <;> omega
theorem posL_lt {x : LineD} : ∀ {ls : List LineD} {k : Nat} {q : LineD}, k < posL x ls → ls[k]? = some q → lessB q x = true := by
  intro ls
  induction ls with
  | nil => intro k q h; cases h
  | cons p ls ih =>
    intro k q h hq
    unfold posL at h
    by_cases hp : lessB p x = true
    · rw [if_pos hp] at h
      cases k with
      | zero => simp at hq; subst hq; exact hp
      | succ k => exact ih (k := k) (by omega) (by simpa using hq)
    · rw [if_neg hp] at h; omega
theorem posL_at {x : LineD} : ∀ {ls : List LineD} {q : LineD}, ls[posL x ls]? = some q → lessB q x = false := by
  intro ls
  induction ls with
  | nil => intro q hq; simp at hq
  | cons p ls ih =>
    intro q hq
    unfold posL at hq
    by_cases hp : lessB p x = true
    · rw [if_pos hp] at hq; exact ih (by simpa using hq)
    · rw [if_neg hp] at hq; simp at hq; subst hq; simpa using hp
/-- stands a line like it there -/
def thereB (x : LineD) (ls : List LineD) : Bool := match ls[posL x ls]? with
  | some q => !lessB x q
  | none => false

set_option maxRecDepth 100000 in
set_option maxHeartbeats 4000000 in
theorem find_c (v : Value) (ls : List LineD) (h : Int) (Nx Fx Vx : ByteArray) (at' : Nat) (z : Bool) (w : World) (hv : Hid (LinesAt w v ls)) (hl : ls.length ≤ 9223372036854775806)
    (ha : Hid (posL ⟨h, Nx.data.toList, Fx.data.toList, Vx.data.toList⟩ ls = at')) (hz : Hid (thereB ⟨h, Nx.data.toList, Fx.data.toList, Vx.data.toList⟩ ls = z)) :
    Calls Tryz.prog 71 #[v, .agg #[.int .i64 h, .string Nx, .string Fx, .string Vx]] w (NewRes (.tuple #[.int .i64 (at' : Nat), .bool z]) w) := by
  obtain ⟨p, c, rfl, hv0⟩ := hv.out
  have hv' := Lib.hid hv0; clear hv0 hv
  have hal := posL_le ⟨h, Nx.data.toList, Fx.data.toList, Vx.data.toList⟩ ls
  rw [ha.out] at hal
  have hx0 : Hid ((w.alloc (.cells #[.int .i64 h, .string Nx, .string Fx, .string Vx] 79)).rangeAt w.heap.size 0 [.int .i64 h, .string Nx, .string Fx, .string Vx]) := Lib.hid (new_range w _ _ 79 (Keeps.refl _ _))
  go_enter Tryz.func71, Tryz.ntmps71
  go_wp2_with fail
  go_loopw [6] (fun i wr => ∃ k : Nat, k ≤ at' ∧ i = .int .i64 k ∧ Hid (Keeps (fun _ => False) (w.alloc (.cells #[.int .i64 h, .string Nx, .string Fx, .string Vx] 79)) wr)) (fun i _ => at' - (intOf i).toNat)
  case atStart => exact ⟨0, by omega, rfl, Lib.hid (Keeps.refl _ _)⟩
  case round =>
    obtain ⟨k, hk, rfl, hkr⟩ := hrel
    have hxr : Hid (wr.rangeAt w.heap.size 0 [.int .i64 h, .string Nx, .string Fx, .string Vx]) := Lib.hid (hkr.out.rangeAt hx0.out id)
    have kw0 : Keeps (fun _ => False) w wr := ((Keeps.refl _ _).alloc _).trans hkr.out
    by_cases hkl : k < ls.length
    · obtain ⟨g, o, rfl, hrows⟩ := hv'.out (by omega)
      obtain ⟨q, hqq⟩ : ∃ q, ls[k]? = some q := ⟨_, List.getElem?_eq_getElem hkl⟩
      obtain ⟨N, hN⟩ : ∃ N : ByteArray, N = ⟨q.name.toArray⟩ := ⟨_, rfl⟩
      obtain ⟨F, hF⟩ : ∃ F : ByteArray, F = ⟨q.leaf.toArray⟩ := ⟨_, rfl⟩
      obtain ⟨V, hV⟩ : ∃ V : ByteArray, V = ⟨q.value.toArray⟩ := ⟨_, rfl⟩
      have hqd : q = ⟨q.head, N.data.toList, F.data.toList, V.data.toList⟩ := by rw [hN, hF, hV]
      have hrow : Hid (wr.rangeAt g (o + k * 4) [.int .i64 q.head, .string N, .string F, .string V]) := Lib.hid (by rw [hN, hF, hV]; exact kw0.rangeAt (hrows k q hqq) id)
      have m1 : (0 : Int) ≤ (k : Int) := by omega
      have m2 : (k : Int) < ls.length := by omega
      have kw := Lib.hid kw0
      clear hN hF hV hrows kw0
      by_cases hka : k < at'
      · have hls : Hid (lessB ⟨q.head, N.data.toList, F.data.toList, V.data.toList⟩ ⟨h, Nx.data.toList, Fx.data.toList, Vx.data.toList⟩ = true) := Lib.hid (by
          rw [← hqd]; exact posL_lt (by rw [ha.out]; exact hka) hqq)
        have hqd' := Lib.hid hqd; have hqq' := Lib.hid hqq; clear hqd hqq
        go_wp2_with fail
        refine wp_region_noPanic ?_
        refine wp_region_held_drew (S := (fun W => Rn5 g (o + k * 4) [.int .i64 q.head, .string N, .string F, .string V] w.heap.size 0 [.int .i64 h, .string Nx, .string Fx, .string Vx] wr W)) (by kernel_rfl) (⟨((Keeps.refl (fun _ => False) _).drew).rangeAt hrow.out id, ((Keeps.refl (fun _ => False) _).drew).rangeAt hxr.out id, (Keeps.refl _ _).drew⟩) (fun hHeld => ?_)
        refine tk 0 rfl ?_
        refine tk 1 rfl ?_
        refine tk 2 rfl ?_
        refine tk 3 rfl ?_
        refine tk 4 rfl ?_
        refine tk 5 rfl ?_
        refine tk 6 rfl ?_
        refine tk 7 rfl ?_
        refine tkL 8 rfl (yieldsIf_load_mid (by rfl) 79 (.tmp 14) rfl g (o + k * 4) rfl [.int .i64 q.head, .string N, .string F, .string V] _ (fun _ s => s.b) Tryz.underlying79 rfl lineInfo) ?_
        refine tkL 9 rfl (yieldsIf_load_mid (by rfl) 79 (.tmp 3) rfl w.heap.size 0 rfl [.int .i64 h, .string Nx, .string Fx, .string Vx] _ (fun _ s => s.m) Tryz.underlying79 rfl lineInfo) ?_
        refine stepL 10 rfl (by kernel_rfl) (fun K hK => ?_)
        go_simp
        (refine (less_any q.head h N F V Nx Fx Vx true _ hls).mono ?_; rintro e w5 ⟨rfl, hk5⟩)
        go_wp2_with fail
        refine hK.out _ _ (hHeld.next hk5) (fun hHeld => ?_)
        clear hK K
        try simp only [Act.put, sA, sZ, sS]
        refine tk 11 rfl ?_
        refine wpAnyH_done (by kernel_rfl) (NoPanic.normal ?_) _
        have hkk := Lib.hid (hkr.out.trans hHeld.k)
        clear hHeld m1 m2
        go_wp2
        exact ⟨⟨k + 1, by omega, by go_num, hkk⟩, by simp [intOf]; omega⟩
      · obtain rfl : k = at' := by omega
        have hls : Hid (lessB ⟨q.head, N.data.toList, F.data.toList, V.data.toList⟩ ⟨h, Nx.data.toList, Fx.data.toList, Vx.data.toList⟩ = false) := Lib.hid (by
          rw [← hqd]; exact posL_at (by rw [ha.out]; exact hqq))
        obtain ⟨zb, hzb⟩ : ∃ zb, lessB ⟨h, Nx.data.toList, Fx.data.toList, Vx.data.toList⟩ ⟨q.head, N.data.toList, F.data.toList, V.data.toList⟩ = zb := ⟨_, rfl⟩
        have hzz : (!zb) = z := by
          rw [← hz.out]; unfold thereB; rw [ha.out, hqq]; simp only; rw [← hzb, ← hqd]
        have hzb' := Lib.hid hzb; have hqd' := Lib.hid hqd; have hqq' := Lib.hid hqq; clear hqd hqq hzb
        go_wp2_with fail
        refine wp_region_noPanic ?_
        refine wp_region_held_drew (S := (fun W => Rn5 g (o + k * 4) [.int .i64 q.head, .string N, .string F, .string V] w.heap.size 0 [.int .i64 h, .string Nx, .string Fx, .string Vx] wr W)) (by kernel_rfl) (⟨((Keeps.refl (fun _ => False) _).drew).rangeAt hrow.out id, ((Keeps.refl (fun _ => False) _).drew).rangeAt hxr.out id, (Keeps.refl _ _).drew⟩) (fun hHeld => ?_)
        refine tk 0 rfl ?_
        refine tk 1 rfl ?_
        refine tk 2 rfl ?_
        refine tk 3 rfl ?_
        refine tk 4 rfl ?_
        refine tk 5 rfl ?_
        refine tk 6 rfl ?_
        refine tk 7 rfl ?_
        refine tkL 8 rfl (yieldsIf_load_mid (by rfl) 79 (.tmp 14) rfl g (o + k * 4) rfl [.int .i64 q.head, .string N, .string F, .string V] _ (fun _ s => s.b) Tryz.underlying79 rfl lineInfo) ?_
        refine tkL 9 rfl (yieldsIf_load_mid (by rfl) 79 (.tmp 3) rfl w.heap.size 0 rfl [.int .i64 h, .string Nx, .string Fx, .string Vx] _ (fun _ s => s.m) Tryz.underlying79 rfl lineInfo) ?_
        refine stepL 10 rfl (by kernel_rfl) (fun K hK => ?_)
        go_simp
        (refine (less_any q.head h N F V Nx Fx Vx false _ hls).mono ?_; rintro e w5 ⟨rfl, hk5⟩)
        go_wp2_with fail
        refine hK.out _ _ (hHeld.next hk5) (fun hHeld => ?_)
        clear hK K
        try simp only [Act.put, sA, sZ, sS]
        refine tk 11 rfl ?_
        refine wpAnyH_done (by kernel_rfl) (NoPanic.normal ?_) _
        have hkk := Lib.hid hHeld
        clear hHeld
        go_wp2_with fail
        cases zb with
        | true =>
          have hz2 : false = z := hzz
          clear hzz
          subst hz2
          refine wp_region_noPanic ?_
          refine wp_region_held_drew (S := (fun W => Rn5 g (o + k * 4) [.int .i64 q.head, .string N, .string F, .string V] w.heap.size 0 [.int .i64 h, .string Nx, .string Fx, .string Vx] wr W)) (by kernel_rfl) (hkk.out.next ((Keeps.refl _ _).drew)) (fun hHeld => ?_)
          refine tk 0 rfl ?_
          refine tk 1 rfl ?_
          refine tk 2 rfl ?_
          refine tk 3 rfl ?_
          refine tk 4 rfl ?_
          refine tk 5 rfl ?_
          refine tkL 6 rfl (yieldsIf_load_mid (by rfl) 79 (.tmp 3) rfl w.heap.size 0 rfl [.int .i64 h, .string Nx, .string Fx, .string Vx] _ (fun _ s => s.m) Tryz.underlying79 rfl lineInfo) ?_
          refine tk 7 rfl ?_
          refine tk 8 rfl ?_
          refine tk 9 rfl ?_
          refine tkL 10 rfl (yieldsIf_load_mid (by rfl) 79 (.tmp 30) rfl g (o + k * 4) rfl [.int .i64 q.head, .string N, .string F, .string V] _ (fun _ s => s.b) Tryz.underlying79 rfl lineInfo) ?_
          refine stepL 11 rfl (by kernel_rfl) (fun K hK => ?_)
          go_simp
          (refine (less_any h q.head Nx Fx Vx N F V true _ hzb').mono ?_; rintro e w6 ⟨rfl, hk6⟩)
          go_wp2_with fail
          refine hK.out _ _ (hHeld.next hk6) (fun hHeld => ?_)
          clear hK K
          try simp only [Act.put, sA, sZ, sS]
          refine tk 12 rfl ?_
          refine tk 13 rfl ?_
          refine tk 14 rfl ?_
          refine tk 15 rfl ?_
          refine wpAnyH_done (by kernel_rfl) (NoPanic.normal ?_) _
          have hfin := Lib.hid (kw.out.trans hHeld.k)
          clear hHeld m1 m2
          go_wp2
          go_ret2
          exact ⟨rfl, hfin.out⟩
        | false =>
          have hz2 : true = z := hzz
          clear hzz
          subst hz2
          refine wp_region_noPanic ?_
          refine wp_region_held_drew (S := (fun W => Rn5 g (o + k * 4) [.int .i64 q.head, .string N, .string F, .string V] w.heap.size 0 [.int .i64 h, .string Nx, .string Fx, .string Vx] wr W)) (by kernel_rfl) (hkk.out.next ((Keeps.refl _ _).drew)) (fun hHeld => ?_)
          refine tk 0 rfl ?_
          refine tk 1 rfl ?_
          refine tk 2 rfl ?_
          refine tk 3 rfl ?_
          refine tk 4 rfl ?_
          refine tk 5 rfl ?_
          refine tkL 6 rfl (yieldsIf_load_mid (by rfl) 79 (.tmp 3) rfl w.heap.size 0 rfl [.int .i64 h, .string Nx, .string Fx, .string Vx] _ (fun _ s => s.m) Tryz.underlying79 rfl lineInfo) ?_
          refine tk 7 rfl ?_
          refine tk 8 rfl ?_
          refine tk 9 rfl ?_
          refine tkL 10 rfl (yieldsIf_load_mid (by rfl) 79 (.tmp 30) rfl g (o + k * 4) rfl [.int .i64 q.head, .string N, .string F, .string V] _ (fun _ s => s.b) Tryz.underlying79 rfl lineInfo) ?_
          refine stepL 11 rfl (by kernel_rfl) (fun K hK => ?_)
          go_simp
          (refine (less_any h q.head Nx Fx Vx N F V false _ hzb').mono ?_; rintro e w6 ⟨rfl, hk6⟩)
          go_wp2_with fail
          refine hK.out _ _ (hHeld.next hk6) (fun hHeld => ?_)
          clear hK K
          try simp only [Act.put, sA, sZ, sS]
          refine tk 12 rfl ?_
          refine tk 13 rfl ?_
          refine tk 14 rfl ?_
          refine tk 15 rfl ?_
          refine wpAnyH_done (by kernel_rfl) (NoPanic.normal ?_) _
          have hfin := Lib.hid (kw.out.trans hHeld.k)
          clear hHeld m1 m2
          go_wp2
          go_ret2
          exact ⟨rfl, hfin.out⟩
    · obtain rfl : k = at' := by omega
      have hz2 : false = z := by
        rw [← hz.out]; unfold thereB; rw [ha.out, List.getElem?_eq_none (by omega)]
      subst hz2
      have kw := Lib.hid kw0; clear kw0
      go_wp2_with fail
      refine wp_region_noPanic ?_
      refine wp_region_held_drew (S := (fun W => Keeps (fun _ => False) wr W)) (by kernel_rfl) ((Keeps.refl _ _).drew) (fun hHeld => ?_)
      refine tk 0 rfl ?_
      refine tk 1 rfl ?_
      refine tk 2 rfl ?_
      refine tk 3 rfl ?_
      refine tk 4 rfl ?_
      refine tkS 5 rfl ?_
      refine tkS 6 rfl ?_
      refine tkS 7 rfl ?_
      refine tkS 8 rfl ?_
      refine tkS 9 rfl ?_
      refine tkS 10 rfl ?_
      refine tk 11 rfl ?_
      refine wpAnyH_done (by kernel_rfl) (NoPanic.normal ?_) _
      have hkk := Lib.hid hHeld
      clear hHeld
      go_wp2_with fail
      refine wp_region_noPanic ?_
      refine wp_region_held_drew (S := (fun W => Keeps (fun _ => False) wr W)) (by kernel_rfl) (hkk.out.drew) (fun hHeld => ?_)
      refine tk 0 rfl ?_
      refine tk 1 rfl ?_
      refine tk 2 rfl ?_
      refine tk 3 rfl ?_
      refine tk 4 rfl ?_
      refine tk 5 rfl ?_
      refine tkS 6 rfl ?_
      refine tkS 7 rfl ?_
      refine tkS 8 rfl ?_
      refine tkS 9 rfl ?_
      refine tkS 10 rfl ?_
      refine tkS 11 rfl ?_
      refine tkS 12 rfl ?_
      refine tk 13 rfl ?_
      refine tk 14 rfl ?_
      refine tk 15 rfl ?_
      refine wpAnyH_done (by kernel_rfl) (NoPanic.normal ?_) _
      have hfin := Lib.hid (kw.out.trans hHeld)
      clear hHeld
      go_wp2
      go_ret2
      exact ⟨rfl, hfin.out⟩
end Go.Proofs.YtialookpnoaogaaGreat
/- Numbers and addresses as texts, plain. -/
namespace Go.Proofs.YtialookpnoaogaaGreat

def digs (n : Nat) : List UInt8 := if n < 10 then [UInt8.ofNat (48 + n)] else digs (n / 10) ++ [UInt8.ofNat (48 + n % 10)]
termination_by n
decreasing_by omega
theorem digs_lt {n : Nat} (h : n < 10) : digs n = [UInt8.ofNat (48 + n)] := by rw [digs, if_pos h]
theorem digs_ge {n : Nat} (h : ¬ n < 10) : digs n = digs (n / 10) ++ [UInt8.ofNat (48 + n % 10)] := by rw [digs, if_neg h]
theorem dig_toNat {n : Nat} (h : n < 10) : (UInt8.ofNat (48 + n)).toNat = 48 + n := by simp; omega
theorem digs_ne (n : Nat) : digs n ≠ [] := by
  by_cases h : n < 10
  · rw [digs_lt h]; simp
  · rw [digs_ge h]; simp
theorem digs_all (k : Nat) : ∀ n, n ≤ k → (digs n).all digB = true := by
  induction k with
  | zero => intro n hn; obtain rfl : n = 0 := by omega
            rw [digs_lt (by omega)]; decide
  | succ k ih =>
    intro n hn
    by_cases h : n < 10
    · rw [digs_lt h]
      simp only [List.all_cons, List.all_nil, Bool.and_true, digB, decide_eq_true_eq, dig_toNat h]; omega
    · rw [digs_ge h, List.all_append, ih (n / 10) (by omega)]
      simp only [List.all_cons, List.all_nil, Bool.and_true, Bool.true_and, digB, decide_eq_true_eq, dig_toNat (show n % 10 < 10 by omega)]; omega
theorem digs_val (k : Nat) : ∀ n, n ≤ k → decVal (digs n) = n := by
  induction k with
  | zero => intro n hn; obtain rfl : n = 0 := by omega
            rw [digs_lt (by omega)]; decide
  | succ k ih =>
    intro n hn
    by_cases h : n < 10
    · rw [digs_lt h]
      show (0 * 10 + ((UInt8.ofNat (48 + n)).toNat - 48)) = n
      rw [dig_toNat h]; omega
    · rw [digs_ge h, decVal_snoc, ih (n / 10) (by omega), dig_toNat (by omega)]; omega
theorem digs_len (d : Nat) : ∀ n, n < 10 ^ d → 0 < d → (digs n).length ≤ d := by
  induction d with
  | zero => intro n _ h; omega
  | succ d ih =>
    intro n hn _
    by_cases h : n < 10
    · rw [digs_lt h]; simp
    · rw [digs_ge h]
      have hd : 0 < d := by
        rcases Nat.eq_zero_or_pos d with rfl | h'
        · simp at hn; omega
        · exact h'
      have := ih (n / 10) (by rw [Nat.pow_succ] at hn; omega) hd
      simp; omega
theorem digs_head (k : Nat) : ∀ n, n ≤ k → 10 ≤ n → (digs n).head? ≠ some 48 := by
  induction k with
  | zero => intro n h1 h2; omega
  | succ k ih =>
    intro n hn h10
    rw [digs_ge (by omega)]
    by_cases h : n / 10 < 10
    · rw [digs_lt h]
      simp only [List.cons_append, List.head?_cons]
      intro e
      injection e with e
      have := congrArg UInt8.toNat e
      rw [dig_toNat h] at this
      have e2 : (48 : UInt8).toNat = 48 := rfl
      omega
    · have := ih (n / 10) (by omega) (by omega)
      cases hd : digs (n / 10) with
      | nil => exact (digs_ne _ hd).elim
      | cons a l => rw [hd] at this; simpa using this
theorem decL_digs_eq {n : Nat} (h : n < 1000000000) : decL (digs n) = some n := by
  have h1 := digs_all n n (Nat.le_refl _)
  have h2 := digs_len 9 n (by omega) (by omega)
  have h3 : 1 ≤ (digs n).length := by
    cases hd : digs n with
    | nil => exact (digs_ne _ hd).elim
    | cons => simp
  have hs : decShape (digs n) = true := by
    unfold decShape
    rw [decide_eq_true_eq]
    refine ⟨h3, h2, fun ⟨a, b⟩ => ?_⟩
    by_cases h10 : n < 10
    · rw [digs_lt h10] at a; simp at a
    · exact digs_head n n (Nat.le_refl _) (by omega) b
  unfold decL
  rw [hs, h1, if_pos (by rfl), digs_val n n (Nat.le_refl _)]
theorem decL_nought (n : Nat) : decL (48 :: digs n) = none := by
  have h3 : 1 ≤ (digs n).length := by
    cases hd : digs n with
    | nil => exact (digs_ne _ hd).elim
    | cons => simp
  have hs : decShape (48 :: digs n) = false := by
    unfold decShape
    rw [decide_eq_false_iff_not]
    rintro ⟨_, _, h⟩
    exact h ⟨by simp; omega, rfl⟩
  unfold decL
  rw [hs, if_neg (by simp)]
theorem decL_plus (n : Nat) : decL (43 :: digs n) = none := by
  unfold decL
  rw [if_neg]
  simp [digB]
theorem digs_not (n : Nat) {c : UInt8} (hc : digB c = false) : c ∉ digs n := by
  intro hm
  have := List.all_eq_true.1 (digs_all n n (Nat.le_refl _)) c hm
  rw [hc] at this; cases this

/-- four numbers with dots between -/
def dottedOf (a b c d : Nat) : List UInt8 := digs a ++ [46] ++ digs b ++ [46] ++ digs c ++ [46] ++ digs d
def dotted (n : Nat) : List UInt8 := dottedOf (n / 16777216 % 256) (n / 65536 % 256) (n / 256 % 256) (n % 256)
theorem before_app {c : UInt8} {p : List UInt8} (h : c ∉ p) (r : List UInt8) : before c (p ++ c :: r) = p.length := by
  induction p with
  | nil => exact before_cons_eq
  | cons b p ih =>
    have hb : b ≠ c := by rintro rfl; exact h (by simp)
    rw [List.cons_append, before_cons_ne hb, ih (fun m => h (by simp [m]))]; simp
theorem partsL_app {c : UInt8} {p : List UInt8} (h : c ∉ p) (r : List UInt8) : partsL c (p ++ c :: r) = p :: partsL c r := by
  rw [partsL_yes (by simp), before_app h]
  simp [List.take_left, ← List.drop_drop]
theorem dotted_parts (a b c d : Nat) (r : List UInt8) : partsL 46 (digs a ++ [46] ++ digs b ++ [46] ++ digs c ++ [46] ++ r) = digs a :: digs b :: digs c :: partsL 46 r := by
  have e : digs a ++ [46] ++ digs b ++ [46] ++ digs c ++ [46] ++ r = digs a ++ 46 :: (digs b ++ 46 :: (digs c ++ 46 :: r)) := by simp
  rw [e, partsL_app (digs_not a (by decide)), partsL_app (digs_not b (by decide)), partsL_app (digs_not c (by decide))]
theorem addrL_dotted {n : Nat} (h : n < 4294967296) : addrL (dotted n) = some n := by
  rw [addrL_eq]
  unfold dotted dottedOf
  rw [dotted_parts _ _ _ 0, partsL_no (digs_not _ (by decide)), if_pos (by simp)]
  simp only [foldParts]
  rw [decL_digs_eq (by omega), decL_digs_eq (by omega), decL_digs_eq (by omega), decL_digs_eq (by omega)]
  simp only
  rw [if_pos (by omega), if_pos (by omega), if_pos (by omega), if_pos (by omega)]
  congr 1; omega
theorem addrL_dot (n : Nat) : addrL (dotted n ++ [46]) = none := by
  rw [addrL_eq]
  unfold dotted dottedOf
  rw [List.append_assoc, dotted_parts _ _ _ 0, partsL_app (digs_not _ (by decide)), if_neg (by simp [partsL])]
theorem slash_dotted (n : Nat) : (47 : UInt8) ∉ dotted n := by
  unfold dotted dottedOf
  simp only [List.mem_append, List.mem_singleton, not_or]
  refine ⟨⟨⟨⟨⟨⟨digs_not _ (by decide), by decide⟩, digs_not _ (by decide)⟩, by decide⟩, digs_not _ (by decide)⟩, by decide⟩, digs_not _ (by decide)⟩
theorem netL_dotted {n l : Nat} (h : n < 4294967296) (h1 : 1 ≤ l) (h2 : l ≤ 32) : netL (dotted n ++ [47] ++ digs l) = some (n, l) := by
  rw [netL_eq, List.append_assoc, List.singleton_append, partsL_app (slash_dotted n), partsL_no (digs_not _ (by decide))]
  simp only [netParts]
  rw [addrL_dotted h, decL_digs_eq (by omega)]
  simp only
  rw [if_pos ⟨h1, h2⟩]
theorem netL_slash (n : Nat) : netL (dotted n ++ [47]) = none := by
  rw [netL_eq, partsL_app (slash_dotted n)]
  simp only [netParts, partsL]
  rw [decL_nil]
  cases addrL (dotted n) <;> rfl
theorem digs_dec (k : Nat) : ∀ n, n ≤ k → Lib.decDigits n = digs n := by
  induction k with
  | zero => intro n hn; obtain rfl : n = 0 := by omega
            rw [digs_lt (by omega), Lib.decDigits_one (by omega)]
  | succ k ih =>
    intro n hn
    by_cases h : n < 10
    · rw [digs_lt h, Lib.decDigits_one h]
    · rw [digs_ge h, Lib.decDigits, dif_neg h, ih (n / 10) (by omega)]
theorem itoa_digs (n : Nat) : Lib.itoa (n : Int) = digs n := by
  unfold Lib.itoa
  rw [if_neg (by omega), Int.toNat_natCast, digs_dec n n (Nat.le_refl _)]
end Go.Proofs.YtialookpnoaogaaGreat
/- A line set, plain; the sixty-four lines of ConfFull. -/
set_option linter.unusedVariables false
set_option linter.unusedSimpArgs false
namespace Go.Proofs.YtialookpnoaogaaGreat
open Go.RowKit

/-- lines with one more, or another one in its place -/
def setC (x : LineD) (ls : List LineD) : List LineD := ls.take (posL x ls) ++ x :: ls.drop (posL x ls + if thereB x ls = true then 1 else 0)
theorem there_lt {x : LineD} {ls : List LineD} (h : thereB x ls = true) : posL x ls < ls.length := by
  unfold thereB at h
  cases hq : ls[posL x ls]? with
  | none => rw [hq] at h; cases h
  | some q => exact (List.getElem?_eq_some_iff.1 hq).1
theorem setC_len (x : LineD) (ls : List LineD) : (setC x ls).length = ls.length + if thereB x ls = true then 0 else 1 := by
  have h := posL_le x ls
  unfold setC
  rw [List.length_append, List.length_take, List.length_cons, List.length_drop]
  by_cases ht : thereB x ls = true
  · have := there_lt ht
    rw [if_pos ht, if_pos ht]; omega
  · rw [if_neg ht, if_neg ht]; omega
/-- a line's value, or the default -/
def valueC (ls : List LineD) (h : Int) (n l : List UInt8) : List UInt8 :=
  if rightC ls = true then
    (if thereB ⟨h, n, l, []⟩ ls = true then (match ls[posL ⟨h, n, l, []⟩ ls]? with | some q => q.value | none => []) else (match findD h l with | some r => r.df | none => []))
  else []
/-- the names of a head -/
def namesFrom (h : Int) : Option LineD → List LineD → List (List UInt8)
  | _, [] => []
  | p, q :: ls => (if q.head = h ∧ (match p with | none => true | some p => !(decide (p.head = q.head) && decide (p.name = q.name))) = true then [q.name] else []) ++ namesFrom h (some q) ls
def namesC (ls : List LineD) (h : Int) : List (List UInt8) := if h = 0 ∨ rightC ls = false then [] else namesFrom h none ls

def digs3 (n : Nat) : List UInt8 := if n < 10 then [UInt8.ofNat (48 + n)] else if n < 100 then [UInt8.ofNat (48 + n / 10), UInt8.ofNat (48 + n % 10)] else [UInt8.ofNat (48 + n / 100), UInt8.ofNat (48 + n / 10 % 10), UInt8.ofNat (48 + n % 10)]
theorem digs_3 {n : Nat} (h : n < 1000) : digs n = digs3 n := by
  unfold digs3
  by_cases h1 : n < 10
  · rw [if_pos h1, digs_lt h1]
  · rw [if_neg h1, digs_ge h1]
    by_cases h2 : n < 100
    · rw [if_pos h2, digs_lt (by omega)]; rfl
    · rw [if_neg h2, digs_ge (by omega), digs_lt (by omega)]
      have : n / 10 / 10 = n / 100 := by omega
      rw [this]; rfl
def lineI (k : Nat) (v : List UInt8) : LineD := ⟨1, [48, 46, 48, 46, 48, 46] ++ digs3 k, [99, 111, 115, 116], v⟩
def fullL : Nat → List LineD
  | 0 => []
  | k + 1 => setC (lineI k [53]) (fullL k)
end Go.Proofs.YtialookpnoaogaaGreat
/- The order of lines; what the document's Set makes, plain. -/
set_option linter.unusedVariables false
set_option linter.unusedSimpArgs false
namespace Go.Proofs.YtialookpnoaogaaGreat
open Go.RowKit

theorem bl_asymm : ∀ {a b : List UInt8}, Op.bytesLess a b = true → Op.bytesLess b a = false
  | [], [], h => by simp [Op.bytesLess] at h
  | [], _ :: _, _ => rfl
  | _ :: _, [], h => by simp [Op.bytesLess] at h
  | a :: x, b :: y, h => by
    simp only [Op.bytesLess, Bool.or_eq_true, Bool.and_eq_true, decide_eq_true_eq, beq_iff_eq] at h
    simp only [Op.bytesLess, Bool.or_eq_false_iff, Bool.and_eq_false_iff, decide_eq_false_iff_not, beq_eq_false_iff_ne]
    rcases h with h | ⟨rfl, h⟩
    · have := UInt8.lt_iff_toNat_lt.1 h
      refine ⟨fun h2 => ?_, .inl fun e => ?_⟩
      · have := UInt8.lt_iff_toNat_lt.1 h2; omega
      · subst e; omega
    · exact ⟨fun h2 => by have := UInt8.lt_iff_toNat_lt.1 h2; omega, .inr (bl_asymm h)⟩
theorem bl_tri : ∀ {a b : List UInt8}, Op.bytesLess a b = false → Op.bytesLess b a = false → a = b
  | [], [], _, _ => rfl
  | [], _ :: _, h, _ => by simp [Op.bytesLess] at h
  | _ :: _, [], _, h => by simp [Op.bytesLess] at h
  | a :: x, b :: y, h, h2 => by
    simp only [Op.bytesLess, Bool.or_eq_false_iff, Bool.and_eq_false_iff, decide_eq_false_iff_not, beq_eq_false_iff_ne] at h h2
    have e : a = b := by
      apply UInt8.toNat_inj.mp
      have h3 : ¬ a.toNat < b.toNat := fun h' => h.1 (UInt8.lt_iff_toNat_lt.2 h')
      have h4 : ¬ b.toNat < a.toNat := fun h' => h2.1 (UInt8.lt_iff_toNat_lt.2 h')
      omega
    subst e
    have h3 : Op.bytesLess x y = false := by rcases h.2 with h | h; exact absurd rfl h; exact h
    have h4 : Op.bytesLess y x = false := by rcases h2.2 with h | h; exact absurd rfl h; exact h
    exact congrArg (a :: ·) (bl_tri h3 h4)
theorem bl_trans : ∀ {a b c : List UInt8}, Op.bytesLess a b = true → Op.bytesLess b c = true → Op.bytesLess a c = true
  | _, [], _, h, _ => by simp [Op.bytesLess] at h
  | _, _ :: _, [], _, h => by simp [Op.bytesLess] at h
  | [], _ :: _, _ :: _, _, _ => rfl
  | a :: x, b :: y, c :: z, h, h2 => by
    simp only [Op.bytesLess, Bool.or_eq_true, Bool.and_eq_true, decide_eq_true_eq, beq_iff_eq] at h h2 ⊢
    rcases h with h | ⟨rfl, h⟩
    · rcases h2 with h2 | ⟨rfl, h2⟩
      · left
        have := UInt8.lt_iff_toNat_lt.1 h; have := UInt8.lt_iff_toNat_lt.1 h2
        exact UInt8.lt_iff_toNat_lt.2 (by omega)
      · exact .inl h
    · rcases h2 with h2 | ⟨rfl, h2⟩
      · exact .inl h2
      · exact .inr ⟨rfl, bl_trans h h2⟩
/-- as a proposition -/
theorem lessB_iff (a b : LineD) : lessB a b = true ↔ a.head < b.head ∨ (a.head = b.head ∧ (Op.bytesLess a.name b.name = true ∨ (a.name = b.name ∧ Op.bytesLess a.leaf b.leaf = true))) := by
  unfold lessB
  by_cases h : a.head = b.head
  · rw [if_pos h]
    by_cases n : a.name = b.name
    · rw [if_pos n]
      have e : Op.bytesLess a.name b.name = false := by rw [n]; cases hb : Op.bytesLess b.name b.name with
        | false => rfl
        | true => have := bl_asymm hb; rw [hb] at this; cases this
      simp [h, n]
      intro e2
      rw [n] at e
      rw [e] at e2; cases e2
    · rw [if_neg n]; simp [h, n]
  · rw [if_neg h]; simp [h]
theorem bl_irr (a : List UInt8) : Op.bytesLess a a = false := by
  cases hb : Op.bytesLess a a with
  | false => rfl
  | true => have := bl_asymm hb; rw [hb] at this; cases this
theorem less_asymm {a b : LineD} (h : lessB a b = true) : lessB b a = false := by
  rw [← Bool.not_eq_true]
  rw [lessB_iff] at h ⊢
  rintro h2
  rcases h with h | ⟨h, h3⟩
  · rcases h2 with h2 | ⟨h2, _⟩ <;> omega
  · rcases h2 with h2 | ⟨_, h4⟩
    · omega
    · rcases h3 with h3 | ⟨e, h3⟩
      · rcases h4 with h4 | ⟨e, h4⟩
        · rw [bl_asymm h3] at h4; cases h4
        · rw [e, bl_irr] at h3; cases h3
      · rcases h4 with h4 | ⟨_, h4⟩
        · rw [e, bl_irr] at h4; cases h4
        · rw [bl_asymm h3] at h4; cases h4
theorem less_trans {a b c : LineD} (h : lessB a b = true) (h2 : lessB b c = true) : lessB a c = true := by
  rw [lessB_iff] at h h2 ⊢
  rcases h with h | ⟨h, h3⟩
  · rcases h2 with h2 | ⟨h2, _⟩ <;> (left; omega)
  · rcases h2 with h2 | ⟨h2, h4⟩
    · left; omega
    · right
      refine ⟨by omega, ?_⟩
      rcases h3 with h3 | ⟨e, h3⟩
      · rcases h4 with h4 | ⟨e, h4⟩
        · exact .inl (bl_trans h3 h4)
        · exact .inl (by rw [← e]; exact h3)
      · rcases h4 with h4 | ⟨e2, h4⟩
        · exact .inl (by rw [e]; exact h4)
        · exact .inr ⟨by rw [e, e2], bl_trans h3 h4⟩
/-- not ahead, and ahead of a third one -/
theorem le_trans_less {x q r : LineD} (h : lessB q x = false) (h2 : lessB q r = true) : lessB x r = true := by
  cases hx : lessB x q with
  | true => exact less_trans hx h2
  | false =>
    have e : x.head = q.head ∧ x.name = q.name ∧ x.leaf = q.leaf := by
      have a1 := (not_congr (lessB_iff q x)).1 (by rw [h]; exact Bool.false_ne_true)
      have a2 := (not_congr (lessB_iff x q)).1 (by rw [hx]; exact Bool.false_ne_true)
      have eh : x.head = q.head := by
        have : ¬ q.head < x.head := fun h' => a1 (.inl h')
        have : ¬ x.head < q.head := fun h' => a2 (.inl h')
        omega
      have en : x.name = q.name := bl_tri (Bool.eq_false_iff.2 fun h' => a2 (.inr ⟨eh, .inl h'⟩)) (Bool.eq_false_iff.2 fun h' => a1 (.inr ⟨eh.symm, .inl h'⟩))
      exact ⟨eh, en, bl_tri (Bool.eq_false_iff.2 fun h' => a2 (.inr ⟨eh, .inr ⟨en, h'⟩⟩)) (Bool.eq_false_iff.2 fun h' => a1 (.inr ⟨eh.symm, .inr ⟨en.symm, h'⟩⟩))⟩
    rw [lessB_iff] at h2 ⊢
    rw [e.1, e.2.1, e.2.2]; exact h2

/-- each one is ahead of the next -/
def rises : List LineD → Prop
  | [] => True
  | [_] => True
  | a :: b :: ls => lessB a b = true ∧ rises (b :: ls)
theorem rises_head {a : LineD} : ∀ {ls : List LineD}, rises (a :: ls) → ∀ q ∈ ls, lessB a q = true := by
  intro ls
  induction ls generalizing a with
  | nil => intro _ q hq; cases hq
  | cons b ls ih =>
    intro h q hq
    rcases List.mem_cons.1 hq with rfl | hq
    · exact h.1
    · exact less_trans h.1 (ih h.2 q hq)
theorem rises_tail {a : LineD} {ls : List LineD} (h : rises (a :: ls)) : rises ls := by
  cases ls with
  | nil => trivial
  | cons b ls => exact h.2
/-- a round of the document's Set -/
def stepR (x : LineD) (s : List LineD × Bool) (q : LineD) : List LineD × Bool :=
  let t := if (!s.2 && !lessB q x) = true then (s.1 ++ [x], true) else s
  if (lessB q x || lessB x q) = true then (t.1 ++ [q], t.2) else t
theorem stepR_ahead {x q : LineD} (out : List LineD) (h : lessB q x = true) : stepR x (out, false) q = (out ++ [q], false) := by
  simp [stepR, h]
theorem stepR_behind {x q : LineD} (out : List LineD) (h : lessB x q = true) : stepR x (out, true) q = (out ++ [q], true) := by
  simp [stepR, h]
theorem fold_behind {x : LineD} : ∀ (ls out : List LineD), (∀ q ∈ ls, lessB x q = true) → ls.foldl (stepR x) (out, true) = (out ++ ls, true) := by
  intro ls
  induction ls with
  | nil => intro out _; simp
  | cons q ls ih =>
    intro out h
    rw [List.foldl_cons, stepR_behind out (h q (List.mem_cons_self ..)), ih _ (fun r hr => h r (List.mem_cons_of_mem _ hr)), List.append_assoc]; rfl
def endR (x : LineD) (s : List LineD × Bool) : List LineD := if s.2 = true then s.1 else s.1 ++ [x]
theorem fold_set {x : LineD} : ∀ (ls out : List LineD), rises ls → endR x (ls.foldl (stepR x) (out, false)) = out ++ setC x ls := by
  intro ls
  induction ls with
  | nil => intro out _; rfl
  | cons q ls ih =>
    intro out h
    by_cases hq : lessB q x = true
    · rw [List.foldl_cons, stepR_ahead out hq, ih _ (rises_tail h), List.append_assoc]
      congr 1
      have hp : posL x (q :: ls) = posL x ls + 1 := by rw [posL, if_pos hq]
      have ht : thereB x (q :: ls) = thereB x ls := by unfold thereB; rw [hp]; simp
      unfold setC
      rw [hp, ht]
      split <;> simp [Nat.add_right_comm]
    · have hq' : lessB q x = false := by simpa using hq
      have hp : posL x (q :: ls) = 0 := by rw [posL, if_neg hq]
      have hb : ∀ r ∈ ls, lessB x r = true := fun r hr => le_trans_less hq' (rises_head h r hr)
      rw [List.foldl_cons]
      cases hx : lessB x q with
      | true =>
        have e : stepR x (out, false) q = (out ++ [x] ++ [q], true) := by simp [stepR, hq', hx]
        have ht : thereB x (q :: ls) = false := by unfold thereB; rw [hp]; simp [hx]
        rw [e, fold_behind _ _ hb]
        unfold setC endR
        rw [hp, ht]; simp
      | false =>
        have e : stepR x (out, false) q = (out ++ [x], true) := by simp [stepR, hq', hx]
        have ht : thereB x (q :: ls) = true := by unfold thereB; rw [hp]; simp [hx]
        rw [e, fold_behind _ _ hb]
        unfold setC endR
        rw [hp, ht]; simp
theorem riseB_pre {ls : List LineD} : ∀ {k : Nat}, riseB ls k = true → k ≤ ls.length → ∀ i a b, i + 1 < k → ls[i]? = some a → ls[i + 1]? = some b → lessB a b = true := by
  intro k
  induction k with
  | zero => intro _ _ i a b hi; omega
  | succ k ih =>
    intro h hk i a b hi ha hb
    rw [riseB, Bool.and_eq_true] at h
    by_cases e : i + 1 < k
    · exact ih h.1 (by omega) i a b e ha hb
    · obtain rfl : k = i + 1 := by omega
      have h2 := h.2
      rw [hb] at h2
      simp only [Bool.and_eq_true] at h2
      rw [ha] at h2
      exact h2.2
theorem rises_of : ∀ {ls : List LineD}, (∀ i a b, ls[i]? = some a → ls[i + 1]? = some b → lessB a b = true) → rises ls := by
  intro ls
  induction ls with
  | nil => intro _; trivial
  | cons a ls ih =>
    intro h
    cases ls with
    | nil => trivial
    | cons b ls => exact ⟨h 0 a b rfl rfl, ih (fun i c d hc hd => h (i + 1) c d (by simpa using hc) (by simpa using hd))⟩
theorem right_rises {ls : List LineD} (h : rightC ls = true) : rises ls := by
  unfold rightC at h
  rw [Bool.and_eq_true] at h
  refine rises_of fun i a b ha hb => riseB_pre h.2 (Nat.le_refl _) i a b ?_ ha hb
  have := (List.getElem?_eq_some_iff.1 hb).1
  omega
/-- the document's Set makes the same -/
theorem set_fold {x : LineD} {ls : List LineD} (h : rightC ls = true) : endR x (ls.foldl (stepR x) ([], false)) = setC x ls := by
  rw [fold_set ls [] (right_rises h)]; rfl
end Go.Proofs.YtialookpnoaogaaGreat
/- conf.Set, walked: where there is room, and where there isn't (gen_cfi.py). -/
set_option linter.unusedVariables false
set_option linter.unusedSimpArgs false
namespace Go.Proofs.YtialookpnoaogaaGreat
open Go.RowKit

theorem lineVals_len (l : LineD) : (lineVals l).length = 4 := rfl
theorem lineVals_one (l : LineD) : ∀ u ∈ lineVals l, u.oneCell' = true := by
  intro u hu; simp [lineVals, strv] at hu; rcases hu with rfl | rfl | rfl | rfl <;> rfl
theorem RowsAt.lines {w : World} {v : Value} {ls : List LineD} (h : RowsAt 4 lineVals w v ls) : LinesAt w v ls := by
  obtain ⟨p, c, rfl, -, -, hr⟩ := h
  exact ⟨p, c, rfl, hr⟩
theorem lineAll : ∃ i, Tryz.prog.info? 79 = some i ∧ i.zero = some (.agg #[.int .i64 0, .string ⟨#[]⟩, .string ⟨#[]⟩, .string ⟨#[]⟩]) ∧ i.size = 4 ∧ i.bytes = 56 := by
  have h : (Tryz.prog.info? 79).map (fun i => (i.zero, i.size, i.bytes)) = some (some (.agg #[.int .i64 0, .string ⟨#[]⟩, .string ⟨#[]⟩, .string ⟨#[]⟩]), 4, 56) := by kernel_rfl
  obtain ⟨i, hi, e⟩ := Option.map_eq_some_iff.1 h
  injection e with e1 e; injection e with e2 e3
  exact ⟨i, hi, e1, e2, e3⟩
/-- make of rows of no length -/
theorem wp_make_r {α : Type} {sz : Nat} {cv : α → List Value} {P : Program} {w : World} {o : Oper} {a : Act} {K : Act → World → Prop} {Q : Exit → Act → World → Prop} (l c : Operand) (t : TypeId) (ho : o.op = .makeSlice t l c) (e : TypeId) (i : TypeInfo) (z : Value)
    (ht : P.underlying t = some (.slice e)) (hi : P.info? e = some i) (hz : i.zero = some z) (hsize : i.size = sz) (by_ : Nat) (hby : i.bytes = by_) (hby1 : by_ ≤ 100000) (n : Nat) (C : Int) (hC : C = (n : Int)) (hl : a.eval l = .int .i64 0) (hc : a.eval c = .int .i64 C) (hn : n ≤ 1000000000)
    (h : ∀ w', OwnR (α := α) e sz cv w w' (.slice (some ⟨w.heap.size, 0, none⟩) 0 n) [] → Keeps (fun _ => False) w w' → K (a.put o.dst (.slice (some ⟨w.heap.size, 0, none⟩) 0 n)) w') : Oper.wp P o a w K Q := by
  subst hC
  subst hby
  have hb : i.bytes * n ≤ 100000 * 1000000000 := Nat.mul_le_mul hby1 hn
  obtain ⟨w', hrun, r1, r2⟩ := run_make_own (P := P) w 0 t e i z sz ht hi hz hsize .i64 .i64 n (by omega) (by unfold maxLen; omega) (Nat.zero_le _)
  unfold Oper.wp
  simp [execOp, ho, hl, hc, hrun, Result.andThen]
  refine h w' ⟨by simpa [rowCells] using r1, fun k e => ?_, r2.size⟩ ((Keeps.refl _ _).grown r2 (fun k e => by cases e))
  simp only [Value.ownBlock, Option.some.injEq] at e
  omega
theorem wpList_append_rows {α : Type} {sz : Nat} {cv : α → List Value} {P : Program} {w : World} {ops : Array Oper} {rest : List Oper} {o : Oper} {a : Act} {Q : Exit → Act → World → Prop} (hgd : o.guard = none) (s x : Operand) (t e : TypeId)
    (ho : o.op = .call { callee := .builtin .append, args := #[s, x], argTypes := #[t, t] })
    (i : TypeInfo) (z : Value) (by_ : Nat) (ht : P.underlying t = some (.slice e)) (hi : P.info? e = some i) (hz : i.zero = some z) (hsize : i.size = sz) (hby : i.bytes = by_) (hzs : z.cells.size = sz) (hsz0 : 0 < sz) (hby1 : by_ ≤ 100000)
    (hcv : ∀ x, (cv x).length = sz) (h1 : ∀ (x : α), ∀ u ∈ cv x, u.oneCell' = true) (w0 : World) (v : Value) (xs : List α) (hs : a.eval s = v) (hown : OwnR e sz cv w0 w v xs) (sv : Value) (hx : a.eval x = sv) (ys : List α) (hl : RowsAt sz cv w sv ys) (hsz : xs.length + ys.length ≤ 1000000000)
    (h : ∀ p c w', Hid (OwnR e sz cv w0 w' (.slice p (xs.length + ys.length) c) (xs ++ ys)) → Hid (Grown w v p (xs.length + ys.length) c w') → wpList P ops Q rest (a.put o.dst (.slice p (xs.length + ys.length) c)) w') : wpList P ops Q (o :: rest) a w :=
  wpList_plain hgd fun _ hK => wp_append_rows s x t e ho i z by_ ht hi hz hsize hby hzs hsz0 hby1 hcv h1 w0 v xs hs hown sv hx ys hl hsz (fun p c w' h1 h2 => hK _ _ (h p c w' (Lib.hid h1) (Lib.hid h2)))

/-- lines of the call's own, and no error -/
def SetPost (ls : List LineD) (w : World) (e : Ending) (w' : World) : Prop :=
  ∃ p c, e = .returned (.tuple #[.slice p ls.length c, .int .i64 0]) ∧ OwnR 79 4 lineVals w w' (.slice p ls.length c) ls ∧ Keeps (fun _ => False) w w'
end Go.Proofs.YtialookpnoaogaaGreat
