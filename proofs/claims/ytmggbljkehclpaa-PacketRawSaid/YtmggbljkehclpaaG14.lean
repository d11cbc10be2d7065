/- LS LT LU LV LY -/
import Derived.Test.YtmggbljkehclpaaG10
import Derived.Test.YtmggbljkehclpaaG12
import Derived.Laws.StructEq
set_option linter.unusedVariables false
set_option linter.unusedSimpArgs false
namespace Go.Proofs.Ytmggbljkehclpaa
open Go.RowKit
def i0k (a b : b09) : Bool := decide (a.id = b.id) && (decide (a.data = b.data) && (decide (a.type = b.type) && decide (a.cost = b.cost)))
def e06 : List b09 → List b09 → Bool
 | [], [] => true
 | a :: r, b :: s => i0k a b && e06 r s
 | _, _ => false
def e0j : List Nat → List Nat → Bool
 | [], [] => true
 | a :: r, b :: s => decide (a = b) && e0j r s
 | _, _ => false
theorem n0b {a b : List b09} (h : a.length ≠ b.length) : e06 a b = false := by
 induction a generalizing b with
 | nil => cases b <;> simp_all [e06]
 | cons x a ih =>
  cases b with
  | nil => rfl
  | cons y b => simp only [e06]; rw [ih (by simpa using h)]; simp
theorem o0r {a b : List Nat} (h : a.length ≠ b.length) : e0j a b = false := by
 induction a generalizing b with
 | nil => cases b <;> simp_all [e0j]
 | cons x a ih =>
  cases b with
  | nil => rfl
  | cons y b => simp only [e0j]; rw [ih (by simpa using h)]; simp
theorem n03 {a b : List Nat} {k : Nat} (h1 : k < a.length) (h2 : k < b.length) : e0j (a.drop k) (b.drop k) = (decide (a[k] = b[k]) && e0j (a.drop (k + 1)) (b.drop (k + 1))) := by
 rw [List.drop_eq_getElem_cons h1, List.drop_eq_getElem_cons h2]; rfl
theorem m04 {a b : List b09} {k : Nat} (h1 : k < a.length) (h2 : k < b.length) : e06 (a.drop k) (b.drop k) = (i0k a[k] b[k] && e06 (a.drop (k + 1)) (b.drop (k + 1))) := by
 rw [List.drop_eq_getElem_cons h1, List.drop_eq_getElem_cons h2]; rfl
@[go_sem] theorem guardLink (op : BinOp) (x y : Operand) (xs ys : Array Value) (w : World) : (eqGuard op 108 x y (.agg xs) (.agg ys)).run Try.prog w = .ok () w := run_eqGuard_agg w op 108 x y xs ys (by kernel_rfl)
def keyEq (a b : LsaD) : Bool := decide (a.type = b.type) && (decide (a.id = b.id) && decide (a.adv = b.adv))
def m0k (a b : LsaD) : Bool := keyEq a b && (decide (a.mask = b.mask) && (decide (a.cost = b.cost) && (e06 a.links b.links && e0j a.routers b.routers)))
theorem n0n (k1 k2 k3 m c l r : Prop) : ¬ k1 ∨ (k1 ∧ ¬ k2) ∨ (k1 ∧ k2 ∧ ¬ k3) ∨ (k1 ∧ k2 ∧ k3 ∧ ¬ m) ∨ (k1 ∧ k2 ∧ k3 ∧ m ∧ ¬ c) ∨ (k1 ∧ k2 ∧ k3 ∧ m ∧ c ∧ ¬ l) ∨ (k1 ∧ k2 ∧ k3 ∧ m ∧ c ∧ l) := by
 by_cases h1 : k1 <;> by_cases h2 : k2 <;> by_cases h3 : k3 <;> by_cases h4 : m <;> by_cases h5 : c <;> by_cases h6 : l <;> simp [h1, h2, h3, h4, h5, h6]
theorem b0d : (Try.prog.info? 71).map (·.size) = some 3 := by kernel_rfl
theorem q09 (i1 d1 i2 d2 : Nat) (t1 s1 t2 s2 : Int) : (i1 = i2 ∧ d1 = d2 ∧ t1 = t2 ∧ s1 = s2) ∨ (¬ i1 = i2) ∨ (i1 = i2 ∧ ¬ d1 = d2) ∨ (i1 = i2 ∧ d1 = d2 ∧ ¬ t1 = t2) ∨ (i1 = i2 ∧ d1 = d2 ∧ t1 = t2 ∧ ¬ s1 = s2) := by
 by_cases h1 : i1 = i2 <;> by_cases h2 : d1 = d2 <;> by_cases h3 : t1 = t2 <;> by_cases h4 : s1 = s2 <;> simp [h1, h2, h3, h4]
theorem b02.open {w : World} {p : Option Addr} {c : Nat} {ls : List b09} (h : b02 w (.slice p ls.length c) ls) (h0 : 0 < ls.length) : ∃ g o, p = some ⟨g, o, none⟩ ∧ ∀ i l, ls[i]? = some l → w.rangeAt g (o + i * 4) (b0l l) := by
 obtain ⟨p', c', e, -, -, hr⟩ := h
 injection e with e1 e2 e3
 subst e1
 exact hr h0
theorem a0u.open {w : World} {p : Option Addr} {c : Nat} {ls : List Nat} (h : a0u w (.slice p ls.length c) ls) (h0 : 0 < ls.length) : ∃ g o, p = some ⟨g, o, none⟩ ∧ w.rangeAt g o (ls.map nv) := by
 obtain ⟨p', c', e, -, -, hr⟩ := h
 injection e with e1 e2 e3
 subst e1
 exact hr h0
set_option maxRecDepth 100000 in
set_option maxHeartbeats 4000000 in
theorem e0q (age1 type1 seq1 cost1 age2 type2 seq2 cost2 : Int) (id1 adv1 mask1 id2 adv2 mask2 : Nat) (links1 links2 : List b09) (routers1 routers2 : List Nat) (p5 p7 q5 q7 : Option Addr) (c5 c7 d5 d7 : Nat) (z : Bool) (w : World)
 (hl1 : links1.length ≤ 9223372036854775807) (hl2 : links2.length ≤ 9223372036854775807) (hr1 : routers1.length ≤ 9223372036854775807) (hr2 : routers2.length ≤ 9223372036854775807)
 (hL1 : Hid (b02 w (.slice p5 links1.length c5) links1)) (hL2 : Hid (b02 w (.slice q5 links2.length d5) links2)) (hR1 : Hid (a0u w (.slice p7 routers1.length c7) routers1)) (hR2 : Hid (a0u w (.slice q7 routers2.length d7) routers2))
 (hz : Hid (m0k ⟨age1, type1, id1, adv1, seq1, links1, mask1, routers1, cost1⟩ ⟨age2, type2, id2, adv2, seq2, links2, mask2, routers2, cost2⟩ = z)) :
 Calls Try.prog 60 #[.agg (La age1 type1 id1 adv1 seq1 (.slice p5 links1.length c5) mask1 (.slice p7 routers1.length c7) cost1), .agg (La age2 type2 id2 adv2 seq2 (.slice q5 links2.length d5) mask2 (.slice q7 routers2.length d7) cost2)] w (fun e w' => e = .returned (.bool z) ∧ a02 (fun _ => False) w w') := by
 have hkw : a02 (fun _ => False) w ((w.alloc (.cells (La age1 type1 id1 adv1 seq1 (.slice p5 links1.length c5) mask1 (.slice p7 routers1.length c7) cost1) 80)).alloc (.cells (La age2 type2 id2 adv2 seq2 (.slice q5 links2.length d5) mask2 (.slice q7 routers2.length d7) cost2) 80)) := ((a02.refl _ _).alloc _).alloc _
 have hA0 := (f0a w (La' age1 type1 id1 adv1 seq1 (.slice p5 links1.length c5) mask1 (.slice p7 routers1.length c7) cost1) 80).next ((a02.refl _ _).alloc (.cells (La age2 type2 id2 adv2 seq2 (.slice q5 links2.length d5) mask2 (.slice q7 routers2.length d7) cost2) 80))
 have hB0 : b0v (w.heap.size + 1) (La' age2 type2 id2 adv2 seq2 (.slice q5 links2.length d5) mask2 (.slice q7 routers2.length d7) cost2) (w.alloc (.cells (La age1 type1 id1 adv1 seq1 (.slice p5 links1.length c5) mask1 (.slice p7 routers1.length c7) cost1) 80)) ((w.alloc (.cells (La age1 type1 id1 adv1 seq1 (.slice p5 links1.length c5) mask1 (.slice p7 routers1.length c7) cost1) 80)).alloc (.cells (La age2 type2 id2 adv2 seq2 (.slice q5 links2.length d5) mask2 (.slice q7 routers2.length d7) cost2) 80)) := by
  have := f0a (w.alloc (.cells (La age1 type1 id1 adv1 seq1 (.slice p5 links1.length c5) mask1 (.slice p7 routers1.length c7) cost1) 80)) (La' age2 type2 id2 adv2 seq2 (.slice q5 links2.length d5) mask2 (.slice q7 routers2.length d7) cost2) 80
  simpa using this
 have hK1 : Hid (((w.alloc (.cells (La age1 type1 id1 adv1 seq1 (.slice p5 links1.length c5) mask1 (.slice p7 routers1.length c7) cost1) 80)).alloc (.cells (La age2 type2 id2 adv2 seq2 (.slice q5 links2.length d5) mask2 (.slice q7 routers2.length d7) cost2) 80)).rangeAt w.heap.size 1 [.int .i64 type1, .int .u32 id1, .int .u32 adv1]) := Hi (by
  have hb := hA0.r
  exact fun j u hu => by rw [Nat.add_comm 1 j]; have := hb (j + 1) u (by rcases j with _ | _ | _ | j <;> simp_all); rwa [Nat.zero_add] at this)
 have hK2 : Hid (((w.alloc (.cells (La age1 type1 id1 adv1 seq1 (.slice p5 links1.length c5) mask1 (.slice p7 routers1.length c7) cost1) 80)).alloc (.cells (La age2 type2 id2 adv2 seq2 (.slice q5 links2.length d5) mask2 (.slice q7 routers2.length d7) cost2) 80)).rangeAt (w.heap.size + 1) 1 [.int .i64 type2, .int .u32 id2, .int .u32 adv2]) := Hi (by
  have hb := hB0.r
  exact fun j u hu => by rw [Nat.add_comm 1 j]; have := hb (j + 1) u (by rcases j with _ | _ | _ | j <;> simp_all); rwa [Nat.zero_add] at this)
 have hA := Hi hA0
 have hB := Hi hB0
 clear hA0 hB0
 have hL1' := Hi (hL1.out.keep hkw)
 have hL2' := Hi (hL2.out.keep hkw)
 have hR1' := Hi (hR1.out.keep hkw)
 have hR2' := Hi (hR2.out.keep hkw)
 have hkw' := Hi hkw
 clear hkw hL1 hL2 hR1 hR2
 have hz0 := hz.out
 clear hz
 unfold m0k keyEq at hz0
 simp only at hz0
 rcases n0n (type1 = type2) (id1 = id2) (adv1 = adv2) (mask1 = mask2) (cost1 = cost2) (links1.length = links2.length ∧ routers1.length = routers2.length) True with hn | ⟨rfl, hn⟩ | ⟨rfl, rfl, hn⟩ | ⟨rfl, rfl, rfl, hn⟩ | ⟨rfl, rfl, rfl, rfl, hn⟩ | ⟨rfl, rfl, rfl, rfl, rfl, hn⟩ | ⟨rfl, rfl, rfl, rfl, rfl, hn⟩
 ·obtain rfl : false = z := by rw [← hz0]; simp [hn]
  clear hz0
  go_enter Try.func60, Try.ntmps60
  go_wp2_with ((with_reducible refine a09 8 ?_); refine wpList_load_mid rfl 71 (.tmp 7) rfl w.heap.size 1 rfl _ _ hK1.out Try.underlying71 rfl b0d ?_)
  go_wp2_with ((with_reducible refine a09 10 ?_); refine wpList_load_mid rfl 71 (.tmp 9) rfl (w.heap.size + 1) 1 rfl _ _ hK2.out Try.underlying71 rfl b0d ?_)
  go_ret
  exact ⟨rfl, hkw'.out⟩
 ·obtain rfl : false = z := by rw [← hz0]; simp [hn]
  clear hz0
  have hni : ¬ ((id1 : Nat) : Int) = (id2 : Nat) := by omega
  clear hn
  go_enter Try.func60, Try.ntmps60
  go_wp2_with ((with_reducible refine a09 8 ?_); refine wpList_load_mid rfl 71 (.tmp 7) rfl w.heap.size 1 rfl _ _ hK1.out Try.underlying71 rfl b0d ?_)
  go_wp2_with ((with_reducible refine a09 10 ?_); refine wpList_load_mid rfl 71 (.tmp 9) rfl (w.heap.size + 1) 1 rfl _ _ hK2.out Try.underlying71 rfl b0d ?_)
  go_ret
  exact ⟨rfl, hkw'.out⟩
 ·obtain rfl : false = z := by rw [← hz0]; simp [hn]
  clear hz0
  have hni : ¬ ((adv1 : Nat) : Int) = (adv2 : Nat) := by omega
  clear hn
  go_enter Try.func60, Try.ntmps60
  go_wp2_with ((with_reducible refine a09 8 ?_); refine wpList_load_mid rfl 71 (.tmp 7) rfl w.heap.size 1 rfl _ _ hK1.out Try.underlying71 rfl b0d ?_)
  go_wp2_with ((with_reducible refine a09 10 ?_); refine wpList_load_mid rfl 71 (.tmp 9) rfl (w.heap.size + 1) 1 rfl _ _ hK2.out Try.underlying71 rfl b0d ?_)
  go_ret
  exact ⟨rfl, hkw'.out⟩
 ·obtain rfl : false = z := by rw [← hz0]; simp [hn]
  clear hz0
  have hni : ¬ ((mask1 : Nat) : Int) = (mask2 : Nat) := by omega
  clear hn
  go_enter Try.func60, Try.ntmps60
  go_wp2_with ((with_reducible refine a09 8 ?_); refine wpList_load_mid rfl 71 (.tmp 7) rfl w.heap.size 1 rfl _ _ hK1.out Try.underlying71 rfl b0d ?_)
  go_wp2_with ((with_reducible refine a09 10 ?_); refine wpList_load_mid rfl 71 (.tmp 9) rfl (w.heap.size + 1) 1 rfl _ _ hK2.out Try.underlying71 rfl b0d ?_)
  go_ret
  exact ⟨rfl, hkw'.out⟩
 ·obtain rfl : false = z := by rw [← hz0]; simp [hn]
  clear hz0
  go_enter Try.func60, Try.ntmps60
  go_wp2_with ((with_reducible refine a09 8 ?_); refine wpList_load_mid rfl 71 (.tmp 7) rfl w.heap.size 1 rfl _ _ hK1.out Try.underlying71 rfl b0d ?_)
  go_wp2_with ((with_reducible refine a09 10 ?_); refine wpList_load_mid rfl 71 (.tmp 9) rfl (w.heap.size + 1) 1 rfl _ _ hK2.out Try.underlying71 rfl b0d ?_)
  go_ret
  exact ⟨rfl, hkw'.out⟩
 ·obtain rfl : false = z := by
   rw [← hz0]
   by_cases e : links1.length = links2.length
   ·rw [o0r (fun e2 => hn ⟨e, e2⟩)]; simp
   ·rw [n0b e]; simp
  clear hz0
  by_cases e : links1.length = links2.length
  ·have hni : ¬ ((routers1.length : Nat) : Int) = (routers2.length : Nat) := by have : ¬ routers1.length = routers2.length := fun e2 => hn ⟨e, e2⟩; omega
   have e' : ((links1.length : Nat) : Int) = (links2.length : Nat) := by omega
   clear hn e
   go_enter Try.func60, Try.ntmps60
   go_wp2_with ((with_reducible refine a09 8 ?_); refine wpList_load_mid rfl 71 (.tmp 7) rfl w.heap.size 1 rfl _ _ hK1.out Try.underlying71 rfl b0d ?_)
   go_wp2_with ((with_reducible refine a09 10 ?_); refine wpList_load_mid rfl 71 (.tmp 9) rfl (w.heap.size + 1) 1 rfl _ _ hK2.out Try.underlying71 rfl b0d ?_)
   go_ret
   exact ⟨rfl, hkw'.out⟩
  ·have hni : ¬ ((links1.length : Nat) : Int) = (links2.length : Nat) := by omega
   clear hn e
   go_enter Try.func60, Try.ntmps60
   go_wp2_with ((with_reducible refine a09 8 ?_); refine wpList_load_mid rfl 71 (.tmp 7) rfl w.heap.size 1 rfl _ _ hK1.out Try.underlying71 rfl b0d ?_)
   go_wp2_with ((with_reducible refine a09 10 ?_); refine wpList_load_mid rfl 71 (.tmp 9) rfl (w.heap.size + 1) 1 rfl _ _ hK2.out Try.underlying71 rfl b0d ?_)
   go_ret
   exact ⟨rfl, hkw'.out⟩
 ·obtain ⟨he1, he2⟩ := hn
  have e1 : ((links1.length : Nat) : Int) = (links2.length : Nat) := by omega
  have e2 : ((routers1.length : Nat) : Int) = (routers2.length : Nat) := by omega
  have he1' := Hi he1
  have he2' := Hi he2
  clear he1 he2
  have hz1 : Hid ((e06 links1 links2 && e0j routers1 routers2) = z) := Hi (by rw [← hz0]; simp)
  clear hz0
  go_enter Try.func60, Try.ntmps60
  go_wp2_with ((with_reducible refine a09 8 ?_); refine wpList_load_mid rfl 71 (.tmp 7) rfl w.heap.size 1 rfl _ _ hK1.out Try.underlying71 rfl b0d ?_)
  go_wp2_with ((with_reducible refine a09 10 ?_); refine wpList_load_mid rfl 71 (.tmp 9) rfl (w.heap.size + 1) 1 rfl _ _ hK2.out Try.underlying71 rfl b0d ?_)
  clear e1 e2
  go_loopw [5] (fun iv wr => ∃ k : Nat, k ≤ links1.length ∧ iv = .int .i64 k ∧ Hid ((e06 (links1.drop k) (links2.drop k) && e0j routers1 routers2) = z) ∧ Hid (∃ m, wr = World.drewN ((w.alloc (.cells (La age1 type1 id1 adv1 seq1 (.slice p5 links1.length c5) mask1 (.slice p7 routers1.length c7) cost1) 80)).alloc (.cells (La age2 type1 id1 adv1 seq2 (.slice q5 links2.length d5) mask1 (.slice q7 routers2.length d7) cost1) 80)) m)) (fun iv _ => links1.length - (intOf iv).toNat)
  case atStart => exact ⟨0, by omega, rfl, Hi hz1.out, Hi ⟨0, rfl⟩⟩
  case round =>
   obtain ⟨k, hk, rfl, heq, hm⟩ := hrel
   clear hz1
   have b1 : wr.cell? ⟨w.heap.size, 5, none⟩ = some (.slice p5 links1.length c5) := by obtain ⟨m, rfl⟩ := hm.out; exact (hA.out.next ((a02.refl _ _).drewN m)).cell 5 _ rfl
   have b2 : wr.cell? ⟨w.heap.size + 1, 5, none⟩ = some (.slice q5 links2.length d5) := by obtain ⟨m, rfl⟩ := hm.out; exact (hB.out.next ((a02.refl _ _).drewN m)).cell 5 _ rfl
   have b3 : wr.cell? ⟨w.heap.size, 7, none⟩ = some (.slice p7 routers1.length c7) := by obtain ⟨m, rfl⟩ := hm.out; exact (hA.out.next ((a02.refl _ _).drewN m)).cell 7 _ rfl
   have b4 : wr.cell? ⟨w.heap.size + 1, 7, none⟩ = some (.slice q7 routers2.length d7) := by obtain ⟨m, rfl⟩ := hm.out; exact (hB.out.next ((a02.refl _ _).drewN m)).cell 7 _ rfl
   by_cases hlk : k < links1.length
   ·have hlk2 : k < links2.length := by have := he1'.out; omega
    obtain ⟨g, o, rfl, hr1⟩ := hL1'.out.open (by omega)
    obtain ⟨g2, o2, rfl, hr2⟩ := hL2'.out.open (by omega)
    obtain ⟨l1, hl1⟩ : ∃ l, links1[k] = l := ⟨_, rfl⟩
    obtain ⟨l2, hl2⟩ : ∃ l, links2[k] = l := ⟨_, rfl⟩
    have r1 : wr.rangeAt g (o + k * 4) (b0l l1) := by obtain ⟨m, rfl⟩ := hm.out; exact hr1 k l1 (by rw [List.getElem?_eq_getElem hlk, hl1])
    have r2 : wr.rangeAt g2 (o2 + k * 4) (b0l l2) := by obtain ⟨m, rfl⟩ := hm.out; exact hr2 k l2 (by rw [List.getElem?_eq_getElem hlk2, hl2])
    have hst := m04 hlk hlk2
    rw [hl1, hl2] at hst
    have heq2 := heq.out
    rw [hst] at heq2
    have hlk2i : (k : Int) < links2.length := by omega
    obtain ⟨i1, d1, t1, s1⟩ := l1
    obtain ⟨i2, d2, t2, s2⟩ := l2
    have c10 := r1 0 (.int .u32 i1) rfl
    have c11 := r1 1 (.int .u32 d1) rfl
    have c12 := r1 2 (.int .i64 t1) rfl
    have c13 := r1 3 (.int .i64 s1) rfl
    have c20 := r2 0 (.int .u32 i2) rfl
    have c21 := r2 1 (.int .u32 d2) rfl
    have c22 := r2 2 (.int .i64 t2) rfl
    have c23 := r2 3 (.int .i64 s2) rfl
    rw [Nat.add_zero] at c10 c20
    have hst' := Hi heq2
    clear hst heq heq2 hl1 hl2 r1 r2 hr1 hr2 b3 b4
    rcases q09 i1 d1 i2 d2 t1 s1 t2 s2 with ⟨rfl, rfl, rfl, rfl⟩ | hn | ⟨rfl, hn⟩ | ⟨rfl, rfl, hn⟩ | ⟨rfl, rfl, rfl, hn⟩
    ·have hz1 : Hid ((e06 (links1.drop (k + 1)) (links2.drop (k + 1)) && e0j routers1 routers2) = z) := Hi (by rw [← hst'.out]; simp [i0k])
     clear hst'
     go_wp2_with fail
     go_quiet (fail)
     go_wp2_with fail
     exact ⟨⟨k + 1, by omega, by go_num, hz1, by obtain ⟨m, rfl⟩ := hm.out; exact Hi ⟨m + nq, by rw [World.drewN_drewN]⟩⟩, by simp [intOf]; omega⟩
    ·have hz1 : Hid (z = false) := Hi (by rw [← hst'.out]; simp [i0k, hn])
     clear hst'
     have hni : ¬ ((i1 : Nat) : Int) = (i2 : Nat) := by omega
     clear hn
     go_wp2_with fail
     go_quiet (fail)
     go_wp2_with fail
     go_ret
     exact ⟨by rw [hz1.out]; rfl, by obtain ⟨m, rfl⟩ := hm.out; exact (hkw'.out.drewN m).drewN nq⟩
    ·have hz1 : Hid (z = false) := Hi (by rw [← hst'.out]; simp [i0k, hn])
     clear hst'
     have hni : ¬ ((d1 : Nat) : Int) = (d2 : Nat) := by omega
     clear hn
     go_wp2_with fail
     go_quiet (fail)
     go_wp2_with fail
     go_ret
     exact ⟨by rw [hz1.out]; rfl, by obtain ⟨m, rfl⟩ := hm.out; exact (hkw'.out.drewN m).drewN nq⟩
    ·have hz1 : Hid (z = false) := Hi (by rw [← hst'.out]; simp [i0k, hn])
     clear hst'
     go_wp2_with fail
     go_quiet (fail)
     go_wp2_with fail
     go_ret
     exact ⟨by rw [hz1.out]; rfl, by obtain ⟨m, rfl⟩ := hm.out; exact (hkw'.out.drewN m).drewN nq⟩
    ·have hz1 : Hid (z = false) := Hi (by rw [← hst'.out]; simp [i0k, hn])
     clear hst'
     go_wp2_with fail
     go_quiet (fail)
     go_wp2_with fail
     go_ret
     exact ⟨by rw [hz1.out]; rfl, by obtain ⟨m, rfl⟩ := hm.out; exact (hkw'.out.drewN m).drewN nq⟩
   ·have hz2 : Hid (e0j routers1 routers2 = z) := Hi (by
     rw [← heq.out, List.drop_of_length_le (by omega), List.drop_of_length_le (by have := he1'.out; omega)]; rfl)
    clear heq
    go_wp2_with fail
    clear b1 b2 b3 b4
    go_loopw [6] (fun iv wr => ∃ k : Nat, k ≤ routers1.length ∧ iv = .int .i64 k ∧ Hid (e0j (routers1.drop k) (routers2.drop k) = z) ∧ Hid (∃ m, wr = World.drewN ((w.alloc (.cells (La age1 type1 id1 adv1 seq1 (.slice p5 links1.length c5) mask1 (.slice p7 routers1.length c7) cost1) 80)).alloc (.cells (La age2 type1 id1 adv1 seq2 (.slice q5 links2.length d5) mask1 (.slice q7 routers2.length d7) cost1) 80)) m)) (fun iv _ => routers1.length - (intOf iv).toNat)
    case atStart => exact ⟨0, by omega, rfl, Hi hz2.out, hm⟩
    case round =>
     clear hz2 hm hlk
     obtain ⟨k, hk, rfl, heq, hm⟩ := hrel
     have b3 : wr.cell? ⟨w.heap.size, 7, none⟩ = some (.slice p7 routers1.length c7) := by obtain ⟨m, rfl⟩ := hm.out; exact (hA.out.next ((a02.refl _ _).drewN m)).cell 7 _ rfl
     have b4 : wr.cell? ⟨w.heap.size + 1, 7, none⟩ = some (.slice q7 routers2.length d7) := by obtain ⟨m, rfl⟩ := hm.out; exact (hB.out.next ((a02.refl _ _).drewN m)).cell 7 _ rfl
     by_cases hlk : k < routers1.length
     ·have hlk2 : k < routers2.length := by have := he2'.out; omega
      obtain ⟨g, o, rfl, hr1⟩ := hR1'.out.open (by omega)
      obtain ⟨g2, o2, rfl, hr2⟩ := hR2'.out.open (by omega)
      have c1 : wr.cell? ⟨g, o + k, none⟩ = some (.int .u32 (routers1[k] : Nat)) := by obtain ⟨m, rfl⟩ := hm.out; exact hr1 k _ (by simp [hlk, nv])
      have c2 : wr.cell? ⟨g2, o2 + k, none⟩ = some (.int .u32 (routers2[k] : Nat)) := by obtain ⟨m, rfl⟩ := hm.out; exact hr2 k _ (by simp [hlk2, nv])
      have hst := n03 hlk hlk2
      rw [heq.out] at hst
      have hlk2i : (k : Int) < routers2.length := by omega
      by_cases he : routers1[k] = routers2[k]
      ·have hb0 : ((routers1[k] : Int) != (routers2[k] : Int)) = false := by rw [he]; simp
       have hz1 : Hid (e0j (routers1.drop (k + 1)) (routers2.drop (k + 1)) = z) := Hi (by rw [hst]; simp [he])
       clear he hst heq hr1 hr2
       go_wp2_with fail
       go_quiet (fail)
       go_wp2_with fail
       exact ⟨⟨k + 1, by omega, by go_num, hz1, by obtain ⟨m, rfl⟩ := hm.out; exact Hi ⟨m + nq, by rw [World.drewN_drewN]⟩⟩, by simp [intOf]; omega⟩
      ·have hb0 : ((routers1[k] : Int) != (routers2[k] : Int)) = true := by rw [bne_iff_ne]; omega
       have hz1 : Hid (z = false) := Hi (by rw [hst]; simp [he])
       clear he hst heq hr1 hr2
       go_wp2_with fail
       go_quiet (fail)
       go_wp2_with fail
       go_ret
       exact ⟨by rw [hz1.out]; rfl, by obtain ⟨m, rfl⟩ := hm.out; exact (hkw'.out.drewN m).drewN nq⟩
     ·have hz1 : Hid (z = true) := Hi (by
       rw [← heq.out, List.drop_of_length_le (by omega), List.drop_of_length_le (by have := he2'.out; omega)]; rfl)
      clear heq
      go_wp2_with fail
      go_ret
      exact ⟨by rw [hz1.out]; rfl, by obtain ⟨m, rfl⟩ := hm.out; exact hkw'.out.drewN m⟩
theorem a0n : (Try.prog.info? 80).map (·.size) = some 9 := by kernel_rfl
def sameB (a b : LsaD) : Bool := m0k a b && (decide (a.age = b.age) && decide (a.seq = b.seq))
theorem j0j {a b : Int} {z : Bool} (h : decide (a = b) = z) : (a == b) = z := by rw [← h]; rfl
set_option maxRecDepth 100000 in
set_option maxHeartbeats 4000000 in
theorem m0w (age1 type1 seq1 cost1 age2 type2 seq2 cost2 : Int) (id1 adv1 mask1 id2 adv2 mask2 : Nat) (links1 links2 : List b09) (routers1 routers2 : List Nat) (p5 p7 q5 q7 : Option Addr) (c5 c7 d5 d7 : Nat) (z : Bool) (w : World)
 (hl1 : links1.length ≤ 9223372036854775807) (hl2 : links2.length ≤ 9223372036854775807) (hr1 : routers1.length ≤ 9223372036854775807) (hr2 : routers2.length ≤ 9223372036854775807)
 (hL1 : Hid (b02 w (.slice p5 links1.length c5) links1)) (hL2 : Hid (b02 w (.slice q5 links2.length d5) links2)) (hR1 : Hid (a0u w (.slice p7 routers1.length c7) routers1)) (hR2 : Hid (a0u w (.slice q7 routers2.length d7) routers2))
 (hz : Hid (sameB ⟨age1, type1, id1, adv1, seq1, links1, mask1, routers1, cost1⟩ ⟨age2, type2, id2, adv2, seq2, links2, mask2, routers2, cost2⟩ = z)) :
 Calls Try.prog 35 #[.agg (La age1 type1 id1 adv1 seq1 (.slice p5 links1.length c5) mask1 (.slice p7 routers1.length c7) cost1), .agg (La age2 type2 id2 adv2 seq2 (.slice q5 links2.length d5) mask2 (.slice q7 routers2.length d7) cost2)] w (fun e w' => e = .returned (.bool z) ∧ a02 (fun _ => False) w w') := by
 have hkw : a02 (fun _ => False) w ((w.alloc (.cells (La age1 type1 id1 adv1 seq1 (.slice p5 links1.length c5) mask1 (.slice p7 routers1.length c7) cost1) 80)).alloc (.cells (La age2 type2 id2 adv2 seq2 (.slice q5 links2.length d5) mask2 (.slice q7 routers2.length d7) cost2) 80)) := ((a02.refl _ _).alloc _).alloc _
 have hA := Hi ((f0a w (La' age1 type1 id1 adv1 seq1 (.slice p5 links1.length c5) mask1 (.slice p7 routers1.length c7) cost1) 80).next ((a02.refl _ _).alloc (.cells (La age2 type2 id2 adv2 seq2 (.slice q5 links2.length d5) mask2 (.slice q7 routers2.length d7) cost2) 80)))
 have hB : Hid (b0v (w.heap.size + 1) (La' age2 type2 id2 adv2 seq2 (.slice q5 links2.length d5) mask2 (.slice q7 routers2.length d7) cost2) (w.alloc (.cells (La age1 type1 id1 adv1 seq1 (.slice p5 links1.length c5) mask1 (.slice p7 routers1.length c7) cost1) 80)) ((w.alloc (.cells (La age1 type1 id1 adv1 seq1 (.slice p5 links1.length c5) mask1 (.slice p7 routers1.length c7) cost1) 80)).alloc (.cells (La age2 type2 id2 adv2 seq2 (.slice q5 links2.length d5) mask2 (.slice q7 routers2.length d7) cost2) 80))) := Hi (by
  have := f0a (w.alloc (.cells (La age1 type1 id1 adv1 seq1 (.slice p5 links1.length c5) mask1 (.slice p7 routers1.length c7) cost1) 80)) (La' age2 type2 id2 adv2 seq2 (.slice q5 links2.length d5) mask2 (.slice q7 routers2.length d7) cost2) 80
  simpa using this)
 have hL1' := Hi (hL1.out.keep hkw)
 have hL2' := Hi (hL2.out.keep hkw)
 have hR1' := Hi (hR1.out.keep hkw)
 have hR2' := Hi (hR2.out.keep hkw)
 have hkw' := Hi hkw
 clear hkw hL1 hL2 hR1 hR2
 have hz0 := hz.out
 clear hz
 unfold sameB at hz0
 simp only at hz0
 cases hal0 : m0k ⟨age1, type1, id1, adv1, seq1, links1, mask1, routers1, cost1⟩ ⟨age2, type2, id2, adv2, seq2, links2, mask2, routers2, cost2⟩
 ·rw [hal0] at hz0
  have hal := Hi hal0
  clear hal0
  obtain rfl : false = z := hz0
  go_enter Try.func35, Try.ntmps35
  go_wp2_with ((with_reducible refine a09 5 ?_); refine wpList_load_mid rfl 80 (.tmp 2) rfl w.heap.size 0 rfl _ _ hA.out.r Try.underlying80 rfl a0n ?_)
  go_wp2_with ((with_reducible refine a09 6 ?_); refine wpList_load_mid rfl 80 (.tmp 3) rfl (w.heap.size + 1) 0 rfl _ _ hB.out.r Try.underlying80 rfl a0n ?_)
  refine (e0q age1 type1 seq1 cost1 age2 type2 seq2 cost2 id1 adv1 mask1 id2 adv2 mask2 links1 links2 routers1 routers2 p5 p7 q5 q7 c5 c7 d5 d7 false _ hl1 hl2 hr1 hr2 hL1' hL2' hR1' hR2' hal).mono ?_
  rintro e w2 ⟨rfl, k2⟩
  have kk := Hi (hkw'.out.trans k2)
  have b1 := (hA.out.next k2).cell 0 (.int .i64 age1) rfl
  have b2 := (hB.out.next k2).cell 0 (.int .i64 age2) rfl
  have b3 := (hA.out.next k2).cell 4 (.int .i64 seq1) rfl
  have b4 := (hB.out.next k2).cell 4 (.int .i64 seq2) rfl
  clear k2
  go_wp2_with fail
  go_ret
  exact ⟨rfl, kk.out⟩
 ·rw [hal0] at hz0
  have hal := Hi hal0
  clear hal0
  by_cases h1 : age1 = age2
  ·by_cases h2 : seq1 = seq2
   ·obtain rfl : true = z := by rw [← hz0]; simp [h1, h2]
    have e1 : (age1 == age2) = true := by rw [h1]; simp
    have e2 : (seq1 == seq2) = true := by rw [h2]; simp
    clear hz0 h1 h2
    go_enter Try.func35, Try.ntmps35
    go_wp2_with ((with_reducible refine a09 5 ?_); refine wpList_load_mid rfl 80 (.tmp 2) rfl w.heap.size 0 rfl _ _ hA.out.r Try.underlying80 rfl a0n ?_)
    go_wp2_with ((with_reducible refine a09 6 ?_); refine wpList_load_mid rfl 80 (.tmp 3) rfl (w.heap.size + 1) 0 rfl _ _ hB.out.r Try.underlying80 rfl a0n ?_)
    refine (e0q age1 type1 seq1 cost1 age2 type2 seq2 cost2 id1 adv1 mask1 id2 adv2 mask2 links1 links2 routers1 routers2 p5 p7 q5 q7 c5 c7 d5 d7 true _ hl1 hl2 hr1 hr2 hL1' hL2' hR1' hR2' hal).mono ?_
    rintro e w2 ⟨rfl, k2⟩
    have kk := Hi (hkw'.out.trans k2)
    have b1 := (hA.out.next k2).cell 0 (.int .i64 age1) rfl
    have b2 := (hB.out.next k2).cell 0 (.int .i64 age2) rfl
    have b3 := (hA.out.next k2).cell 4 (.int .i64 seq1) rfl
    have b4 := (hB.out.next k2).cell 4 (.int .i64 seq2) rfl
    clear k2
    go_wp2_with fail
    go_ret
    exact ⟨rfl, kk.out⟩
   ·obtain rfl : false = z := by rw [← hz0]; simp [h2]
    have e1 : (age1 == age2) = true := by rw [h1]; simp
    have e2 : (seq1 == seq2) = false := by rw [beq_eq_false_iff_ne]; exact h2
    clear hz0 h1 h2
    go_enter Try.func35, Try.ntmps35
    go_wp2_with ((with_reducible refine a09 5 ?_); refine wpList_load_mid rfl 80 (.tmp 2) rfl w.heap.size 0 rfl _ _ hA.out.r Try.underlying80 rfl a0n ?_)
    go_wp2_with ((with_reducible refine a09 6 ?_); refine wpList_load_mid rfl 80 (.tmp 3) rfl (w.heap.size + 1) 0 rfl _ _ hB.out.r Try.underlying80 rfl a0n ?_)
    refine (e0q age1 type1 seq1 cost1 age2 type2 seq2 cost2 id1 adv1 mask1 id2 adv2 mask2 links1 links2 routers1 routers2 p5 p7 q5 q7 c5 c7 d5 d7 true _ hl1 hl2 hr1 hr2 hL1' hL2' hR1' hR2' hal).mono ?_
    rintro e w2 ⟨rfl, k2⟩
    have kk := Hi (hkw'.out.trans k2)
    have b1 := (hA.out.next k2).cell 0 (.int .i64 age1) rfl
    have b2 := (hB.out.next k2).cell 0 (.int .i64 age2) rfl
    have b3 := (hA.out.next k2).cell 4 (.int .i64 seq1) rfl
    have b4 := (hB.out.next k2).cell 4 (.int .i64 seq2) rfl
    clear k2
    go_wp2_with fail
    go_ret
    exact ⟨rfl, kk.out⟩
  ·obtain rfl : false = z := by rw [← hz0]; simp [h1]
   have e1 : (age1 == age2) = false := by rw [beq_eq_false_iff_ne]; exact h1
   clear hz0 h1
   go_enter Try.func35, Try.ntmps35
   go_wp2_with ((with_reducible refine a09 5 ?_); refine wpList_load_mid rfl 80 (.tmp 2) rfl w.heap.size 0 rfl _ _ hA.out.r Try.underlying80 rfl a0n ?_)
   go_wp2_with ((with_reducible refine a09 6 ?_); refine wpList_load_mid rfl 80 (.tmp 3) rfl (w.heap.size + 1) 0 rfl _ _ hB.out.r Try.underlying80 rfl a0n ?_)
   refine (e0q age1 type1 seq1 cost1 age2 type2 seq2 cost2 id1 adv1 mask1 id2 adv2 mask2 links1 links2 routers1 routers2 p5 p7 q5 q7 c5 c7 d5 d7 true _ hl1 hl2 hr1 hr2 hL1' hL2' hR1' hR2' hal).mono ?_
   rintro e w2 ⟨rfl, k2⟩
   have kk := Hi (hkw'.out.trans k2)
   have b1 := (hA.out.next k2).cell 0 (.int .i64 age1) rfl
   have b2 := (hB.out.next k2).cell 0 (.int .i64 age2) rfl
   have b3 := (hA.out.next k2).cell 4 (.int .i64 seq1) rfl
   have b4 := (hB.out.next k2).cell 4 (.int .i64 seq2) rfl
   clear k2
   go_wp2_with fail
   go_ret
   exact ⟨rfl, kk.out⟩
theorem f0c {P : Program} {w : World} {o : Oper} {a : Act} {K : Act → World → Prop} {Q : Exit → Act → World → Prop} (s x : Operand) (t : TypeId)
 (ho : o.op = .call { callee := .builtin .append, args := #[s, x], argTypes := #[t, t] })
 (i : TypeInfo) (ht : P.underlying t = some (.slice 22)) (hi : P.info? 22 = some i) (hz : i.zero = some (.int .u32 0)) (hsize : i.size = 1) (hby : i.bytes = 4)
 (w0 : World) (v : Value) (n : Nat) (xs : List Nat) (hn : xs.length = n) (hs : a.eval s = v) (hown : OwnN w0 w v xs) (ad : Addr) (c0 : Nat) (ys : List Nat) (hx : a.eval x = .slice (some ad) ys.length c0) (hl : ∀ j u, (ys.map nv)[j]? = some u → w.cell? (ad.add j) = some u) (hsz : n + ys.length ≤ 1000000000)
 (h : ∀ p c w', OwnN w0 w' (.slice p (n + ys.length) c) (xs ++ ys) → d06 w v p (n + ys.length) c w' → K (a.put o.dst (.slice p (n + ys.length) c)) w') : Oper.wp P o a w K Q := by
 subst hn
 obtain ⟨v', w', hr, h2, h3, h4⟩ := c04 (P := P) w t o.type 22 i (.int .u32 0) 1 4 ht hi hz hsize hby rfl (by decide) v xs.length (xs.map nv) hown.1 ad ys.length c0 (ys.map nv) (by simp) hl (by intro u hu; obtain ⟨n, -, rfl⟩ := List.mem_map.1 hu; rfl) (by unfold maxLen; omega) (by omega)
 obtain ⟨p, c, rfl⟩ := b0e h2
 unfold Oper.wp execOp
 simp only [ho, resolve, invoke, builtin, Sem.run_bind, Sem.run_pure, Result.andThen_ok, List.map_toArray, List.map_cons, List.map_nil, hs, hx, hr]
 refine h p c w' ⟨by rw [List.map_append, List.length_append]; exact h2, fun k e => ?_, Nat.le_trans hown.2.2 h3.size⟩ ⟨(a02.refl _ _).grown h3 (fun k e => .inl e), h4⟩
 rcases h4 k e with e | e
 ·exact hown.2.1 k e
 ·exact Nat.le_trans hown.2.2 e
theorem g0d (n : Nat) : ((n : Int) == 0) = decide (n = 0) := by cases n with
 | zero => rfl
 | succ n => rw [beq_eq_false_iff_ne.2 (by omega), decide_eq_false (by omega)]
set_option maxRecDepth 100000 in
set_option maxHeartbeats 4000000 in
theorem f0u (age type seq cost : Int) (id adv mask : Nat) (links : List b09) (routers : List Nat) (p5 p7 : Option Addr) (c5 c7 : Nat) (z : Bool) (w : World)
 (hl : Hid (b02 w (.slice p5 links.length c5) links)) (hll : links.length ≤ 9223372036854775807) (hrl : routers.length ≤ 9223372036854775807) (hz : Hid (canB ⟨age, type, id, adv, seq, links, mask, routers, cost⟩ = z)) :
 Calls Try.prog 51 #[.agg (La age type id adv seq (.slice p5 links.length c5) mask (.slice p7 routers.length c7) cost)] w (fun e w' => e = .returned (.bool z) ∧ a02 (fun _ => False) w w') := by
 have hkw : Hid (a02 (fun _ => False) w (w.alloc (.cells (La age type id adv seq (.slice p5 links.length c5) mask (.slice p7 routers.length c7) cost) 80))) := Hi ((a02.refl _ _).alloc _)
 have hL := Hi (hl.out.keep hkw.out)
 have hz0 := hz.out
 clear hz hl
 unfold canB at hz0
 simp only at hz0
 rcases (show age < 0 ∨ (¬ age < 0 ∧ age > 3600) ∨ (¬ age < 0 ∧ ¬ age > 3600 ∧ seq < -2147483647) ∨ (¬ age < 0 ∧ ¬ age > 3600 ∧ ¬ seq < -2147483647 ∧ seq > 2147483647) ∨ (¬ age < 0 ∧ ¬ age > 3600 ∧ ¬ seq < -2147483647 ∧ ¬ seq > 2147483647) by omega) with h1 | ⟨h1, h2⟩ | ⟨h1, h2, h3⟩ | ⟨h1, h2, h3, h4⟩ | ⟨h1, h2, h3, h4⟩
 ·obtain rfl : false = z := by
   rw [← hz0, show a0e age 0 3600 = false from by unfold a0e; rw [decide_eq_false_iff_not]; omega]
   simp
  clear hz0
  go_enter Try.func51, Try.ntmps51
  go_wp2_with fail
  go_ret
  exact ⟨rfl, hkw.out⟩
 ·obtain rfl : false = z := by
   rw [← hz0, show a0e age 0 3600 = false from by unfold a0e; rw [decide_eq_false_iff_not]; omega]
   simp
  clear hz0
  go_enter Try.func51, Try.ntmps51
  go_wp2_with fail
  go_ret
  exact ⟨rfl, hkw.out⟩
 ·obtain rfl : false = z := by
   rw [← hz0, show a0e seq (-2147483647) 2147483647 = false from by unfold a0e; rw [decide_eq_false_iff_not]; omega]
   simp
  clear hz0
  go_enter Try.func51, Try.ntmps51
  go_wp2_with fail
  go_ret
  exact ⟨rfl, hkw.out⟩
 ·obtain rfl : false = z := by
   rw [← hz0, show a0e seq (-2147483647) 2147483647 = false from by unfold a0e; rw [decide_eq_false_iff_not]; omega]
   simp
  clear hz0
  go_enter Try.func51, Try.ntmps51
  go_wp2_with fail
  go_ret
  exact ⟨rfl, hkw.out⟩
 ·have hz1 : k0q ⟨age, type, id, adv, seq, links, mask, routers, cost⟩ = z := by
   rw [← hz0, show a0e age 0 3600 = true from by unfold a0e; rw [decide_eq_true_iff]; omega, show a0e seq (-2147483647) 2147483647 = true from by unfold a0e; rw [decide_eq_true_iff]; omega]
   rfl
  clear hz0
  unfold k0q at hz1
  simp only at hz1
  by_cases t1 : type = 1
  ·subst t1
   rw [if_pos rfl] at hz1
   have hz2 := Hi hz1
   clear hz1
   go_enter Try.func51, Try.ntmps51
   go_wp2_with fail
   go_loop [3] (fun iv => ∃ k : Nat, k ≤ links.length ∧ iv = .int .i64 k ∧ Hid ((links.take k).any c0g = false)) (fun iv => links.length - (intOf iv).toNat)
   case atStart => exact ⟨0, by omega, rfl, Hi (by simp)⟩
   case round =>
    obtain ⟨k, hk, rfl, hany⟩ := hrel
    by_cases hlk : k < links.length
    ·obtain ⟨g, o, rfl, hr⟩ := hL.out.open (by omega)
     obtain ⟨l, hl1⟩ : ∃ l, links[k] = l := ⟨_, rfl⟩
     have r1 := hr k l (by rw [List.getElem?_eq_getElem hlk, hl1])
     have htk : Hid ((links.take (k + 1)).any c0g = c0g l) := Hi (by
      rw [List.take_succ_eq_append_getElem hlk, List.any_append, hany.out, hl1]; simp)
     have hin : Hid (c0g l = true → links.any c0g = true) := Hi (fun h => List.any_eq_true.2 ⟨links[k], List.getElem_mem _, by rw [hl1]; exact h⟩)
     obtain ⟨i1, d1, t1, s1⟩ := l
     have c2 := r1 2 (.int .i64 t1) rfl
     have c3 := r1 3 (.int .i64 s1) rfl
     clear hr r1 hl1 hany
     rcases (show t1 < 1 ∨ (¬ t1 < 1 ∧ t1 > 4) ∨ (¬ t1 < 1 ∧ ¬ t1 > 4 ∧ s1 < 0) ∨ (¬ t1 < 1 ∧ ¬ t1 > 4 ∧ ¬ s1 < 0 ∧ s1 > 65535) ∨ (¬ t1 < 1 ∧ ¬ t1 > 4 ∧ ¬ s1 < 0 ∧ ¬ s1 > 65535) by omega) with g1 | ⟨g1, g2⟩ | ⟨g1, g2, g3⟩ | ⟨g1, g2, g3, g4⟩ | ⟨g1, g2, g3, g4⟩
     ·have hw : Hid (c0g ⟨i1, d1, t1, s1⟩ = true) := Hi (by
       unfold c0g
       simp only
       rw [show a0e t1 1 4 = false from by unfold a0e; rw [decide_eq_false_iff_not]; omega]; simp)
      have hzf : Hid (false = z) := Hi (by rw [← hz2.out, hin.out hw.out]; simp)
      clear hin htk hw
      go_wp2_with fail
      go_ret
      exact ⟨by rw [← hzf.out]; rfl, hkw.out⟩
     ·have hw : Hid (c0g ⟨i1, d1, t1, s1⟩ = true) := Hi (by
       unfold c0g
       simp only
       rw [show a0e t1 1 4 = false from by unfold a0e; rw [decide_eq_false_iff_not]; omega]; simp)
      have hzf : Hid (false = z) := Hi (by rw [← hz2.out, hin.out hw.out]; simp)
      clear hin htk hw
      go_wp2_with fail
      go_ret
      exact ⟨by rw [← hzf.out]; rfl, hkw.out⟩
     ·have hw : Hid (c0g ⟨i1, d1, t1, s1⟩ = true) := Hi (by
       unfold c0g
       simp only
       rw [show a0e s1 0 65535 = false from by unfold a0e; rw [decide_eq_false_iff_not]; omega]; simp)
      have hzf : Hid (false = z) := Hi (by rw [← hz2.out, hin.out hw.out]; simp)
      clear hin htk hw
      go_wp2_with fail
      go_ret
      exact ⟨by rw [← hzf.out]; rfl, hkw.out⟩
     ·have hw : Hid (c0g ⟨i1, d1, t1, s1⟩ = true) := Hi (by
       unfold c0g
       simp only
       rw [show a0e s1 0 65535 = false from by unfold a0e; rw [decide_eq_false_iff_not]; omega]; simp)
      have hzf : Hid (false = z) := Hi (by rw [← hz2.out, hin.out hw.out]; simp)
      clear hin htk hw
      go_wp2_with fail
      go_ret
      exact ⟨by rw [← hzf.out]; rfl, hkw.out⟩
     ·have hw : Hid ((links.take (k + 1)).any c0g = false) := Hi (by
       rw [htk.out]
       unfold c0g
       simp only
       rw [show a0e t1 1 4 = true from by unfold a0e; rw [decide_eq_true_iff]; omega, show a0e s1 0 65535 = true from by unfold a0e; rw [decide_eq_true_iff]; omega]; rfl)
      clear hin htk
      go_wp2_with fail
      exact ⟨⟨k + 1, by omega, by go_num, hw⟩, by simp [intOf]; omega⟩
    ·have hz3 : (decide (links.length ≤ 40) && (decide (mask = 0) && (decide (routers.length = 0) && decide (cost = 0)))) = z := by
      have h := hany.out
      rw [List.take_of_length_le (by omega)] at h
      rw [← hz2.out, h]; simp
     clear hany hz2
     obtain ⟨x1, k1⟩ : ∃ x, decide (links.length ≤ 40) = x := ⟨_, rfl⟩
     obtain ⟨x2, k2⟩ : ∃ x, decide (mask = 0) = x := ⟨_, rfl⟩
     obtain ⟨x3, k3⟩ : ∃ x, decide (routers.length = 0) = x := ⟨_, rfl⟩
     obtain ⟨x4, k4⟩ : ∃ x, decide (cost = 0) = x := ⟨_, rfl⟩
     rw [k1, k2, k3, k4] at hz3
     have b1 : decide ((links.length : Int) ≤ 40) = x1 := by rw [← k1, decide_eq_decide]; omega
     have b2 : ((mask : Int) == 0) = x2 := by rw [← k2]; exact g0d mask
     have b3 : ((routers.length : Int) == 0) = x3 := by rw [← k3]; exact g0d _
     have b4 : (cost == 0) = x4 := k4
     cases x1 <;> cases x2 <;> cases x3 <;> cases x4
     all_goals
      obtain rfl := hz3
      simp only [decide_eq_true_eq, decide_eq_false_iff_not] at k1 b1
      clear k2 k3 k4 b1
      go_wp2_with fail
      go_ret
      exact ⟨rfl, hkw.out⟩
  ·rw [if_neg t1] at hz1
   by_cases t2 : type = 2
   ·subst t2
    rw [if_pos rfl] at hz1
    obtain ⟨x1, k1⟩ : ∃ x, decide (links.length = 0) = x := ⟨_, rfl⟩
    obtain ⟨x4, k4⟩ : ∃ x, decide (cost = 0) = x := ⟨_, rfl⟩
    rw [k1, k4] at hz1
    have b1 : ((links.length : Int) == 0) = x1 := by rw [← k1]; exact g0d _
    have b4 : (cost == 0) = x4 := k4
    clear k1 k4
    rcases (show routers.length < 1 ∨ (¬ routers.length < 1 ∧ ¬ routers.length ≤ 40) ∨ (¬ routers.length < 1 ∧ routers.length ≤ 40) by omega) with g | ⟨g, g2⟩ | ⟨g, g2⟩
    ·rw [show a0e routers.length 1 40 = false from by unfold a0e; rw [decide_eq_false_iff_not]; omega] at hz1
     cases x1 <;> cases x4
     all_goals
      obtain rfl := hz1
      go_enter Try.func51, Try.ntmps51
      go_wp2_with fail
      go_ret
      exact ⟨rfl, hkw.out⟩
    ·rw [show a0e routers.length 1 40 = false from by unfold a0e; rw [decide_eq_false_iff_not]; omega] at hz1
     cases x1 <;> cases x4
     all_goals
      obtain rfl := hz1
      go_enter Try.func51, Try.ntmps51
      go_wp2_with fail
      go_ret
      exact ⟨rfl, hkw.out⟩
    ·rw [show a0e routers.length 1 40 = true from by unfold a0e; rw [decide_eq_true_iff]; omega] at hz1
     cases x1 <;> cases x4
     all_goals
      obtain rfl := hz1
      go_enter Try.func51, Try.ntmps51
      go_wp2_with fail
      go_ret
      exact ⟨rfl, hkw.out⟩
   ·rw [if_neg t2] at hz1
    by_cases t3 : type = 3
    ·subst t3
     rw [if_pos rfl] at hz1
     obtain ⟨x1, k1⟩ : ∃ x, decide (links.length = 0) = x := ⟨_, rfl⟩
     obtain ⟨x4, k4⟩ : ∃ x, decide (routers.length = 0) = x := ⟨_, rfl⟩
     rw [k1, k4] at hz1
     have b1 : ((links.length : Int) == 0) = x1 := by rw [← k1]; exact g0d _
     have b4 : ((routers.length : Int) == 0) = x4 := by rw [← k4]; exact g0d _
     clear k1 k4
     rcases (show cost < 0 ∨ (¬ cost < 0 ∧ ¬ cost ≤ 16777215) ∨ (¬ cost < 0 ∧ cost ≤ 16777215) by omega) with g | ⟨g, g2⟩ | ⟨g, g2⟩
     ·rw [show a0e cost 0 16777215 = false from by unfold a0e; rw [decide_eq_false_iff_not]; omega] at hz1
      cases x1 <;> cases x4
      all_goals
       obtain rfl := hz1
       go_enter Try.func51, Try.ntmps51
       go_wp2_with fail
       go_ret
       exact ⟨rfl, hkw.out⟩
     ·rw [show a0e cost 0 16777215 = false from by unfold a0e; rw [decide_eq_false_iff_not]; omega] at hz1
      cases x1 <;> cases x4
      all_goals
       obtain rfl := hz1
       go_enter Try.func51, Try.ntmps51
       go_wp2_with fail
       go_ret
       exact ⟨rfl, hkw.out⟩
     ·rw [show a0e cost 0 16777215 = true from by unfold a0e; rw [decide_eq_true_iff]; omega] at hz1
      cases x1 <;> cases x4
      all_goals
       obtain rfl := hz1
       go_enter Try.func51, Try.ntmps51
       go_wp2_with fail
       go_ret
       exact ⟨rfl, hkw.out⟩
    ·rw [if_neg t3] at hz1
     obtain rfl : false = z := hz1
     go_enter Try.func51, Try.ntmps51
     go_wp2_with fail
     go_ret
     exact ⟨rfl, hkw.out⟩
end Go.Proofs.Ytmggbljkehclpaa
