/- The document's Alike, walked (gen_lu.py writes this). -/
import Derived.Test.YtdaongflpllfhaaLS08
import Derived.Test.YtdaongflpllfhaaLS05
import Derived.Laws.StructEq
set_option linter.unusedVariables false
set_option linter.unusedSimpArgs false
namespace Go.Proofs.Ytdaongflpllfhaa
open Go.RowKit

@[go_sem] theorem guardKeyR (op : BinOp) (x y : Operand) (xs ys : Array Value) (w : World) : (eqGuard op 45 x y (.agg xs) (.agg ys)).run Try.prog w = .ok () w := run_eqGuard_agg w op 45 x y xs ys (by kernel_rfl)
@[go_sem] theorem guardLinkR (op : BinOp) (x y : Operand) (xs ys : Array Value) (w : World) : (eqGuard op 91 x y (.agg xs) (.agg ys)).run Try.prog w = .ok () w := run_eqGuard_agg w op 91 x y xs ys (by kernel_rfl)
theorem keyInfoR : (Try.prog.info? 45).map (·.size) = some 3 := by kernel_rfl
theorem link_four (i1 d1 i2 d2 : Nat) (t1 s1 t2 s2 : Int) : (i1 = i2 ∧ d1 = d2 ∧ t1 = t2 ∧ s1 = s2) ∨ (¬ i1 = i2) ∨ (i1 = i2 ∧ ¬ d1 = d2) ∨ (i1 = i2 ∧ d1 = d2 ∧ ¬ t1 = t2) ∨ (i1 = i2 ∧ d1 = d2 ∧ t1 = t2 ∧ ¬ s1 = s2) := by
  by_cases h1 : i1 = i2 <;> by_cases h2 : d1 = d2 <;> by_cases h3 : t1 = t2 <;> by_cases h4 : s1 = s2 <;> simp [h1, h2, h3, h4]
theorem LinksAt.open {w : World} {p : Option Addr} {c : Nat} {ls : List LinkD} (h : LinksAt w (.slice p ls.length c) ls) (h0 : 0 < ls.length) : ∃ g o, p = some ⟨g, o, none⟩ ∧ ∀ i l, ls[i]? = some l → w.rangeAt g (o + i * 4) (linkVals l) := by
  obtain ⟨p', c', e, -, -, hr⟩ := h
  injection e with e1 e2 e3
  subst e1
  exact hr h0
theorem NumsAt.open {w : World} {p : Option Addr} {c : Nat} {ls : List Nat} (h : NumsAt w (.slice p ls.length c) ls) (h0 : 0 < ls.length) : ∃ g o, p = some ⟨g, o, none⟩ ∧ w.rangeAt g o (ls.map nv) := by
  obtain ⟨p', c', e, -, -, hr⟩ := h
  injection e with e1 e2 e3
  subst e1
  exact hr h0
set_option maxRecDepth 100000 in
set_option maxHeartbeats 4000000 in
theorem r10Alike_any (age1 type1 seq1 cost1 age2 type2 seq2 cost2 : Int) (id1 adv1 mask1 id2 adv2 mask2 : Nat) (links1 links2 : List LinkD) (routers1 routers2 : List Nat) (p5 p7 q5 q7 : Option Addr) (c5 c7 d5 d7 : Nat) (z : Bool) (w : World)
    (hl1 : links1.length ≤ 9223372036854775807) (hl2 : links2.length ≤ 9223372036854775807) (hr1 : routers1.length ≤ 9223372036854775807) (hr2 : routers2.length ≤ 9223372036854775807)
    (hL1 : Hid (LinksAt w (.slice p5 links1.length c5) links1)) (hL2 : Hid (LinksAt w (.slice q5 links2.length d5) links2)) (hR1 : Hid (NumsAt w (.slice p7 routers1.length c7) routers1)) (hR2 : Hid (NumsAt w (.slice q7 routers2.length d7) routers2))
    (hz : Hid (alikeB ⟨age1, type1, id1, adv1, seq1, links1, mask1, routers1, cost1⟩ ⟨age2, type2, id2, adv2, seq2, links2, mask2, routers2, cost2⟩ = z)) :
    Calls Try.prog 62 #[.agg #[.int .i64 age1, .int .i64 type1, .int .u32 id1, .int .u32 adv1, .int .i64 seq1, .slice p5 links1.length c5, .int .u32 mask1, .slice p7 routers1.length c7, .int .i64 cost1], .agg #[.int .i64 age2, .int .i64 type2, .int .u32 id2, .int .u32 adv2, .int .i64 seq2, .slice q5 links2.length d5, .int .u32 mask2, .slice q7 routers2.length d7, .int .i64 cost2]] w (fun e w' => e = .returned (.bool z) ∧ Keeps (fun _ => False) w w') := by
  have hkw : Keeps (fun _ => False) w ((w.alloc (.cells #[.int .i64 age1, .int .i64 type1, .int .u32 id1, .int .u32 adv1, .int .i64 seq1, .slice p5 links1.length c5, .int .u32 mask1, .slice p7 routers1.length c7, .int .i64 cost1] 48)).alloc (.cells #[.int .i64 age2, .int .i64 type2, .int .u32 id2, .int .u32 adv2, .int .i64 seq2, .slice q5 links2.length d5, .int .u32 mask2, .slice q7 routers2.length d7, .int .i64 cost2] 48)) := ((Keeps.refl _ _).alloc _).alloc _
  have hA0 := (boxed_new w [.int .i64 age1, .int .i64 type1, .int .u32 id1, .int .u32 adv1, .int .i64 seq1, .slice p5 links1.length c5, .int .u32 mask1, .slice p7 routers1.length c7, .int .i64 cost1] 48).next ((Keeps.refl _ _).alloc (.cells #[.int .i64 age2, .int .i64 type2, .int .u32 id2, .int .u32 adv2, .int .i64 seq2, .slice q5 links2.length d5, .int .u32 mask2, .slice q7 routers2.length d7, .int .i64 cost2] 48))
  have hB0 : Boxed (w.heap.size + 1) [.int .i64 age2, .int .i64 type2, .int .u32 id2, .int .u32 adv2, .int .i64 seq2, .slice q5 links2.length d5, .int .u32 mask2, .slice q7 routers2.length d7, .int .i64 cost2] (w.alloc (.cells #[.int .i64 age1, .int .i64 type1, .int .u32 id1, .int .u32 adv1, .int .i64 seq1, .slice p5 links1.length c5, .int .u32 mask1, .slice p7 routers1.length c7, .int .i64 cost1] 48)) ((w.alloc (.cells #[.int .i64 age1, .int .i64 type1, .int .u32 id1, .int .u32 adv1, .int .i64 seq1, .slice p5 links1.length c5, .int .u32 mask1, .slice p7 routers1.length c7, .int .i64 cost1] 48)).alloc (.cells #[.int .i64 age2, .int .i64 type2, .int .u32 id2, .int .u32 adv2, .int .i64 seq2, .slice q5 links2.length d5, .int .u32 mask2, .slice q7 routers2.length d7, .int .i64 cost2] 48)) := by
    have := boxed_new (w.alloc (.cells #[.int .i64 age1, .int .i64 type1, .int .u32 id1, .int .u32 adv1, .int .i64 seq1, .slice p5 links1.length c5, .int .u32 mask1, .slice p7 routers1.length c7, .int .i64 cost1] 48)) [.int .i64 age2, .int .i64 type2, .int .u32 id2, .int .u32 adv2, .int .i64 seq2, .slice q5 links2.length d5, .int .u32 mask2, .slice q7 routers2.length d7, .int .i64 cost2] 48
    simpa using this
  have hK1 : Hid (((w.alloc (.cells #[.int .i64 age1, .int .i64 type1, .int .u32 id1, .int .u32 adv1, .int .i64 seq1, .slice p5 links1.length c5, .int .u32 mask1, .slice p7 routers1.length c7, .int .i64 cost1] 48)).alloc (.cells #[.int .i64 age2, .int .i64 type2, .int .u32 id2, .int .u32 adv2, .int .i64 seq2, .slice q5 links2.length d5, .int .u32 mask2, .slice q7 routers2.length d7, .int .i64 cost2] 48)).rangeAt w.heap.size 1 [.int .i64 type1, .int .u32 id1, .int .u32 adv1]) := Lib.hid (by
    have hb := hA0.r
    exact fun j u hu => by rw [Nat.add_comm 1 j]; have := hb (j + 1) u (by rcases j with _ | _ | _ | j <;> simp_all); rwa [Nat.zero_add] at this)
  have hK2 : Hid (((w.alloc (.cells #[.int .i64 age1, .int .i64 type1, .int .u32 id1, .int .u32 adv1, .int .i64 seq1, .slice p5 links1.length c5, .int .u32 mask1, .slice p7 routers1.length c7, .int .i64 cost1] 48)).alloc (.cells #[.int .i64 age2, .int .i64 type2, .int .u32 id2, .int .u32 adv2, .int .i64 seq2, .slice q5 links2.length d5, .int .u32 mask2, .slice q7 routers2.length d7, .int .i64 cost2] 48)).rangeAt (w.heap.size + 1) 1 [.int .i64 type2, .int .u32 id2, .int .u32 adv2]) := Lib.hid (by
    have hb := hB0.r
    exact fun j u hu => by rw [Nat.add_comm 1 j]; have := hb (j + 1) u (by rcases j with _ | _ | _ | j <;> simp_all); rwa [Nat.zero_add] at this)
  have hA := Lib.hid hA0
  have hB := Lib.hid hB0
  clear hA0 hB0
  have hL1' := Lib.hid (hL1.out.keep hkw)
  have hL2' := Lib.hid (hL2.out.keep hkw)
  have hR1' := Lib.hid (hR1.out.keep hkw)
  have hR2' := Lib.hid (hR2.out.keep hkw)
  have hkw' := Lib.hid hkw
  clear hkw hL1 hL2 hR1 hR2
  have hz0 := hz.out
  clear hz
  unfold alikeB keyEq at hz0
  simp only at hz0
  rcases alike_cases (type1 = type2) (id1 = id2) (adv1 = adv2) (mask1 = mask2) (cost1 = cost2) (links1.length = links2.length ∧ routers1.length = routers2.length) True with hn | ⟨rfl, hn⟩ | ⟨rfl, rfl, hn⟩ | ⟨rfl, rfl, rfl, hn⟩ | ⟨rfl, rfl, rfl, rfl, hn⟩ | ⟨rfl, rfl, rfl, rfl, rfl, hn⟩ | ⟨rfl, rfl, rfl, rfl, rfl, hn⟩
  · obtain rfl : false = z := by rw [← hz0]; simp [hn]
    clear hz0
    go_enter Try.func62, Try.ntmps62
    go_wp2_with ((with_reducible refine at_slot 8 ?_); refine wpList_load_mid rfl 45 (.tmp 7) rfl w.heap.size 1 rfl _ _ hK1.out Try.underlying45 rfl keyInfoR ?_)
    go_wp2_with ((with_reducible refine at_slot 10 ?_); refine wpList_load_mid rfl 45 (.tmp 9) rfl (w.heap.size + 1) 1 rfl _ _ hK2.out Try.underlying45 rfl keyInfoR ?_)
    go_ret
    exact ⟨rfl, hkw'.out⟩
  · obtain rfl : false = z := by rw [← hz0]; simp [hn]
    clear hz0
    have hni : ¬ ((id1 : Nat) : Int) = (id2 : Nat) := by omega
    clear hn
    go_enter Try.func62, Try.ntmps62
    go_wp2_with ((with_reducible refine at_slot 8 ?_); refine wpList_load_mid rfl 45 (.tmp 7) rfl w.heap.size 1 rfl _ _ hK1.out Try.underlying45 rfl keyInfoR ?_)
    go_wp2_with ((with_reducible refine at_slot 10 ?_); refine wpList_load_mid rfl 45 (.tmp 9) rfl (w.heap.size + 1) 1 rfl _ _ hK2.out Try.underlying45 rfl keyInfoR ?_)
    go_ret
    exact ⟨rfl, hkw'.out⟩
  · obtain rfl : false = z := by rw [← hz0]; simp [hn]
    clear hz0
    have hni : ¬ ((adv1 : Nat) : Int) = (adv2 : Nat) := by omega
    clear hn
    go_enter Try.func62, Try.ntmps62
    go_wp2_with ((with_reducible refine at_slot 8 ?_); refine wpList_load_mid rfl 45 (.tmp 7) rfl w.heap.size 1 rfl _ _ hK1.out Try.underlying45 rfl keyInfoR ?_)
    go_wp2_with ((with_reducible refine at_slot 10 ?_); refine wpList_load_mid rfl 45 (.tmp 9) rfl (w.heap.size + 1) 1 rfl _ _ hK2.out Try.underlying45 rfl keyInfoR ?_)
    go_ret
    exact ⟨rfl, hkw'.out⟩
  · obtain rfl : false = z := by rw [← hz0]; simp [hn]
    clear hz0
    have hni : ¬ ((mask1 : Nat) : Int) = (mask2 : Nat) := by omega
    clear hn
    go_enter Try.func62, Try.ntmps62
    go_wp2_with ((with_reducible refine at_slot 8 ?_); refine wpList_load_mid rfl 45 (.tmp 7) rfl w.heap.size 1 rfl _ _ hK1.out Try.underlying45 rfl keyInfoR ?_)
    go_wp2_with ((with_reducible refine at_slot 10 ?_); refine wpList_load_mid rfl 45 (.tmp 9) rfl (w.heap.size + 1) 1 rfl _ _ hK2.out Try.underlying45 rfl keyInfoR ?_)
    go_ret
    exact ⟨rfl, hkw'.out⟩
  · obtain rfl : false = z := by rw [← hz0]; simp [hn]
    clear hz0
    go_enter Try.func62, Try.ntmps62
    go_wp2_with ((with_reducible refine at_slot 8 ?_); refine wpList_load_mid rfl 45 (.tmp 7) rfl w.heap.size 1 rfl _ _ hK1.out Try.underlying45 rfl keyInfoR ?_)
    go_wp2_with ((with_reducible refine at_slot 10 ?_); refine wpList_load_mid rfl 45 (.tmp 9) rfl (w.heap.size + 1) 1 rfl _ _ hK2.out Try.underlying45 rfl keyInfoR ?_)
    go_ret
    exact ⟨rfl, hkw'.out⟩
  · obtain rfl : false = z := by
      rw [← hz0]
      by_cases e : links1.length = links2.length
      · rw [numsEq_len (fun e2 => hn ⟨e, e2⟩)]; simp
      · rw [linksEq_len e]; simp
    clear hz0
    by_cases e : links1.length = links2.length
    · have hni : ¬ ((routers1.length : Nat) : Int) = (routers2.length : Nat) := by have : ¬ routers1.length = routers2.length := fun e2 => hn ⟨e, e2⟩; omega
      have e' : ((links1.length : Nat) : Int) = (links2.length : Nat) := by omega
      clear hn e
      go_enter Try.func62, Try.ntmps62
      go_wp2_with ((with_reducible refine at_slot 8 ?_); refine wpList_load_mid rfl 45 (.tmp 7) rfl w.heap.size 1 rfl _ _ hK1.out Try.underlying45 rfl keyInfoR ?_)
      go_wp2_with ((with_reducible refine at_slot 10 ?_); refine wpList_load_mid rfl 45 (.tmp 9) rfl (w.heap.size + 1) 1 rfl _ _ hK2.out Try.underlying45 rfl keyInfoR ?_)
      go_ret
      exact ⟨rfl, hkw'.out⟩
    · have hni : ¬ ((links1.length : Nat) : Int) = (links2.length : Nat) := by omega
      clear hn e
      go_enter Try.func62, Try.ntmps62
      go_wp2_with ((with_reducible refine at_slot 8 ?_); refine wpList_load_mid rfl 45 (.tmp 7) rfl w.heap.size 1 rfl _ _ hK1.out Try.underlying45 rfl keyInfoR ?_)
      go_wp2_with ((with_reducible refine at_slot 10 ?_); refine wpList_load_mid rfl 45 (.tmp 9) rfl (w.heap.size + 1) 1 rfl _ _ hK2.out Try.underlying45 rfl keyInfoR ?_)
      go_ret
      exact ⟨rfl, hkw'.out⟩
  · obtain ⟨he1, he2⟩ := hn
    have e1 : ((links1.length : Nat) : Int) = (links2.length : Nat) := by omega
    have e2 : ((routers1.length : Nat) : Int) = (routers2.length : Nat) := by omega
    have he1' := Lib.hid he1
    have he2' := Lib.hid he2
    clear he1 he2
    have hz1 : Hid ((linksEq links1 links2 && numsEq routers1 routers2) = z) := Lib.hid (by rw [← hz0]; simp)
    clear hz0
    go_enter Try.func62, Try.ntmps62
    go_wp2_with ((with_reducible refine at_slot 8 ?_); refine wpList_load_mid rfl 45 (.tmp 7) rfl w.heap.size 1 rfl _ _ hK1.out Try.underlying45 rfl keyInfoR ?_)
    go_wp2_with ((with_reducible refine at_slot 10 ?_); refine wpList_load_mid rfl 45 (.tmp 9) rfl (w.heap.size + 1) 1 rfl _ _ hK2.out Try.underlying45 rfl keyInfoR ?_)
    clear e1 e2
    go_loopw [5] (fun iv wr => ∃ k : Nat, k ≤ links1.length ∧ iv = .int .i64 k ∧ Hid ((linksEq (links1.drop k) (links2.drop k) && numsEq routers1 routers2) = z) ∧ Hid (∃ m, wr = World.drewN ((w.alloc (.cells #[.int .i64 age1, .int .i64 type1, .int .u32 id1, .int .u32 adv1, .int .i64 seq1, .slice p5 links1.length c5, .int .u32 mask1, .slice p7 routers1.length c7, .int .i64 cost1] 48)).alloc (.cells #[.int .i64 age2, .int .i64 type1, .int .u32 id1, .int .u32 adv1, .int .i64 seq2, .slice q5 links2.length d5, .int .u32 mask1, .slice q7 routers2.length d7, .int .i64 cost1] 48)) m)) (fun iv _ => links1.length - (intOf iv).toNat)
    case atStart => exact ⟨0, by omega, rfl, Lib.hid hz1.out, Lib.hid ⟨0, rfl⟩⟩
    case round =>
      obtain ⟨k, hk, rfl, heq, hm⟩ := hrel
      clear hz1
      have b1 : wr.cell? ⟨w.heap.size, 5, none⟩ = some (.slice p5 links1.length c5) := by obtain ⟨m, rfl⟩ := hm.out; exact (hA.out.next ((Keeps.refl _ _).drewN m)).cell 5 _ rfl
      have b2 : wr.cell? ⟨w.heap.size + 1, 5, none⟩ = some (.slice q5 links2.length d5) := by obtain ⟨m, rfl⟩ := hm.out; exact (hB.out.next ((Keeps.refl _ _).drewN m)).cell 5 _ rfl
      have b3 : wr.cell? ⟨w.heap.size, 7, none⟩ = some (.slice p7 routers1.length c7) := by obtain ⟨m, rfl⟩ := hm.out; exact (hA.out.next ((Keeps.refl _ _).drewN m)).cell 7 _ rfl
      have b4 : wr.cell? ⟨w.heap.size + 1, 7, none⟩ = some (.slice q7 routers2.length d7) := by obtain ⟨m, rfl⟩ := hm.out; exact (hB.out.next ((Keeps.refl _ _).drewN m)).cell 7 _ rfl
      by_cases hlk : k < links1.length
      · have hlk2 : k < links2.length := by have := he1'.out; omega
        obtain ⟨g, o, rfl, hr1⟩ := hL1'.out.open (by omega)
        obtain ⟨g2, o2, rfl, hr2⟩ := hL2'.out.open (by omega)
        obtain ⟨l1, hl1⟩ : ∃ l, links1[k] = l := ⟨_, rfl⟩
        obtain ⟨l2, hl2⟩ : ∃ l, links2[k] = l := ⟨_, rfl⟩
        have r1 : wr.rangeAt g (o + k * 4) (linkVals l1) := by obtain ⟨m, rfl⟩ := hm.out; exact hr1 k l1 (by rw [List.getElem?_eq_getElem hlk, hl1])
        have r2 : wr.rangeAt g2 (o2 + k * 4) (linkVals l2) := by obtain ⟨m, rfl⟩ := hm.out; exact hr2 k l2 (by rw [List.getElem?_eq_getElem hlk2, hl2])
        have hst := linksEq_step hlk hlk2
        rw [hl1, hl2] at hst
        have heq2 := heq.out
        rw [hst] at heq2
        have hlk2i : (k : Int) < links2.length := by omega
        obtain ⟨i1, d1, t1, s1⟩ := l1
        obtain ⟨i2, d2, t2, s2⟩ := l2
        have c10 := r1 0 (.int .u32 i1) rfl
        have c11 := r1 1 (.int .u32 d1) rfl
        have c12 := r1 2 (.int .i64 t1) rfl
        have c13 := r1 3 (.int .i64 s1) rfl
        have c20 := r2 0 (.int .u32 i2) rfl
        have c21 := r2 1 (.int .u32 d2) rfl
        have c22 := r2 2 (.int .i64 t2) rfl
        have c23 := r2 3 (.int .i64 s2) rfl
        rw [Nat.add_zero] at c10 c20
        have hst' := Lib.hid heq2
        clear hst heq heq2 hl1 hl2 r1 r2 hr1 hr2 b3 b4
        rcases link_four i1 d1 i2 d2 t1 s1 t2 s2 with ⟨rfl, rfl, rfl, rfl⟩ | hn | ⟨rfl, hn⟩ | ⟨rfl, rfl, hn⟩ | ⟨rfl, rfl, rfl, hn⟩
        · have hz1 : Hid ((linksEq (links1.drop (k + 1)) (links2.drop (k + 1)) && numsEq routers1 routers2) = z) := Lib.hid (by rw [← hst'.out]; simp [linkEq])
          clear hst'
          go_wp2_with fail
          go_quiet (fail)
          go_wp2_with fail
          exact ⟨⟨k + 1, by omega, by go_num, hz1, by obtain ⟨m, rfl⟩ := hm.out; exact Lib.hid ⟨m + nq, by rw [World.drewN_drewN]⟩⟩, by simp [intOf]; omega⟩
        · have hz1 : Hid (z = false) := Lib.hid (by rw [← hst'.out]; simp [linkEq, hn])
          clear hst'
          have hni : ¬ ((i1 : Nat) : Int) = (i2 : Nat) := by omega
          clear hn
          go_wp2_with fail
          go_quiet (fail)
          go_wp2_with fail
          go_ret
          exact ⟨by rw [hz1.out]; rfl, by obtain ⟨m, rfl⟩ := hm.out; exact (hkw'.out.drewN m).drewN nq⟩
        · have hz1 : Hid (z = false) := Lib.hid (by rw [← hst'.out]; simp [linkEq, hn])
          clear hst'
          have hni : ¬ ((d1 : Nat) : Int) = (d2 : Nat) := by omega
          clear hn
          go_wp2_with fail
          go_quiet (fail)
          go_wp2_with fail
          go_ret
          exact ⟨by rw [hz1.out]; rfl, by obtain ⟨m, rfl⟩ := hm.out; exact (hkw'.out.drewN m).drewN nq⟩
        · have hz1 : Hid (z = false) := Lib.hid (by rw [← hst'.out]; simp [linkEq, hn])
          clear hst'
          go_wp2_with fail
          go_quiet (fail)
          go_wp2_with fail
          go_ret
          exact ⟨by rw [hz1.out]; rfl, by obtain ⟨m, rfl⟩ := hm.out; exact (hkw'.out.drewN m).drewN nq⟩
        · have hz1 : Hid (z = false) := Lib.hid (by rw [← hst'.out]; simp [linkEq, hn])
          clear hst'
          go_wp2_with fail
          go_quiet (fail)
          go_wp2_with fail
          go_ret
          exact ⟨by rw [hz1.out]; rfl, by obtain ⟨m, rfl⟩ := hm.out; exact (hkw'.out.drewN m).drewN nq⟩
      · have hz2 : Hid (numsEq routers1 routers2 = z) := Lib.hid (by
          rw [← heq.out, List.drop_of_length_le (by omega), List.drop_of_length_le (by have := he1'.out; omega)]; rfl)
        clear heq
        go_wp2_with fail
        clear b1 b2 b3 b4
        go_loopw [6] (fun iv wr => ∃ k : Nat, k ≤ routers1.length ∧ iv = .int .i64 k ∧ Hid (numsEq (routers1.drop k) (routers2.drop k) = z) ∧ Hid (∃ m, wr = World.drewN ((w.alloc (.cells #[.int .i64 age1, .int .i64 type1, .int .u32 id1, .int .u32 adv1, .int .i64 seq1, .slice p5 links1.length c5, .int .u32 mask1, .slice p7 routers1.length c7, .int .i64 cost1] 48)).alloc (.cells #[.int .i64 age2, .int .i64 type1, .int .u32 id1, .int .u32 adv1, .int .i64 seq2, .slice q5 links2.length d5, .int .u32 mask1, .slice q7 routers2.length d7, .int .i64 cost1] 48)) m)) (fun iv _ => routers1.length - (intOf iv).toNat)
        case atStart => exact ⟨0, by omega, rfl, Lib.hid hz2.out, hm⟩
        case round =>
          clear hz2 hm hlk
          obtain ⟨k, hk, rfl, heq, hm⟩ := hrel
          have b3 : wr.cell? ⟨w.heap.size, 7, none⟩ = some (.slice p7 routers1.length c7) := by obtain ⟨m, rfl⟩ := hm.out; exact (hA.out.next ((Keeps.refl _ _).drewN m)).cell 7 _ rfl
          have b4 : wr.cell? ⟨w.heap.size + 1, 7, none⟩ = some (.slice q7 routers2.length d7) := by obtain ⟨m, rfl⟩ := hm.out; exact (hB.out.next ((Keeps.refl _ _).drewN m)).cell 7 _ rfl
          by_cases hlk : k < routers1.length
          · have hlk2 : k < routers2.length := by have := he2'.out; omega
            obtain ⟨g, o, rfl, hr1⟩ := hR1'.out.open (by omega)
            obtain ⟨g2, o2, rfl, hr2⟩ := hR2'.out.open (by omega)
            have c1 : wr.cell? ⟨g, o + k, none⟩ = some (.int .u32 (routers1[k] : Nat)) := by obtain ⟨m, rfl⟩ := hm.out; exact hr1 k _ (by simp [hlk, nv])
            have c2 : wr.cell? ⟨g2, o2 + k, none⟩ = some (.int .u32 (routers2[k] : Nat)) := by obtain ⟨m, rfl⟩ := hm.out; exact hr2 k _ (by simp [hlk2, nv])
            have hst := numsEq_step hlk hlk2
            rw [heq.out] at hst
            have hlk2i : (k : Int) < routers2.length := by omega
            by_cases he : routers1[k] = routers2[k]
            · have hb0 : ((routers1[k] : Int) != (routers2[k] : Int)) = false := by rw [he]; simp
              have hz1 : Hid (numsEq (routers1.drop (k + 1)) (routers2.drop (k + 1)) = z) := Lib.hid (by rw [hst]; simp [he])
              clear he hst heq hr1 hr2
              go_wp2_with fail
              go_quiet (fail)
              go_wp2_with fail
              exact ⟨⟨k + 1, by omega, by go_num, hz1, by obtain ⟨m, rfl⟩ := hm.out; exact Lib.hid ⟨m + nq, by rw [World.drewN_drewN]⟩⟩, by simp [intOf]; omega⟩
            · have hb0 : ((routers1[k] : Int) != (routers2[k] : Int)) = true := by rw [bne_iff_ne]; omega
              have hz1 : Hid (z = false) := Lib.hid (by rw [hst]; simp [he])
              clear he hst heq hr1 hr2
              go_wp2_with fail
              go_quiet (fail)
              go_wp2_with fail
              go_ret
              exact ⟨by rw [hz1.out]; rfl, by obtain ⟨m, rfl⟩ := hm.out; exact (hkw'.out.drewN m).drewN nq⟩
          · have hz1 : Hid (z = true) := Lib.hid (by
              rw [← heq.out, List.drop_of_length_le (by omega), List.drop_of_length_le (by have := he2'.out; omega)]; rfl)
            clear heq
            go_wp2_with fail
            go_ret
            exact ⟨by rw [hz1.out]; rfl, by obtain ⟨m, rfl⟩ := hm.out; exact hkw'.out.drewN m⟩
end Go.Proofs.Ytdaongflpllfhaa
/- The document's Same, walked (gen_lv.py writes this); the append of numbers. -/
namespace Go.Proofs.Ytdaongflpllfhaa
open Go.RowKit

theorem lsaInfoR : (Try.prog.info? 48).map (·.size) = some 9 := by kernel_rfl
def sameB (a b : LsaD) : Bool := alikeB a b && (decide (a.age = b.age) && decide (a.seq = b.seq))
theorem int_beq {a b : Int} {z : Bool} (h : decide (a = b) = z) : (a == b) = z := by rw [← h]; rfl
set_option maxRecDepth 100000 in
set_option maxHeartbeats 4000000 in
theorem r10Same_any (age1 type1 seq1 cost1 age2 type2 seq2 cost2 : Int) (id1 adv1 mask1 id2 adv2 mask2 : Nat) (links1 links2 : List LinkD) (routers1 routers2 : List Nat) (p5 p7 q5 q7 : Option Addr) (c5 c7 d5 d7 : Nat) (z : Bool) (w : World)
    (hl1 : links1.length ≤ 9223372036854775807) (hl2 : links2.length ≤ 9223372036854775807) (hr1 : routers1.length ≤ 9223372036854775807) (hr2 : routers2.length ≤ 9223372036854775807)
    (hL1 : Hid (LinksAt w (.slice p5 links1.length c5) links1)) (hL2 : Hid (LinksAt w (.slice q5 links2.length d5) links2)) (hR1 : Hid (NumsAt w (.slice p7 routers1.length c7) routers1)) (hR2 : Hid (NumsAt w (.slice q7 routers2.length d7) routers2))
    (hz : Hid (sameB ⟨age1, type1, id1, adv1, seq1, links1, mask1, routers1, cost1⟩ ⟨age2, type2, id2, adv2, seq2, links2, mask2, routers2, cost2⟩ = z)) :
    Calls Try.prog 37 #[.agg #[.int .i64 age1, .int .i64 type1, .int .u32 id1, .int .u32 adv1, .int .i64 seq1, .slice p5 links1.length c5, .int .u32 mask1, .slice p7 routers1.length c7, .int .i64 cost1], .agg #[.int .i64 age2, .int .i64 type2, .int .u32 id2, .int .u32 adv2, .int .i64 seq2, .slice q5 links2.length d5, .int .u32 mask2, .slice q7 routers2.length d7, .int .i64 cost2]] w (fun e w' => e = .returned (.bool z) ∧ Keeps (fun _ => False) w w') := by
  have hkw : Keeps (fun _ => False) w ((w.alloc (.cells #[.int .i64 age1, .int .i64 type1, .int .u32 id1, .int .u32 adv1, .int .i64 seq1, .slice p5 links1.length c5, .int .u32 mask1, .slice p7 routers1.length c7, .int .i64 cost1] 48)).alloc (.cells #[.int .i64 age2, .int .i64 type2, .int .u32 id2, .int .u32 adv2, .int .i64 seq2, .slice q5 links2.length d5, .int .u32 mask2, .slice q7 routers2.length d7, .int .i64 cost2] 48)) := ((Keeps.refl _ _).alloc _).alloc _
  have hA := Lib.hid ((boxed_new w [.int .i64 age1, .int .i64 type1, .int .u32 id1, .int .u32 adv1, .int .i64 seq1, .slice p5 links1.length c5, .int .u32 mask1, .slice p7 routers1.length c7, .int .i64 cost1] 48).next ((Keeps.refl _ _).alloc (.cells #[.int .i64 age2, .int .i64 type2, .int .u32 id2, .int .u32 adv2, .int .i64 seq2, .slice q5 links2.length d5, .int .u32 mask2, .slice q7 routers2.length d7, .int .i64 cost2] 48)))
  have hB : Hid (Boxed (w.heap.size + 1) [.int .i64 age2, .int .i64 type2, .int .u32 id2, .int .u32 adv2, .int .i64 seq2, .slice q5 links2.length d5, .int .u32 mask2, .slice q7 routers2.length d7, .int .i64 cost2] (w.alloc (.cells #[.int .i64 age1, .int .i64 type1, .int .u32 id1, .int .u32 adv1, .int .i64 seq1, .slice p5 links1.length c5, .int .u32 mask1, .slice p7 routers1.length c7, .int .i64 cost1] 48)) ((w.alloc (.cells #[.int .i64 age1, .int .i64 type1, .int .u32 id1, .int .u32 adv1, .int .i64 seq1, .slice p5 links1.length c5, .int .u32 mask1, .slice p7 routers1.length c7, .int .i64 cost1] 48)).alloc (.cells #[.int .i64 age2, .int .i64 type2, .int .u32 id2, .int .u32 adv2, .int .i64 seq2, .slice q5 links2.length d5, .int .u32 mask2, .slice q7 routers2.length d7, .int .i64 cost2] 48))) := Lib.hid (by
    have := boxed_new (w.alloc (.cells #[.int .i64 age1, .int .i64 type1, .int .u32 id1, .int .u32 adv1, .int .i64 seq1, .slice p5 links1.length c5, .int .u32 mask1, .slice p7 routers1.length c7, .int .i64 cost1] 48)) [.int .i64 age2, .int .i64 type2, .int .u32 id2, .int .u32 adv2, .int .i64 seq2, .slice q5 links2.length d5, .int .u32 mask2, .slice q7 routers2.length d7, .int .i64 cost2] 48
    simpa using this)
  have hL1' := Lib.hid (hL1.out.keep hkw)
  have hL2' := Lib.hid (hL2.out.keep hkw)
  have hR1' := Lib.hid (hR1.out.keep hkw)
  have hR2' := Lib.hid (hR2.out.keep hkw)
  have hkw' := Lib.hid hkw
  clear hkw hL1 hL2 hR1 hR2
  have hz0 := hz.out
  clear hz
  unfold sameB at hz0
  simp only at hz0
  cases hal0 : alikeB ⟨age1, type1, id1, adv1, seq1, links1, mask1, routers1, cost1⟩ ⟨age2, type2, id2, adv2, seq2, links2, mask2, routers2, cost2⟩
  · rw [hal0] at hz0
    have hal := Lib.hid hal0
    clear hal0
    obtain rfl : false = z := hz0
    go_enter Try.func37, Try.ntmps37
    go_wp2_with ((with_reducible refine at_slot 5 ?_); refine wpList_load_mid rfl 48 (.tmp 2) rfl w.heap.size 0 rfl _ _ hA.out.r Try.underlying48 rfl lsaInfoR ?_)
    go_wp2_with ((with_reducible refine at_slot 6 ?_); refine wpList_load_mid rfl 48 (.tmp 3) rfl (w.heap.size + 1) 0 rfl _ _ hB.out.r Try.underlying48 rfl lsaInfoR ?_)
    refine (r10Alike_any age1 type1 seq1 cost1 age2 type2 seq2 cost2 id1 adv1 mask1 id2 adv2 mask2 links1 links2 routers1 routers2 p5 p7 q5 q7 c5 c7 d5 d7 false _ hl1 hl2 hr1 hr2 hL1' hL2' hR1' hR2' hal).mono ?_
    rintro e w2 ⟨rfl, k2⟩
    have kk := Lib.hid (hkw'.out.trans k2)
    have b1 := (hA.out.next k2).cell 0 (.int .i64 age1) rfl
    have b2 := (hB.out.next k2).cell 0 (.int .i64 age2) rfl
    have b3 := (hA.out.next k2).cell 4 (.int .i64 seq1) rfl
    have b4 := (hB.out.next k2).cell 4 (.int .i64 seq2) rfl
    clear k2
    go_wp2_with fail
    go_ret
    exact ⟨rfl, kk.out⟩
  · rw [hal0] at hz0
    have hal := Lib.hid hal0
    clear hal0
    by_cases h1 : age1 = age2
    · by_cases h2 : seq1 = seq2
      · obtain rfl : true = z := by rw [← hz0]; simp [h1, h2]
        have e1 : (age1 == age2) = true := by rw [h1]; simp
        have e2 : (seq1 == seq2) = true := by rw [h2]; simp
        clear hz0 h1 h2
        go_enter Try.func37, Try.ntmps37
        go_wp2_with ((with_reducible refine at_slot 5 ?_); refine wpList_load_mid rfl 48 (.tmp 2) rfl w.heap.size 0 rfl _ _ hA.out.r Try.underlying48 rfl lsaInfoR ?_)
        go_wp2_with ((with_reducible refine at_slot 6 ?_); refine wpList_load_mid rfl 48 (.tmp 3) rfl (w.heap.size + 1) 0 rfl _ _ hB.out.r Try.underlying48 rfl lsaInfoR ?_)
        refine (r10Alike_any age1 type1 seq1 cost1 age2 type2 seq2 cost2 id1 adv1 mask1 id2 adv2 mask2 links1 links2 routers1 routers2 p5 p7 q5 q7 c5 c7 d5 d7 true _ hl1 hl2 hr1 hr2 hL1' hL2' hR1' hR2' hal).mono ?_
        rintro e w2 ⟨rfl, k2⟩
        have kk := Lib.hid (hkw'.out.trans k2)
        have b1 := (hA.out.next k2).cell 0 (.int .i64 age1) rfl
        have b2 := (hB.out.next k2).cell 0 (.int .i64 age2) rfl
        have b3 := (hA.out.next k2).cell 4 (.int .i64 seq1) rfl
        have b4 := (hB.out.next k2).cell 4 (.int .i64 seq2) rfl
        clear k2
        go_wp2_with fail
        go_ret
        exact ⟨rfl, kk.out⟩
      · obtain rfl : false = z := by rw [← hz0]; simp [h2]
        have e1 : (age1 == age2) = true := by rw [h1]; simp
        have e2 : (seq1 == seq2) = false := by rw [beq_eq_false_iff_ne]; exact h2
        clear hz0 h1 h2
        go_enter Try.func37, Try.ntmps37
        go_wp2_with ((with_reducible refine at_slot 5 ?_); refine wpList_load_mid rfl 48 (.tmp 2) rfl w.heap.size 0 rfl _ _ hA.out.r Try.underlying48 rfl lsaInfoR ?_)
        go_wp2_with ((with_reducible refine at_slot 6 ?_); refine wpList_load_mid rfl 48 (.tmp 3) rfl (w.heap.size + 1) 0 rfl _ _ hB.out.r Try.underlying48 rfl lsaInfoR ?_)
        refine (r10Alike_any age1 type1 seq1 cost1 age2 type2 seq2 cost2 id1 adv1 mask1 id2 adv2 mask2 links1 links2 routers1 routers2 p5 p7 q5 q7 c5 c7 d5 d7 true _ hl1 hl2 hr1 hr2 hL1' hL2' hR1' hR2' hal).mono ?_
        rintro e w2 ⟨rfl, k2⟩
        have kk := Lib.hid (hkw'.out.trans k2)
        have b1 := (hA.out.next k2).cell 0 (.int .i64 age1) rfl
        have b2 := (hB.out.next k2).cell 0 (.int .i64 age2) rfl
        have b3 := (hA.out.next k2).cell 4 (.int .i64 seq1) rfl
        have b4 := (hB.out.next k2).cell 4 (.int .i64 seq2) rfl
        clear k2
        go_wp2_with fail
        go_ret
        exact ⟨rfl, kk.out⟩
    · obtain rfl : false = z := by rw [← hz0]; simp [h1]
      have e1 : (age1 == age2) = false := by rw [beq_eq_false_iff_ne]; exact h1
      clear hz0 h1
      go_enter Try.func37, Try.ntmps37
      go_wp2_with ((with_reducible refine at_slot 5 ?_); refine wpList_load_mid rfl 48 (.tmp 2) rfl w.heap.size 0 rfl _ _ hA.out.r Try.underlying48 rfl lsaInfoR ?_)
      go_wp2_with ((with_reducible refine at_slot 6 ?_); refine wpList_load_mid rfl 48 (.tmp 3) rfl (w.heap.size + 1) 0 rfl _ _ hB.out.r Try.underlying48 rfl lsaInfoR ?_)
      refine (r10Alike_any age1 type1 seq1 cost1 age2 type2 seq2 cost2 id1 adv1 mask1 id2 adv2 mask2 links1 links2 routers1 routers2 p5 p7 q5 q7 c5 c7 d5 d7 true _ hl1 hl2 hr1 hr2 hL1' hL2' hR1' hR2' hal).mono ?_
      rintro e w2 ⟨rfl, k2⟩
      have kk := Lib.hid (hkw'.out.trans k2)
      have b1 := (hA.out.next k2).cell 0 (.int .i64 age1) rfl
      have b2 := (hB.out.next k2).cell 0 (.int .i64 age2) rfl
      have b3 := (hA.out.next k2).cell 4 (.int .i64 seq1) rfl
      have b4 := (hB.out.next k2).cell 4 (.int .i64 seq2) rfl
      clear k2
      go_wp2_with fail
      go_ret
      exact ⟨rfl, kk.out⟩

theorem wp_append_n {P : Program} {w : World} {o : Oper} {a : Act} {K : Act → World → Prop} {Q : Exit → Act → World → Prop} (s x : Operand) (t : TypeId)
    (ho : o.op = .call { callee := .builtin .append, args := #[s, x], argTypes := #[t, t] })
    (i : TypeInfo) (ht : P.underlying t = some (.slice 23)) (hi : P.info? 23 = some i) (hz : i.zero = some (.int .u32 0)) (hsize : i.size = 1) (hby : i.bytes = 4)
    (w0 : World) (v : Value) (n : Nat) (xs : List Nat) (hn : xs.length = n) (hs : a.eval s = v) (hown : OwnN w0 w v xs) (ad : Addr) (c0 : Nat) (ys : List Nat) (hx : a.eval x = .slice (some ad) ys.length c0) (hl : ∀ j u, (ys.map nv)[j]? = some u → w.cell? (ad.add j) = some u) (hsz : n + ys.length ≤ 1000000000)
    (h : ∀ p c w', OwnN w0 w' (.slice p (n + ys.length) c) (xs ++ ys) → Grown w v p (n + ys.length) c w' → K (a.put o.dst (.slice p (n + ys.length) c)) w') : Oper.wp P o a w K Q := by
  subst hn
  obtain ⟨v', w', hr, h2, h3, h4⟩ := run_append_sep (P := P) w t o.type 23 i (.int .u32 0) 1 4 ht hi hz hsize hby rfl (by decide) v xs.length (xs.map nv) hown.1 ad ys.length c0 (ys.map nv) (by simp) hl (by intro u hu; obtain ⟨n, -, rfl⟩ := List.mem_map.1 hu; rfl) (by unfold maxLen; omega) (by omega)
  obtain ⟨p, c, rfl⟩ := ownsRow_slice h2
  unfold Oper.wp execOp
  simp only [ho, resolve, invoke, builtin, Sem.run_bind, Sem.run_pure, Result.andThen_ok, List.map_toArray, List.map_cons, List.map_nil, hs, hx, hr]
  refine h p c w' ⟨by rw [List.map_append, List.length_append]; exact h2, fun k e => ?_, Nat.le_trans hown.2.2 h3.size⟩ ⟨(Keeps.refl _ _).grown h3 (fun k e => .inl e), h4⟩
  rcases h4 k e with e | e
  · exact hown.2.1 k e
  · exact Nat.le_trans hown.2.2 e
end Go.Proofs.Ytdaongflpllfhaa
/- lsa.Compare, walked: cmp.Compare of ints and of sums, apart. -/
namespace Go.Proofs.Ytdaongflpllfhaa
open Go.RowKit

def cmpI (a b : Int) : Int := if a < b then -1 else if a > b then 1 else 0
def cmpH (age1 age2 : Nat) (seq1 seq2 : Int) (sum1 sum2 : Nat) : Int :=
  if seq1 ≠ seq2 then cmpI seq1 seq2 else if sum1 ≠ sum2 then cmpI sum1 sum2 else if age1 = 3600 ∧ age2 ≠ 3600 then 1 else if age2 = 3600 ∧ age1 ≠ 3600 then -1
  else if max age1 age2 - min age1 age2 > 900 then cmpI age2 age1 else 0
set_option maxHeartbeats 1000000 in
theorem nanInt_any (a : Int) (w : World) : Calls Try.prog 98 #[.int .i64 a] w fun e w' => e = .returned (.bool false) ∧ w = w' := by
  have h : (a != a) = false := by simp
  go_enter Try.func98, Try.ntmps98
  go_wp2_with fail
  go_ret
  exact ⟨rfl, rfl⟩
set_option maxHeartbeats 1000000 in
theorem nanU16_any (a : Nat) (w : World) : Calls Try.prog 111 #[.int .u16 a] w fun e w' => e = .returned (.bool false) ∧ w = w' := by
  have h : ((a : Int) != (a : Int)) = false := by simp
  go_enter Try.func111, Try.ntmps111
  go_wp2_with fail
  go_ret
  exact ⟨rfl, rfl⟩
set_option maxHeartbeats 1000000 in
theorem cmpInt_any (a b : Int) (w : World) : Calls Try.prog 64 #[.int .i64 a, .int .i64 b] w fun e w' => e = .returned (.int .i64 (cmpI a b)) ∧ w = w' := by
  unfold cmpI
  by_cases h1 : a < b
  · rw [if_pos h1]
    go_enter Try.func64, Try.ntmps64
    go_wp2_with fail
    refine (nanInt_any _ _).mono ?_
    rintro e w' ⟨rfl, rfl⟩
    go_wp2_with fail
    refine (nanInt_any _ _).mono ?_
    rintro e w' ⟨rfl, rfl⟩
    go_wp2_with fail
    go_ret
    exact ⟨rfl, rfl⟩
  · rw [if_neg h1]
    by_cases h2 : a > b
    · rw [if_pos h2]
      go_enter Try.func64, Try.ntmps64
      go_wp2_with fail
      refine (nanInt_any _ _).mono ?_
      rintro e w' ⟨rfl, rfl⟩
      go_wp2_with fail
      refine (nanInt_any _ _).mono ?_
      rintro e w' ⟨rfl, rfl⟩
      go_wp2_with fail
      go_ret
      exact ⟨rfl, rfl⟩
    · rw [if_neg h2]
      go_enter Try.func64, Try.ntmps64
      go_wp2_with fail
      refine (nanInt_any _ _).mono ?_
      rintro e w' ⟨rfl, rfl⟩
      go_wp2_with fail
      refine (nanInt_any _ _).mono ?_
      rintro e w' ⟨rfl, rfl⟩
      go_wp2_with fail
      go_ret
      exact ⟨rfl, rfl⟩
set_option maxHeartbeats 1000000 in
theorem cmpU16_any (a b : Nat) (w : World) : Calls Try.prog 89 #[.int .u16 a, .int .u16 b] w fun e w' => e = .returned (.int .i64 (cmpI a b)) ∧ w = w' := by
  unfold cmpI
  by_cases h1 : (a : Int) < b
  · rw [if_pos h1]
    go_enter Try.func89, Try.ntmps89
    go_wp2_with fail
    refine (nanU16_any _ _).mono ?_
    rintro e w' ⟨rfl, rfl⟩
    go_wp2_with fail
    refine (nanU16_any _ _).mono ?_
    rintro e w' ⟨rfl, rfl⟩
    go_wp2_with fail
    go_ret
    exact ⟨rfl, rfl⟩
  · rw [if_neg h1]
    by_cases h2 : (a : Int) > b
    · rw [if_pos h2]
      go_enter Try.func89, Try.ntmps89
      go_wp2_with fail
      refine (nanU16_any _ _).mono ?_
      rintro e w' ⟨rfl, rfl⟩
      go_wp2_with fail
      refine (nanU16_any _ _).mono ?_
      rintro e w' ⟨rfl, rfl⟩
      go_wp2_with fail
      go_ret
      exact ⟨rfl, rfl⟩
    · rw [if_neg h2]
      go_enter Try.func89, Try.ntmps89
      go_wp2_with fail
      refine (nanU16_any _ _).mono ?_
      rintro e w' ⟨rfl, rfl⟩
      go_wp2_with fail
      refine (nanU16_any _ _).mono ?_
      rintro e w' ⟨rfl, rfl⟩
      go_wp2_with fail
      go_ret
      exact ⟨rfl, rfl⟩
set_option maxHeartbeats 1000000 in
theorem lsApart_any (a b : Nat) (ha : a ≤ 3600) (hb : b ≤ 3600) (z : Bool) (w : World) (hz : Hid (decide (max a b - min a b > 900) = z)) : Calls Try.prog 90 #[.int .i64 a, .int .i64 b] w fun e w' => e = .returned (.bool z) ∧ w = w' := by
  go_enter Try.func90, Try.ntmps90
  go_wp2_with fail
  all_goals
    go_ret
    refine ⟨congrArg (fun b => Ending.returned (.bool b)) ?_, rfl⟩
    rw [← hz.out]
    first
      | (rw [decide_eq_decide]; omega)
      | (symm; rw [decide_eq_false_iff_not]; omega)
set_option maxRecDepth 100000 in
set_option maxHeartbeats 2000000 in
theorem lsCompare_any (age1 age2 sum1 sum2 id1 id2 adv1 adv2 : Nat) (type1 type2 seq1 seq2 len1 len2 z : Int) (ha : age1 ≤ 3600) (hb : age2 ≤ 3600) (w : World) (hz : Hid (cmpH age1 age2 seq1 seq2 sum1 sum2 = z)) :
    Calls Try.prog 56 #[.agg #[.int .i64 (age1 : Nat), .int .i64 type1, .int .u32 id1, .int .u32 adv1, .int .i64 seq1, .int .u16 sum1, .int .i64 len1], .agg #[.int .i64 (age2 : Nat), .int .i64 type2, .int .u32 id2, .int .u32 adv2, .int .i64 seq2, .int .u16 sum2, .int .i64 len2]] w fun e w' => e = .returned (.int .i64 z) ∧ Keeps (fun _ => False) w w' := by
  have hkw' : Hid (Keeps (fun _ => False) w ((w.alloc (.cells #[.int .i64 (age1 : Nat), .int .i64 type1, .int .u32 id1, .int .u32 adv1, .int .i64 seq1, .int .u16 sum1, .int .i64 len1] 82)).alloc (.cells #[.int .i64 (age2 : Nat), .int .i64 type2, .int .u32 id2, .int .u32 adv2, .int .i64 seq2, .int .u16 sum2, .int .i64 len2] 82))) := Lib.hid (((Keeps.refl _ _).alloc _).alloc _)
  have hz0 := hz.out
  clear hz
  unfold cmpH at hz0
  by_cases h1 : seq1 = seq2
  · rw [if_neg (by simpa using h1)] at hz0
    have e1 : (seq1 != seq2) = false := by rw [h1]; simp
    clear h1
    by_cases h2 : sum1 = sum2
    · rw [if_neg (by simpa using h2)] at hz0
      have e2 : ((sum1 : Int) != (sum2 : Int)) = false := by rw [h2]; simp
      clear h2
      by_cases h3 : age1 = 3600
      · have e3 : ((age1 : Int) == 3600) = true := by rw [h3]; rfl
        by_cases h4 : age2 = 3600
        · have e4 : ((age2 : Int) == 3600) = true := by rw [h4]; rfl
          rw [if_neg (by omega), if_neg (by omega), if_neg (by omega)] at hz0
          have hap : Hid (decide (max age1 age2 - min age1 age2 > 900) = false) := Lib.hid (by rw [decide_eq_false_iff_not]; omega)
          obtain rfl : 0 = z := hz0
          clear h3 h4
          go_enter Try.func56, Try.ntmps56
          go_wp2_with fail
          go_quiet (fail)
          go_wp2_with fail
          refine (lsApart_any age1 age2 ha hb false _ hap).mono ?_
          rintro e w' ⟨rfl, rfl⟩
          go_wp2_with fail
          go_ret
          exact ⟨rfl, hkw'.out.drewN _⟩
        · have e4 : ((age2 : Int) == 3600) = false := by rw [beq_eq_false_iff_ne]; omega
          rw [if_pos (by omega)] at hz0
          obtain rfl : 1 = z := hz0
          clear h3 h4
          go_enter Try.func56, Try.ntmps56
          go_wp2_with fail
          go_quiet (fail)
          go_wp2_with fail
          go_ret
          exact ⟨rfl, hkw'.out.drewN _⟩
      · have e3 : ((age1 : Int) == 3600) = false := by rw [beq_eq_false_iff_ne]; omega
        rw [if_neg (by omega)] at hz0
        by_cases h4 : age2 = 3600
        · have e4 : ((age2 : Int) == 3600) = true := by rw [h4]; rfl
          rw [if_pos (by omega)] at hz0
          obtain rfl : -1 = z := hz0
          clear h3 h4
          go_enter Try.func56, Try.ntmps56
          go_wp2_with fail
          go_quiet (fail)
          go_wp2_with fail
          go_ret
          exact ⟨rfl, hkw'.out.drewN _⟩
        · have e4 : ((age2 : Int) == 3600) = false := by rw [beq_eq_false_iff_ne]; omega
          rw [if_neg (by omega)] at hz0
          clear h3 h4
          by_cases h5 : max age1 age2 - min age1 age2 > 900
          · rw [if_pos h5] at hz0
            have hap : Hid (decide (max age1 age2 - min age1 age2 > 900) = true) := Lib.hid (by rw [decide_eq_true_iff]; exact h5)
            have hz1 := Lib.hid hz0
            clear h5 hz0
            go_enter Try.func56, Try.ntmps56
            go_wp2_with fail
            go_quiet (fail)
            go_wp2_with fail
            refine (lsApart_any age1 age2 ha hb true _ hap).mono ?_
            rintro e w' ⟨rfl, rfl⟩
            go_wp2_with fail
            refine (cmpInt_any _ _ _).mono ?_
            rintro e w' ⟨rfl, rfl⟩
            go_wp2_with fail
            go_ret
            exact ⟨by rw [← hz1.out]; rfl, hkw'.out.drewN _⟩
          · rw [if_neg h5] at hz0
            have hap : Hid (decide (max age1 age2 - min age1 age2 > 900) = false) := Lib.hid (by rw [decide_eq_false_iff_not]; exact h5)
            obtain rfl : 0 = z := hz0
            clear h5
            go_enter Try.func56, Try.ntmps56
            go_wp2_with fail
            go_quiet (fail)
            go_wp2_with fail
            refine (lsApart_any age1 age2 ha hb false _ hap).mono ?_
            rintro e w' ⟨rfl, rfl⟩
            go_wp2_with fail
            go_ret
            exact ⟨rfl, hkw'.out.drewN _⟩
    · rw [if_pos (by simpa using h2)] at hz0
      have e2 : ((sum1 : Int) != (sum2 : Int)) = true := by rw [bne_iff_ne]; omega
      have hz1 := Lib.hid hz0
      clear h2 hz0
      go_enter Try.func56, Try.ntmps56
      go_wp2_with fail
      go_quiet (fail)
      go_wp2_with fail
      refine (cmpU16_any _ _ _).mono ?_
      rintro e w' ⟨rfl, rfl⟩
      go_wp2_with fail
      go_ret
      exact ⟨by rw [← hz1.out]; rfl, hkw'.out.drewN _⟩
  · rw [if_pos (by simpa using h1)] at hz0
    have e1 : (seq1 != seq2) = true := by rw [bne_iff_ne]; exact h1
    have hz1 := Lib.hid hz0
    clear h1 hz0
    go_enter Try.func56, Try.ntmps56
    go_wp2_with fail
    go_quiet (fail)
    go_wp2_with fail
    refine (cmpInt_any _ _ _).mono ?_
    rintro e w' ⟨rfl, rfl⟩
    go_wp2_with fail
    go_ret
    exact ⟨by rw [← hz1.out]; rfl, hkw'.out.drewN _⟩
end Go.Proofs.Ytdaongflpllfhaa
/- A map by keys of Lsas, in memory: look-ups. -/
namespace Go.Proofs.Ytdaongflpllfhaa
open Go.RowKit

def keyA (t : Int) (i a : Nat) : Value := .agg #[.int .i64 t, .int .u32 i, .int .u32 a]
def hasKey (m : LsaD) (t : Int) (i a : Nat) : Bool := decide (m.type = t) && (decide (m.id = i) && decide (m.adv = a))
theorem equal_key (t t' : Int) (i i' a a' : Nat) (w : World) : (Op.equal 25 (keyA t i a) (keyA t' i' a')).run Try.prog w = .ok (decide (t' = t) && (decide (i' = i) && decide (a' = a))) w := by
  unfold keyA Op.equal
  by_cases h1 : t' = t
  · by_cases h2 : i' = i
    · by_cases h3 : a' = a
      · subst h1; subst h2; subst h3
        simp [go_sem, Op.maxDepth]
      · have h4 : ¬ (a : Int) = (a' : Int) := by omega
        simp [go_sem, Op.maxDepth, h1, h2, h3, h4]
    · have h4 : ¬ (i : Int) = (i' : Int) := by omega
      simp [go_sem, Op.maxDepth, h1, h2, h4]
  · have h4 : ¬ t = t' := fun e => h1 e.symm
    simp [go_sem, Op.maxDepth, h1, h4]
/-- the entries of a map, one for each Lsa -/
def EntriesAt (R : Value → LsaD → Prop) (es : List MapEntry) (L : List LsaD) : Prop :=
  match es, L with
  | [], [] => True
  | e :: es, m :: L => e.key = keyA m.type m.id m.adv ∧ R e.val m ∧ EntriesAt R es L
  | _, _ => False
theorem EntriesAt.len {R : Value → LsaD → Prop} : ∀ {es : List MapEntry} {L : List LsaD}, EntriesAt R es L → es.length = L.length
  | [], [], _ => rfl
  | e :: es, m :: L, h => by rw [List.length_cons, List.length_cons, EntriesAt.len h.2.2]
  | [], _ :: _, h => h.elim
  | _ :: _, [], h => h.elim
def posK (L : List LsaD) (t : Int) (i a : Nat) : Option Nat := match L with
  | [] => none
  | m :: L => if hasKey m t i a then some 0 else (posK L t i a).map (· + 1)
theorem posK_lt {L : List LsaD} {t : Int} {i a j : Nat} (h : posK L t i a = some j) : ∃ m, L[j]? = some m ∧ hasKey m t i a = true := by
  induction L generalizing j with
  | nil => cases h
  | cons m L ih =>
    unfold posK at h
    split at h
    · injection h with h; subst h; exact ⟨m, rfl, by assumption⟩
    · cases hp : posK L t i a with
      | none => rw [hp] at h; cases h
      | some k =>
        rw [hp] at h; injection h with h; subst h
        obtain ⟨m', h1, h2⟩ := ih hp
        exact ⟨m', by simpa using h1, h2⟩
theorem EntriesAt.get {R : Value → LsaD → Prop} : ∀ {es : List MapEntry} {L : List LsaD}, EntriesAt R es L → ∀ {j : Nat} {m : LsaD}, L[j]? = some m → ∃ e, es[j]? = some e ∧ e.key = keyA m.type m.id m.adv ∧ R e.val m
  | [], [], _, j, m, h => by simp at h
  | e :: es, m' :: L, hE, 0, m, h => by injection h with h; subst h; exact ⟨e, rfl, hE.1, hE.2.1⟩
  | e :: es, m' :: L, hE, j + 1, m, h => EntriesAt.get hE.2.2 (by simpa using h)
  | [], _ :: _, h, _, _, _ => h.elim
  | _ :: _, [], h, _, _, _ => h.elim
theorem findAsking_key {R : Value → LsaD → Prop} (t : Int) (i a : Nat) : ∀ (es : List MapEntry) (L : List LsaD), EntriesAt R es L → ∀ (n : Nat) (W : World), (Instr.findAsking 25 (keyA t i a) es n).run Try.prog W = .ok ((posK L t i a).bind fun j => (es[j]?).map fun e => (n + j, e.val)) W
  | [], [], _, n, W => by simp [Instr.findAsking, posK]
  | e :: es, m :: L, hE, n, W => by
    unfold Instr.findAsking posK
    rw [hE.1]
    simp only [Sem.run_bind, equal_key, Result.andThen_ok]
    rw [show (decide (m.type = t) && (decide (m.id = i) && decide (m.adv = a))) = hasKey m t i a from rfl]
    cases hk : hasKey m t i a with
    | true => simp
    | false =>
      simp only [Bool.false_eq_true, if_false]
      rw [findAsking_key t i a es L hE.2.2 (n + 1) W]
      cases posK L t i a with
      | none => rfl
      | some j => simp [Nat.add_comm, Nat.add_left_comm]
  | [], _ :: _, h, _, _ => h.elim
  | _ :: _, [], h, _, _ => h.elim
theorem findKey_key {R : Value → LsaD → Prop} (t : Int) (i a : Nat) (es : List MapEntry) (L : List LsaD) (h : EntriesAt R es L) (W : World) : (Instr.findKey 25 (keyA t i a) es).run Try.prog W = .ok ((posK L t i a).bind fun j => (es[j]?).map fun e => (j, e.val)) W := by
  unfold Instr.findKey
  simp only [Sem.run_bind, run_underlying Try.underlying25, Result.andThen_ok]
  cases es with
  | nil =>
    cases L with
    | nil => simp [Instr.findNow, posK]
    | cons m L => exact h.elim
  | cons e es =>
    unfold keyA
    simp only [Instr.findNow, Instr.sameNow]
    have := findAsking_key t i a (e :: es) L h 0 W
    unfold keyA at this
    simpa using this
theorem checkKey_key (emp : Bool) (t : Int) (i a : Nat) (n : Nat) (W : World) : (Instr.checkKey emp (n + 2) 25 (keyA t i a)).run Try.prog W = .ok () W := by
  unfold keyA
  rw [Instr.checkKey]
  simp only [Sem.run_bind, run_underlying Try.underlying25, Result.andThen_ok]
  have h1 : ∀ (x : Int) (W : World), (Instr.checkKey emp (n + 1) 3 (.int .i64 x)).run Try.prog W = .ok () W := fun x W => by rw [Instr.checkKey]; simp only [Sem.run_bind, run_underlying Try.underlying3, Result.andThen_ok]; rfl
  have h2 : ∀ (x : Int) (W : World), (Instr.checkKey emp (n + 1) 23 (.int .u32 x)).run Try.prog W = .ok () W := fun x W => by rw [Instr.checkKey]; simp only [Sem.run_bind, run_underlying Try.underlying23, Result.andThen_ok]; rfl
  simp [go_sem, h1, h2]
def zeroLsa : Value := .agg #[.int .i64 0, .int .i64 0, .int .u32 0, .int .u32 0, .int .i64 0, .slice none 0 0, .int .u32 0, .slice none 0 0, .int .i64 0]
theorem run_lookup_key {R : Value → LsaD → Prop} {w : World} (r : Nat) (es : Array MapEntry) (clock : Nat) (L : List LsaD) (hr : w.heap[r]? = some (.map es clock)) (h : EntriesAt R es.toList L) (t : Int) (i a : Nat) :
    (Instr.lookup 84 (.map (some r)) (keyA t i a) true).run Try.prog w = .ok (match (posK L t i a).bind fun j => es[j]? with | some e => .tuple #[e.val, .bool true] | none => .tuple #[zeroLsa, .bool false]) w := by
  have hg : (getObj r).run Try.prog w = .ok (.map es clock) w := by simp [getObj, Sem.run, hr]
  unfold Instr.lookup
  simp only [Sem.run_bind, run_underlying Try.underlying84, Result.andThen_ok, hg, Sem.run_pure]
  rw [show (10000 : Nat) = 9998 + 2 from rfl]
  simp only [checkKey_key, Result.andThen_ok, findKey_key t i a _ L h]
  cases hp : posK L t i a with
  | none => simp [go_sem, zeroLsa]
  | some j =>
    obtain ⟨m, hm, -⟩ := posK_lt hp
    obtain ⟨e, he, -⟩ := h.get hm
    have he2 : es[j]? = some e := by simpa using he
    simp [he2]
/-- a map's block, turned -/
def mapPut (w : World) (r : Nat) (o : Obj) : World := { w with heap := w.heap.setIfInBounds r o }
theorem mapPut_keeps (w : World) (r : Nat) (o : Obj) : Keeps (fun k => k = r) w (mapPut w r o) :=
  ⟨rfl, rfl, rfl, by simp [mapPut], fun k hk hn => by simp [mapPut, Array.getElem?_setIfInBounds, Ne.symm hn]⟩
theorem mapPut_at (w : World) (r : Nat) (o : Obj) (h : r < w.heap.size) : (mapPut w r o).heap[r]? = some o := by simp [mapPut, h]
theorem sameBits_key (t : Int) (i a : Nat) : Instr.sameBits 10000 (keyA t i a) (keyA t i a) = true := by
  unfold keyA
  rw [show (10000 : Nat) = 9999 + 1 from rfl, Instr.sameBits]
  simp [Instr.sameBits]
theorem hasKey_key {m : LsaD} {t : Int} {i a : Nat} (h : hasKey m t i a = true) : keyA m.type m.id m.adv = keyA t i a := by
  unfold hasKey at h
  simp only [Bool.and_eq_true, decide_eq_true_eq] at h
  rw [h.1, h.2.1, h.2.2]
theorem run_mapUpdate_there {R : Value → LsaD → Prop} {w : World} (r : Nat) (es : Array MapEntry) (clock : Nat) (L : List LsaD) (hr : w.heap[r]? = some (.map es clock)) (h : EntriesAt R es.toList L) (t : Int) (i a : Nat) (v : Value) (j : Nat) (hj : posK L t i a = some j) :
    (Instr.mapUpdate 84 (.map (some r)) (keyA t i a) v).run Try.prog w = .ok () (mapPut w r (.map (es.modify j fun e => { e with key := keyA t i a, val := v }) clock)) := by
  have hg : (getObj r).run Try.prog w = .ok (.map es clock) w := by simp [getObj, Sem.run, hr]
  have hs : ∀ o, (setObj r o).run Try.prog w = .ok () (mapPut w r o) := fun o => by simp [setObj, Sem.run, hr, mapPut]
  obtain ⟨m, hm, hk⟩ := posK_lt hj
  obtain ⟨e, he, hek, -⟩ := h.get hm
  have he2 : es[j]? = some e := by simpa using he
  unfold Instr.mapUpdate
  simp only [Sem.run_bind, run_underlying Try.underlying84, Result.andThen_ok, hg, Sem.run_pure]
  rw [show (10000 : Nat) = 9998 + 2 from rfl]
  simp only [checkKey_key, Result.andThen_ok, findKey_key t i a _ L h, hj]
  have hst : (Instr.keyThatStays e.key (keyA t i a)).run Try.prog w = .ok (keyA t i a) w := by
    rw [hek, hasKey_key hk]
    unfold Instr.keyThatStays
    rw [sameBits_key]; simp
  simp [he2, hst, hs]
theorem run_mapUpdate_new {R : Value → LsaD → Prop} {w : World} (r : Nat) (es : Array MapEntry) (clock : Nat) (L : List LsaD) (hr : w.heap[r]? = some (.map es clock)) (h : EntriesAt R es.toList L) (t : Int) (i a : Nat) (v : Value) (hj : posK L t i a = none) :
    (Instr.mapUpdate 84 (.map (some r)) (keyA t i a) v).run Try.prog w = .ok () (mapPut w r (.map (es.push { key := keyA t i a, val := v, born := clock }) (clock + 1))) := by
  have hg : (getObj r).run Try.prog w = .ok (.map es clock) w := by simp [getObj, Sem.run, hr]
  have hs : ∀ o, (setObj r o).run Try.prog w = .ok () (mapPut w r o) := fun o => by simp [setObj, Sem.run, hr, mapPut]
  unfold Instr.mapUpdate
  simp only [Sem.run_bind, run_underlying Try.underlying84, Result.andThen_ok, hg, Sem.run_pure]
  rw [show (10000 : Nat) = 9998 + 2 from rfl]
  simp only [checkKey_key, Result.andThen_ok, findKey_key t i a _ L h, hj]
  simp [hs]
end Go.Proofs.Ytdaongflpllfhaa
