/- The document's Same, walked (gen_lv.py writes this); the append of numbers. -/
import Derived.Test.YtiogeepffdpafaaLU
import Derived.Test.YtiogeepffdpafaaLK
namespace Go.Proofs.Ytiogeepffdpafaa
open Go.RowKit

theorem lsaInfoR : (Try.prog.info? 28).map (·.size) = some 9 := by kernel_rfl
def sameB (a b : LsaD) : Bool := alikeB a b && (decide (a.age = b.age) && decide (a.seq = b.seq))
theorem int_beq {a b : Int} {z : Bool} (h : decide (a = b) = z) : (a == b) = z := by rw [← h]; rfl
set_option maxRecDepth 100000 in
set_option maxHeartbeats 4000000 in
theorem r10Same_any (age1 type1 seq1 cost1 age2 type2 seq2 cost2 : Int) (id1 adv1 mask1 id2 adv2 mask2 : Nat) (links1 links2 : List LinkD) (routers1 routers2 : List Nat) (p5 p7 q5 q7 : Option Addr) (c5 c7 d5 d7 : Nat) (z : Bool) (w : World)
    (hl1 : links1.length ≤ 9223372036854775807) (hl2 : links2.length ≤ 9223372036854775807) (hr1 : routers1.length ≤ 9223372036854775807) (hr2 : routers2.length ≤ 9223372036854775807)
    (hL1 : Hid (LinksAt w (.slice p5 links1.length c5) links1)) (hL2 : Hid (LinksAt w (.slice q5 links2.length d5) links2)) (hR1 : Hid (NumsAt w (.slice p7 routers1.length c7) routers1)) (hR2 : Hid (NumsAt w (.slice q7 routers2.length d7) routers2))
    (hz : Hid (sameB ⟨age1, type1, id1, adv1, seq1, links1, mask1, routers1, cost1⟩ ⟨age2, type2, id2, adv2, seq2, links2, mask2, routers2, cost2⟩ = z)) :
    Calls Try.prog 19 #[.agg #[.int .i64 age1, .int .i64 type1, .int .u32 id1, .int .u32 adv1, .int .i64 seq1, .slice p5 links1.length c5, .int .u32 mask1, .slice p7 routers1.length c7, .int .i64 cost1], .agg #[.int .i64 age2, .int .i64 type2, .int .u32 id2, .int .u32 adv2, .int .i64 seq2, .slice q5 links2.length d5, .int .u32 mask2, .slice q7 routers2.length d7, .int .i64 cost2]] w (fun e w' => e = .returned (.bool z) ∧ Keeps (fun _ => False) w w') := by
  have hkw : Keeps (fun _ => False) w ((w.alloc (.cells #[.int .i64 age1, .int .i64 type1, .int .u32 id1, .int .u32 adv1, .int .i64 seq1, .slice p5 links1.length c5, .int .u32 mask1, .slice p7 routers1.length c7, .int .i64 cost1] 28)).alloc (.cells #[.int .i64 age2, .int .i64 type2, .int .u32 id2, .int .u32 adv2, .int .i64 seq2, .slice q5 links2.length d5, .int .u32 mask2, .slice q7 routers2.length d7, .int .i64 cost2] 28)) := ((Keeps.refl _ _).alloc _).alloc _
  have hA := Lib.hid ((boxed_new w [.int .i64 age1, .int .i64 type1, .int .u32 id1, .int .u32 adv1, .int .i64 seq1, .slice p5 links1.length c5, .int .u32 mask1, .slice p7 routers1.length c7, .int .i64 cost1] 28).next ((Keeps.refl _ _).alloc (.cells #[.int .i64 age2, .int .i64 type2, .int .u32 id2, .int .u32 adv2, .int .i64 seq2, .slice q5 links2.length d5, .int .u32 mask2, .slice q7 routers2.length d7, .int .i64 cost2] 28)))
  have hB : Hid (Boxed (w.heap.size + 1) [.int .i64 age2, .int .i64 type2, .int .u32 id2, .int .u32 adv2, .int .i64 seq2, .slice q5 links2.length d5, .int .u32 mask2, .slice q7 routers2.length d7, .int .i64 cost2] (w.alloc (.cells #[.int .i64 age1, .int .i64 type1, .int .u32 id1, .int .u32 adv1, .int .i64 seq1, .slice p5 links1.length c5, .int .u32 mask1, .slice p7 routers1.length c7, .int .i64 cost1] 28)) ((w.alloc (.cells #[.int .i64 age1, .int .i64 type1, .int .u32 id1, .int .u32 adv1, .int .i64 seq1, .slice p5 links1.length c5, .int .u32 mask1, .slice p7 routers1.length c7, .int .i64 cost1] 28)).alloc (.cells #[.int .i64 age2, .int .i64 type2, .int .u32 id2, .int .u32 adv2, .int .i64 seq2, .slice q5 links2.length d5, .int .u32 mask2, .slice q7 routers2.length d7, .int .i64 cost2] 28))) := Lib.hid (by
    have := boxed_new (w.alloc (.cells #[.int .i64 age1, .int .i64 type1, .int .u32 id1, .int .u32 adv1, .int .i64 seq1, .slice p5 links1.length c5, .int .u32 mask1, .slice p7 routers1.length c7, .int .i64 cost1] 28)) [.int .i64 age2, .int .i64 type2, .int .u32 id2, .int .u32 adv2, .int .i64 seq2, .slice q5 links2.length d5, .int .u32 mask2, .slice q7 routers2.length d7, .int .i64 cost2] 28
    simpa using this)
  have hL1' := Lib.hid (hL1.out.keep hkw)
  have hL2' := Lib.hid (hL2.out.keep hkw)
  have hR1' := Lib.hid (hR1.out.keep hkw)
  have hR2' := Lib.hid (hR2.out.keep hkw)
  have hkw' := Lib.hid hkw
  clear hkw hL1 hL2 hR1 hR2
  have hz0 := hz.out
  clear hz
  unfold sameB at hz0
  simp only at hz0
  cases hal0 : alikeB ⟨age1, type1, id1, adv1, seq1, links1, mask1, routers1, cost1⟩ ⟨age2, type2, id2, adv2, seq2, links2, mask2, routers2, cost2⟩
  · rw [hal0] at hz0
    have hal := Lib.hid hal0
    clear hal0
    obtain rfl : false = z := hz0
    go_enter Try.func19, Try.ntmps19
    go_wp2_with ((with_reducible refine at_slot 5 ?_); refine wpList_load_mid rfl 28 (.tmp 2) rfl w.heap.size 0 rfl _ _ hA.out.r Try.underlying28 rfl lsaInfoR ?_)
    go_wp2_with ((with_reducible refine at_slot 6 ?_); refine wpList_load_mid rfl 28 (.tmp 3) rfl (w.heap.size + 1) 0 rfl _ _ hB.out.r Try.underlying28 rfl lsaInfoR ?_)
    refine (r10Alike_any age1 type1 seq1 cost1 age2 type2 seq2 cost2 id1 adv1 mask1 id2 adv2 mask2 links1 links2 routers1 routers2 p5 p7 q5 q7 c5 c7 d5 d7 false _ hl1 hl2 hr1 hr2 hL1' hL2' hR1' hR2' hal).mono ?_
    rintro e w2 ⟨rfl, k2⟩
    have kk := Lib.hid (hkw'.out.trans k2)
    have b1 := (hA.out.next k2).cell 0 (.int .i64 age1) rfl
    have b2 := (hB.out.next k2).cell 0 (.int .i64 age2) rfl
    have b3 := (hA.out.next k2).cell 4 (.int .i64 seq1) rfl
    have b4 := (hB.out.next k2).cell 4 (.int .i64 seq2) rfl
    clear k2
    go_wp2_with fail
    go_ret
    exact ⟨rfl, kk.out⟩
  · rw [hal0] at hz0
    have hal := Lib.hid hal0
    clear hal0
    by_cases h1 : age1 = age2
    · by_cases h2 : seq1 = seq2
      · obtain rfl : true = z := by rw [← hz0]; simp [h1, h2]
        have e1 : (age1 == age2) = true := by rw [h1]; simp
        have e2 : (seq1 == seq2) = true := by rw [h2]; simp
        clear hz0 h1 h2
        go_enter Try.func19, Try.ntmps19
        go_wp2_with ((with_reducible refine at_slot 5 ?_); refine wpList_load_mid rfl 28 (.tmp 2) rfl w.heap.size 0 rfl _ _ hA.out.r Try.underlying28 rfl lsaInfoR ?_)
        go_wp2_with ((with_reducible refine at_slot 6 ?_); refine wpList_load_mid rfl 28 (.tmp 3) rfl (w.heap.size + 1) 0 rfl _ _ hB.out.r Try.underlying28 rfl lsaInfoR ?_)
        refine (r10Alike_any age1 type1 seq1 cost1 age2 type2 seq2 cost2 id1 adv1 mask1 id2 adv2 mask2 links1 links2 routers1 routers2 p5 p7 q5 q7 c5 c7 d5 d7 true _ hl1 hl2 hr1 hr2 hL1' hL2' hR1' hR2' hal).mono ?_
        rintro e w2 ⟨rfl, k2⟩
        have kk := Lib.hid (hkw'.out.trans k2)
        have b1 := (hA.out.next k2).cell 0 (.int .i64 age1) rfl
        have b2 := (hB.out.next k2).cell 0 (.int .i64 age2) rfl
        have b3 := (hA.out.next k2).cell 4 (.int .i64 seq1) rfl
        have b4 := (hB.out.next k2).cell 4 (.int .i64 seq2) rfl
        clear k2
        go_wp2_with fail
        go_ret
        exact ⟨rfl, kk.out⟩
      · obtain rfl : false = z := by rw [← hz0]; simp [h2]
        have e1 : (age1 == age2) = true := by rw [h1]; simp
        have e2 : (seq1 == seq2) = false := by rw [beq_eq_false_iff_ne]; exact h2
        clear hz0 h1 h2
        go_enter Try.func19, Try.ntmps19
        go_wp2_with ((with_reducible refine at_slot 5 ?_); refine wpList_load_mid rfl 28 (.tmp 2) rfl w.heap.size 0 rfl _ _ hA.out.r Try.underlying28 rfl lsaInfoR ?_)
        go_wp2_with ((with_reducible refine at_slot 6 ?_); refine wpList_load_mid rfl 28 (.tmp 3) rfl (w.heap.size + 1) 0 rfl _ _ hB.out.r Try.underlying28 rfl lsaInfoR ?_)
        refine (r10Alike_any age1 type1 seq1 cost1 age2 type2 seq2 cost2 id1 adv1 mask1 id2 adv2 mask2 links1 links2 routers1 routers2 p5 p7 q5 q7 c5 c7 d5 d7 true _ hl1 hl2 hr1 hr2 hL1' hL2' hR1' hR2' hal).mono ?_
        rintro e w2 ⟨rfl, k2⟩
        have kk := Lib.hid (hkw'.out.trans k2)
        have b1 := (hA.out.next k2).cell 0 (.int .i64 age1) rfl
        have b2 := (hB.out.next k2).cell 0 (.int .i64 age2) rfl
        have b3 := (hA.out.next k2).cell 4 (.int .i64 seq1) rfl
        have b4 := (hB.out.next k2).cell 4 (.int .i64 seq2) rfl
        clear k2
        go_wp2_with fail
        go_ret
        exact ⟨rfl, kk.out⟩
    · obtain rfl : false = z := by rw [← hz0]; simp [h1]
      have e1 : (age1 == age2) = false := by rw [beq_eq_false_iff_ne]; exact h1
      clear hz0 h1
      go_enter Try.func19, Try.ntmps19
      go_wp2_with ((with_reducible refine at_slot 5 ?_); refine wpList_load_mid rfl 28 (.tmp 2) rfl w.heap.size 0 rfl _ _ hA.out.r Try.underlying28 rfl lsaInfoR ?_)
      go_wp2_with ((with_reducible refine at_slot 6 ?_); refine wpList_load_mid rfl 28 (.tmp 3) rfl (w.heap.size + 1) 0 rfl _ _ hB.out.r Try.underlying28 rfl lsaInfoR ?_)
      refine (r10Alike_any age1 type1 seq1 cost1 age2 type2 seq2 cost2 id1 adv1 mask1 id2 adv2 mask2 links1 links2 routers1 routers2 p5 p7 q5 q7 c5 c7 d5 d7 true _ hl1 hl2 hr1 hr2 hL1' hL2' hR1' hR2' hal).mono ?_
      rintro e w2 ⟨rfl, k2⟩
      have kk := Lib.hid (hkw'.out.trans k2)
      have b1 := (hA.out.next k2).cell 0 (.int .i64 age1) rfl
      have b2 := (hB.out.next k2).cell 0 (.int .i64 age2) rfl
      have b3 := (hA.out.next k2).cell 4 (.int .i64 seq1) rfl
      have b4 := (hB.out.next k2).cell 4 (.int .i64 seq2) rfl
      clear k2
      go_wp2_with fail
      go_ret
      exact ⟨rfl, kk.out⟩

theorem wp_append_n {P : Program} {w : World} {o : Oper} {a : Act} {K : Act → World → Prop} {Q : Exit → Act → World → Prop} (s x : Operand) (t : TypeId)
    (ho : o.op = .call { callee := .builtin .append, args := #[s, x], argTypes := #[t, t] })
    (i : TypeInfo) (ht : P.underlying t = some (.slice 22)) (hi : P.info? 22 = some i) (hz : i.zero = some (.int .u32 0)) (hsize : i.size = 1) (hby : i.bytes = 4)
    (w0 : World) (v : Value) (n : Nat) (xs : List Nat) (hn : xs.length = n) (hs : a.eval s = v) (hown : OwnN w0 w v xs) (ad : Addr) (c0 : Nat) (ys : List Nat) (hx : a.eval x = .slice (some ad) ys.length c0) (hl : ∀ j u, (ys.map nv)[j]? = some u → w.cell? (ad.add j) = some u) (hsz : n + ys.length ≤ 1000000000)
    (h : ∀ p c w', OwnN w0 w' (.slice p (n + ys.length) c) (xs ++ ys) → Grown w v p (n + ys.length) c w' → K (a.put o.dst (.slice p (n + ys.length) c)) w') : Oper.wp P o a w K Q := by
  subst hn
  obtain ⟨v', w', hr, h2, h3, h4⟩ := run_append_sep (P := P) w t o.type 22 i (.int .u32 0) 1 4 ht hi hz hsize hby rfl (by decide) v xs.length (xs.map nv) hown.1 ad ys.length c0 (ys.map nv) (by simp) hl (by intro u hu; obtain ⟨n, -, rfl⟩ := List.mem_map.1 hu; rfl) (by unfold maxLen; omega) (by omega)
  obtain ⟨p, c, rfl⟩ := ownsRow_slice h2
  unfold Oper.wp execOp
  simp only [ho, resolve, invoke, builtin, Sem.run_bind, Sem.run_pure, Result.andThen_ok, List.map_toArray, List.map_cons, List.map_nil, hs, hx, hr]
  refine h p c w' ⟨by rw [List.map_append, List.length_append]; exact h2, fun k e => ?_, Nat.le_trans hown.2.2 h3.size⟩ ⟨(Keeps.refl _ _).grown h3 (fun k e => .inl e), h4⟩
  rcases h4 k e with e | e
  · exact hown.2.1 k e
  · exact Nat.le_trans hown.2.2 e
end Go.Proofs.Ytiogeepffdpafaa
