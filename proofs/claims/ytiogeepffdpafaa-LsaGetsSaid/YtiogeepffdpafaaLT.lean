/- lsa.Alike, walked (gen_lt.py writes this). -/
import Derived.Test.YtiogeepffdpafaaLS
namespace Go.Proofs.Ytiogeepffdpafaa
open Go.RowKit

def keyEq (a b : LsaD) : Bool := decide (a.type = b.type) && (decide (a.id = b.id) && decide (a.adv = b.adv))
def alikeB (a b : LsaD) : Bool := keyEq a b && (decide (a.mask = b.mask) && (decide (a.cost = b.cost) && (linksEq a.links b.links && numsEq a.routers b.routers)))
@[go_sem] theorem guardKey (op : BinOp) (x y : Operand) (xs ys : Array Value) (w : World) : (eqGuard op 33 x y (.agg xs) (.agg ys)).run Try.prog w = .ok () w := run_eqGuard_agg w op 33 x y xs ys (by kernel_rfl)
theorem alike_cases (k1 k2 k3 m c l r : Prop) : ¬ k1 ∨ (k1 ∧ ¬ k2) ∨ (k1 ∧ k2 ∧ ¬ k3) ∨ (k1 ∧ k2 ∧ k3 ∧ ¬ m) ∨ (k1 ∧ k2 ∧ k3 ∧ m ∧ ¬ c) ∨ (k1 ∧ k2 ∧ k3 ∧ m ∧ c ∧ ¬ l) ∨ (k1 ∧ k2 ∧ k3 ∧ m ∧ c ∧ l) := by
  by_cases h1 : k1 <;> by_cases h2 : k2 <;> by_cases h3 : k3 <;> by_cases h4 : m <;> by_cases h5 : c <;> by_cases h6 : l <;> simp [h1, h2, h3, h4, h5, h6]
theorem links_eq_len {a b : List LinkD} (h : linksEq a b = true) : a.length = b.length := by
  by_cases e : a.length = b.length
  · exact e
  · rw [linksEq_len e] at h; simp at h
set_option maxRecDepth 100000 in
set_option maxHeartbeats 4000000 in
theorem lsAlike_any (age1 type1 seq1 cost1 age2 type2 seq2 cost2 : Int) (id1 adv1 mask1 id2 adv2 mask2 : Nat) (links1 links2 : List LinkD) (routers1 routers2 : List Nat) (p5 p7 q5 q7 : Option Addr) (c5 c7 d5 d7 : Nat) (z : Bool) (w : World)
    (hl1 : links1.length ≤ 9223372036854775807) (hl2 : links2.length ≤ 9223372036854775807) (hr1 : routers1.length ≤ 9223372036854775807) (hr2 : routers2.length ≤ 9223372036854775807)
    (hL1 : Hid (LinksAt w (.slice p5 links1.length c5) links1)) (hL2 : Hid (LinksAt w (.slice q5 links2.length d5) links2)) (hR1 : Hid (NumsAt w (.slice p7 routers1.length c7) routers1)) (hR2 : Hid (NumsAt w (.slice q7 routers2.length d7) routers2))
    (hz : Hid (alikeB ⟨age1, type1, id1, adv1, seq1, links1, mask1, routers1, cost1⟩ ⟨age2, type2, id2, adv2, seq2, links2, mask2, routers2, cost2⟩ = z)) :
    Calls Try.prog 25 #[.agg #[.int .i64 age1, .int .i64 type1, .int .u32 id1, .int .u32 adv1, .int .i64 seq1, .slice p5 links1.length c5, .int .u32 mask1, .slice p7 routers1.length c7, .int .i64 cost1], .agg #[.int .i64 age2, .int .i64 type2, .int .u32 id2, .int .u32 adv2, .int .i64 seq2, .slice q5 links2.length d5, .int .u32 mask2, .slice q7 routers2.length d7, .int .i64 cost2]] w (fun e w' => e = .returned (.bool z) ∧ Keeps (fun _ => False) w w') := by
  have hkw : Keeps (fun _ => False) w ((w.alloc (.cells #[.int .i64 age1, .int .i64 type1, .int .u32 id1, .int .u32 adv1, .int .i64 seq1, .slice p5 links1.length c5, .int .u32 mask1, .slice p7 routers1.length c7, .int .i64 cost1] 36)).alloc (.cells #[.int .i64 age2, .int .i64 type2, .int .u32 id2, .int .u32 adv2, .int .i64 seq2, .slice q5 links2.length d5, .int .u32 mask2, .slice q7 routers2.length d7, .int .i64 cost2] 36)) := ((Keeps.refl _ _).alloc _).alloc _
  have hK1 : Hid (((w.alloc (.cells #[.int .i64 age1, .int .i64 type1, .int .u32 id1, .int .u32 adv1, .int .i64 seq1, .slice p5 links1.length c5, .int .u32 mask1, .slice p7 routers1.length c7, .int .i64 cost1] 36)).alloc (.cells #[.int .i64 age2, .int .i64 type2, .int .u32 id2, .int .u32 adv2, .int .i64 seq2, .slice q5 links2.length d5, .int .u32 mask2, .slice q7 routers2.length d7, .int .i64 cost2] 36)).rangeAt w.heap.size 1 [.int .i64 type1, .int .u32 id1, .int .u32 adv1]) := Lib.hid (by
    have hb := ((boxed_new w [.int .i64 age1, .int .i64 type1, .int .u32 id1, .int .u32 adv1, .int .i64 seq1, .slice p5 links1.length c5, .int .u32 mask1, .slice p7 routers1.length c7, .int .i64 cost1] 36).next ((Keeps.refl _ _).alloc (.cells #[.int .i64 age2, .int .i64 type2, .int .u32 id2, .int .u32 adv2, .int .i64 seq2, .slice q5 links2.length d5, .int .u32 mask2, .slice q7 routers2.length d7, .int .i64 cost2] 36))).r
    exact fun j u hu => by rw [Nat.add_comm 1 j]; have := hb (j + 1) u (by rcases j with _ | _ | _ | j <;> simp_all); rwa [Nat.zero_add] at this)
  have hK2 : Hid (((w.alloc (.cells #[.int .i64 age1, .int .i64 type1, .int .u32 id1, .int .u32 adv1, .int .i64 seq1, .slice p5 links1.length c5, .int .u32 mask1, .slice p7 routers1.length c7, .int .i64 cost1] 36)).alloc (.cells #[.int .i64 age2, .int .i64 type2, .int .u32 id2, .int .u32 adv2, .int .i64 seq2, .slice q5 links2.length d5, .int .u32 mask2, .slice q7 routers2.length d7, .int .i64 cost2] 36)).rangeAt (w.heap.size + 1) 1 [.int .i64 type2, .int .u32 id2, .int .u32 adv2]) := Lib.hid (by
    have hb := (boxed_new (w.alloc (.cells #[.int .i64 age1, .int .i64 type1, .int .u32 id1, .int .u32 adv1, .int .i64 seq1, .slice p5 links1.length c5, .int .u32 mask1, .slice p7 routers1.length c7, .int .i64 cost1] 36)) [.int .i64 age2, .int .i64 type2, .int .u32 id2, .int .u32 adv2, .int .i64 seq2, .slice q5 links2.length d5, .int .u32 mask2, .slice q7 routers2.length d7, .int .i64 cost2] 36).r
    exact fun j u hu => by rw [Nat.add_comm 1 j]; have := hb (j + 1) u (by rcases j with _ | _ | _ | j <;> simp_all); rw [Nat.zero_add] at this; simpa using this)
  have hL1' := Lib.hid (hL1.out.keep hkw)
  have hL2' := Lib.hid (hL2.out.keep hkw)
  have hR1' := Lib.hid (hR1.out.keep hkw)
  have hR2' := Lib.hid (hR2.out.keep hkw)
  have hkw' := Lib.hid hkw
  clear hkw hL1 hL2 hR1 hR2
  have hz0 := hz.out
  clear hz
  unfold alikeB keyEq at hz0
  simp only at hz0
  rcases alike_cases (type1 = type2) (id1 = id2) (adv1 = adv2) (mask1 = mask2) (cost1 = cost2) (linksEq links1 links2 = true) True with hn | ⟨rfl, hn⟩ | ⟨rfl, rfl, hn⟩ | ⟨rfl, rfl, rfl, hn⟩ | ⟨rfl, rfl, rfl, rfl, hn⟩ | ⟨rfl, rfl, rfl, rfl, rfl, hn⟩ | ⟨rfl, rfl, rfl, rfl, rfl, hn⟩
  · obtain rfl : false = z := by rw [← hz0]; simp [hn]
    clear hz0
    go_enter Try.func25, Try.ntmps25
    go_wp2_with ((with_reducible refine at_slot 6 ?_); refine wpList_load_mid rfl 33 (.tmp 5) rfl w.heap.size 1 rfl _ _ hK1.out Try.underlying33 rfl keyInfo ?_)
    go_wp2_with ((with_reducible refine at_slot 8 ?_); refine wpList_load_mid rfl 33 (.tmp 7) rfl (w.heap.size + 1) 1 rfl _ _ hK2.out Try.underlying33 rfl keyInfo ?_)
    go_wp2_with fail
    go_ret
    exact ⟨rfl, hkw'.out⟩
  · obtain rfl : false = z := by rw [← hz0]; simp [hn]
    clear hz0
    have hni : ¬ ((id1 : Nat) : Int) = (id2 : Nat) := by omega
    clear hn
    go_enter Try.func25, Try.ntmps25
    go_wp2_with ((with_reducible refine at_slot 6 ?_); refine wpList_load_mid rfl 33 (.tmp 5) rfl w.heap.size 1 rfl _ _ hK1.out Try.underlying33 rfl keyInfo ?_)
    go_wp2_with ((with_reducible refine at_slot 8 ?_); refine wpList_load_mid rfl 33 (.tmp 7) rfl (w.heap.size + 1) 1 rfl _ _ hK2.out Try.underlying33 rfl keyInfo ?_)
    go_wp2_with fail
    go_ret
    exact ⟨rfl, hkw'.out⟩
  · obtain rfl : false = z := by rw [← hz0]; simp [hn]
    clear hz0
    have hni : ¬ ((adv1 : Nat) : Int) = (adv2 : Nat) := by omega
    clear hn
    go_enter Try.func25, Try.ntmps25
    go_wp2_with ((with_reducible refine at_slot 6 ?_); refine wpList_load_mid rfl 33 (.tmp 5) rfl w.heap.size 1 rfl _ _ hK1.out Try.underlying33 rfl keyInfo ?_)
    go_wp2_with ((with_reducible refine at_slot 8 ?_); refine wpList_load_mid rfl 33 (.tmp 7) rfl (w.heap.size + 1) 1 rfl _ _ hK2.out Try.underlying33 rfl keyInfo ?_)
    go_wp2_with fail
    go_ret
    exact ⟨rfl, hkw'.out⟩
  · obtain rfl : false = z := by rw [← hz0]; simp [hn]
    clear hz0
    have hni : ¬ ((mask1 : Nat) : Int) = (mask2 : Nat) := by omega
    clear hn
    go_enter Try.func25, Try.ntmps25
    go_wp2_with ((with_reducible refine at_slot 6 ?_); refine wpList_load_mid rfl 33 (.tmp 5) rfl w.heap.size 1 rfl _ _ hK1.out Try.underlying33 rfl keyInfo ?_)
    go_wp2_with ((with_reducible refine at_slot 8 ?_); refine wpList_load_mid rfl 33 (.tmp 7) rfl (w.heap.size + 1) 1 rfl _ _ hK2.out Try.underlying33 rfl keyInfo ?_)
    go_wp2_with fail
    go_ret
    exact ⟨rfl, hkw'.out⟩
  · obtain rfl : false = z := by rw [← hz0]; simp [hn]
    clear hz0
    go_enter Try.func25, Try.ntmps25
    go_wp2_with ((with_reducible refine at_slot 6 ?_); refine wpList_load_mid rfl 33 (.tmp 5) rfl w.heap.size 1 rfl _ _ hK1.out Try.underlying33 rfl keyInfo ?_)
    go_wp2_with ((with_reducible refine at_slot 8 ?_); refine wpList_load_mid rfl 33 (.tmp 7) rfl (w.heap.size + 1) 1 rfl _ _ hK2.out Try.underlying33 rfl keyInfo ?_)
    go_wp2_with fail
    go_ret
    exact ⟨rfl, hkw'.out⟩
  · have hn' : Hid (linksEq links1 links2 = false) := Lib.hid (by simpa using hn)
    clear hn
    obtain rfl : false = z := by rw [← hz0, hn'.out]; simp
    clear hz0
    go_enter Try.func25, Try.ntmps25
    go_wp2_with ((with_reducible refine at_slot 6 ?_); refine wpList_load_mid rfl 33 (.tmp 5) rfl w.heap.size 1 rfl _ _ hK1.out Try.underlying33 rfl keyInfo ?_)
    go_wp2_with ((with_reducible refine at_slot 8 ?_); refine wpList_load_mid rfl 33 (.tmp 7) rfl (w.heap.size + 1) 1 rfl _ _ hK2.out Try.underlying33 rfl keyInfo ?_)
    refine (slEqLinks_any _ _ links1 links2 _ hl1 hl2 _ hL1' hL2' hn').mono ?_
    rintro e w2 ⟨rfl, m, rfl⟩
    go_wp2_with fail
    go_ret
    exact ⟨rfl, hkw'.out.drewN _⟩
  · have hn' : Hid (linksEq links1 links2 = true) := Lib.hid hn
    clear hn
    have hz1 : Hid (numsEq routers1 routers2 = z) := Lib.hid (by rw [← hz0, hn'.out]; simp)
    clear hz0
    go_enter Try.func25, Try.ntmps25
    go_wp2_with ((with_reducible refine at_slot 6 ?_); refine wpList_load_mid rfl 33 (.tmp 5) rfl w.heap.size 1 rfl _ _ hK1.out Try.underlying33 rfl keyInfo ?_)
    go_wp2_with ((with_reducible refine at_slot 8 ?_); refine wpList_load_mid rfl 33 (.tmp 7) rfl (w.heap.size + 1) 1 rfl _ _ hK2.out Try.underlying33 rfl keyInfo ?_)
    refine (slEqLinks_any _ _ links1 links2 _ hl1 hl2 _ hL1' hL2' hn').mono ?_
    rintro e w2 ⟨rfl, m, rfl⟩
    go_wp2_with fail
    refine (slEqU32_any _ _ routers1 routers2 _ hr1 hr2 _ (Lib.hid (hR1'.out.keep ((Keeps.refl _ _).drewN m))) (Lib.hid (hR2'.out.keep ((Keeps.refl _ _).drewN m))) hz1).mono ?_
    rintro e w3 ⟨rfl, m2, rfl⟩
    go_wp2_with fail
    go_ret
    exact ⟨rfl, hkw'.out.drewN _⟩
end Go.Proofs.Ytiogeepffdpafaa
