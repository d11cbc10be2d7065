/- LsaAges, walked (gen_lad.py writes this). -/
import Derived.Test.YtiogeepffdpafaaLAA
namespace Go.Proofs.Ytiogeepffdpafaa
open Go.RowKit

/-- an Lsa's bytes behind its age: not a word of it speaks of the age -/
def restB (l : LsaD) : List UInt8 :=
  let r := [2, UInt8.ofNat (lo8 l.type)] ++ (be 4 l.id ++ (be 4 l.adv ++ (be 4 (lo64 l.seq) ++ (be 2 0 ++ (be 2 (lo64 (20 + ((tellB l).length : Int))) ++ tellB l)))))
  (r.set 14 (UInt8.ofNat (flX (zed r 14) r.length 14))).set 15 (UInt8.ofNat (flY (zed r 14) r.length 14))
theorem putB_rest (l : LsaD) : putB l = be 2 (lo64 l.age) ++ restB l := by
  unfold putB restB
  have hs : baseB l = be 2 (lo64 l.age) ++ ([2, UInt8.ofNat (lo8 l.type)] ++ (be 4 l.id ++ (be 4 l.adv ++ (be 4 (lo64 l.seq) ++ (be 2 0 ++ (be 2 (lo64 (20 + ((tellB l).length : Int))) ++ tellB l)))))) := by
    unfold baseB headB; simp only [List.append_assoc]
  obtain ⟨r, hr⟩ : ∃ r, [2, UInt8.ofNat (lo8 l.type)] ++ (be 4 l.id ++ (be 4 l.adv ++ (be 4 (lo64 l.seq) ++ (be 2 0 ++ (be 2 (lo64 (20 + ((tellB l).length : Int))) ++ tellB l))))) = r := ⟨_, rfl⟩
  rw [hr] at hs ⊢
  have hd : (baseB l).drop 2 = r := by rw [hs, List.drop_append_of_le_length (by rw [be_len]; omega), List.drop_of_length_le (by rw [be_len]; omega), List.nil_append]
  have hl : (baseB l).length - 2 = r.length := by rw [hs, List.length_append, be_len]; omega
  rw [hd, hl, hs]
  rw [List.set_append_right _ _ (by rw [be_len]; omega), be_len, List.set_append_right _ _ (by rw [be_len]; omega), be_len]
theorem putB_drop (l : LsaD) : (putB l).drop 2 = restB l := by
  rw [putB_rest, List.drop_append_of_le_length (by rw [be_len]; omega), List.drop_of_length_le (by rw [be_len]; omega), List.nil_append]
/-- what the header tells, but its age -/
def headR (r : List UInt8) (a : Int) : HeadD := ⟨a, ((r.getD 1 0).toNat : Int), beVal (sub r 2 4), beVal (sub r 6 4), sgn32 (beVal (sub r 10 4)), beVal (sub r 14 2), (beVal (sub r 16 2) : Nat)⟩
theorem headOf_put (l : LsaD) : headOf (putB l) = headR (restB l) ((lo64 l.age % 65536 : Nat) : Int) := by
  have ha : beVal (sub (putB l) 0 2) = lo64 l.age % 65536 := by
    rw [putB_rest]
    have : sub (be 2 (lo64 l.age) ++ restB l) 0 2 = be 2 (lo64 l.age) := by
      unfold sub; rw [List.drop_zero, List.take_append_of_le_length (by rw [be_len]; omega), List.take_of_length_le (by rw [be_len]; omega)]
    rw [this, beVal_be]
  unfold headOf
  rw [ha]
  unfold headR
  have hsub : ∀ i n, sub (putB l) (2 + i) n = sub (restB l) i n := fun i n => by unfold sub; rw [← putB_drop, List.drop_drop]
  have hget : (putB l).getD 3 0 = (restB l).getD 1 0 := by rw [putB_rest, be2]; rfl
  rw [hget, hsub 2 4, hsub 6 4, hsub 10 4, hsub 14 2, hsub 16 2]
theorem age_back (a : Nat) (h : a ≤ 3600) : lo64 (a : Int) % 65536 = a := by unfold lo64; omega
theorem u64_nata (n : Int) : ∃ U : Nat, IntKind.u64.wrap n = (U : Int) := ⟨lo64 n, by rw [u64_wrap]; unfold lo64; omega⟩
theorem yieldsIf_conv {P : Program} {ops : Array Oper} {S : World → Prop} {op : Oper} {a : Act} (hw : Region.wanted op (yielded ops a.tmps) = true) (ft tt : TypeId) (x : Operand) (ho : op.op = .convert ft tt x) (xv v : Value) (hx : a.eval x = xv)
    (hS : ∀ w, S w → (convert ft tt xv).run P w = .ok v w) : YieldsIf P ops S op v a :=
  .inl ⟨hw, fun w hw' => by
    unfold execOp
    simp only [ho, hx, Sem.run_bind, hS w hw', Result.andThen_ok]; rfl⟩
/-- the law's last word -/
def lawB (x y : Nat) : Bool := decide (x = 3600) && decide (y ≠ 3600) || decide (y ≠ 3600) && decide (900 < (y : Int) - x)
theorem law_cmp (x y : Nat) (s : Int) (c : Nat) : decide (cmpH x y s s c c = 1) = lawB x y := by
  unfold cmpH cmpI lawB
  rw [if_neg (fun h => h rfl), if_neg (fun h => h rfl)]
  by_cases h1 : x = 3600
  · by_cases h2 : y = 3600
    · subst h1; subst h2; decide
    · rw [if_pos ⟨h1, h2⟩]; simp [h1, h2]
  · rw [if_neg (fun h => h1 h.1)]
    by_cases h2 : y = 3600
    · rw [if_pos ⟨h2, h1⟩]; simp [h1, h2]
    · rw [if_neg (fun h => h2 h.1)]
      by_cases h3 : max x y - min x y > 900
      · rw [if_pos h3]
        by_cases h4 : x < y
        · rw [if_neg (by omega), if_pos (by omega)]
          have : 900 < (y : Int) - x := by omega
          simp [h1, h2, this]
        · rw [if_pos (by omega)]
          have : ¬ 900 < (y : Int) - x := by omega
          simp [h1, h2, this]
      · rw [if_neg h3]
        have : ¬ 900 < (y : Int) - x := by omega
        simp [h1, h2, this]
theorem canB_age {age type seq cost : Int} {lid adv mask : Nat} {links : List LinkD} {routers : List Nat} (h : canB ⟨age, type, lid, adv, seq, links, mask, routers, cost⟩ = true) (a : Nat) (ha : a ≤ 3600) : canB ⟨(a : Int), type, lid, adv, seq, links, mask, routers, cost⟩ = true := by
  unfold canB at h ⊢
  simp only [Bool.and_eq_true] at h ⊢
  exact ⟨by unfold withinB; rw [decide_eq_true_iff]; omega, h.2.1, h.2.2⟩
set_option maxRecDepth 100000 in
set_option maxHeartbeats 4000000 in
theorem lLsaAges_walk (age type seq cost : Int) (lid adv mask : Nat) (links : List LinkD) (routers : List Nat) (p5 p7 : Option Addr) (c5 c7 : Nat) (a b : Int) (w : World)
    (hll : links.length * 24 ≤ 140737488351232) (hrl : routers.length * 4 ≤ 140737488351232) (hL : Hid (LinksAt w (.slice p5 links.length c5) links)) (hR : Hid (NumsAt w (.slice p7 routers.length c7) routers)) (hok : Hid (LsaD.ok ⟨age, type, lid, adv, seq, links, mask, routers, cost⟩)) :
    Calls Try.prog 6 #[.agg #[.int .i64 age, .int .i64 type, .int .u32 lid, .int .u32 adv, .int .i64 seq, .slice p5 links.length c5, .int .u32 mask, .slice p7 routers.length c7, .int .i64 cost], .int .i64 a, .int .i64 b] w (fun e w' => e = .returned (.bool true) ∧ Keeps (fun _ => False) w w') := by
  obtain ⟨W0, hW0⟩ : ∃ W0, W0 = w.alloc (.cells #[.int .i64 age, .int .i64 type, .int .u32 lid, .int .u32 adv, .int .i64 seq, .slice p5 links.length c5, .int .u32 mask, .slice p7 routers.length c7, .int .i64 cost] 28) := ⟨_, rfl⟩
  have hA : Hid (BlkAt W0 w.heap.size 28 [.int .i64 age, .int .i64 type, .int .u32 lid, .int .u32 adv, .int .i64 seq, .slice p5 links.length c5, .int .u32 mask, .slice p7 routers.length c7, .int .i64 cost]) := Lib.hid (by rw [hW0]; exact BlkAt.new w 28 [.int .i64 age, .int .i64 type, .int .u32 lid, .int .u32 adv, .int .i64 seq, .slice p5 links.length c5, .int .u32 mask, .slice p7 routers.length c7, .int .i64 cost])
  have hK : Hid (Keeps (fun _ => False) w W0) := Lib.hid (by rw [hW0]; exact (Keeps.refl _ _).alloc _)
  have hL1 := Lib.hid (hL.out.keep hK.out); have hR1 := Lib.hid (hR.out.keep hK.out)
  have hW0' := Lib.hid hW0
  clear hW0 hL hR
  go_enter Try.func6, Try.ntmps6
  go_upto_region 1 with fail
  rw [← hW0'.out]
  clear hW0'
  go_wp2_with ((with_reducible refine at_slot 18 ?_); refine wpList_load_mid rfl 28 (.tmp 3) rfl w.heap.size 0 rfl [.int .i64 age, .int .i64 type, .int .u32 lid, .int .u32 adv, .int .i64 seq, .slice p5 links.length c5, .int .u32 mask, .slice p7 routers.length c7, .int .i64 cost] _ hA.out.range Try.underlying28 rfl lsaInfoR ?_)
  obtain ⟨z, hz⟩ : ∃ z, canB ⟨age, type, lid, adv, seq, links, mask, routers, cost⟩ = z := ⟨_, rfl⟩
  have hz' := Lib.hid hz
  refine (r10Right_any age type seq cost lid adv mask links routers p5 p7 c5 c7 z _ hL1 (by omega) (by omega) hz').mono ?_
  rintro e w1 ⟨rfl, k1⟩
  have hA1 := Lib.hid (hA.out.keep k1 (fun f => f)); have hK1 := Lib.hid (hK.out.trans k1); have hL2 := Lib.hid (hL1.out.keep k1); have hR2 := Lib.hid (hR1.out.keep k1)
  clear k1 hA hK hL1 hR1 hz'
  cases z with
  | false =>
    go_wp2_with fail
    refine (lwPuts_any _).mono ?_
    rintro e w2 ⟨rfl, k2⟩
    have hK2 := Lib.hid (hK1.out.trans k2)
    clear k2
    go_wp2_with fail
    go_ret
    exact ⟨rfl, hK2.out⟩
  | true =>
    obtain ⟨U, hU⟩ := u64_nata a
    obtain ⟨V', hV'⟩ := u64_nata b
    obtain ⟨ax, hax, hax1⟩ : ∃ ax : Nat, (U : Int) % 3601 = ax ∧ ax ≤ 3600 := ⟨U % 3601, by omega, by omega⟩
    obtain ⟨ay, hay, hay1⟩ : ∃ ay : Nat, (V' : Int) % 3601 = ay ∧ ay ≤ 3600 := ⟨V' % 3601, by omega, by omega⟩
    have hcx := Lib.hid (canB_age hz ax hax1)
    have hcy := Lib.hid (canB_age hz ay hay1)
    clear hz
    go_upto_region 3 with fail
    refine wp_region_noPanic ?_
    refine wp_region_held_drew (S := (fun W => Keeps (fun _ => False) w1 W)) (by kernel_rfl) (((Keeps.refl (fun _ => False) _).drew)) (fun hHeld => ?_)
    refine takeL 0 rfl (by kernel_rfl) (by kernel_rfl) (by kernel_rfl) (fun _ _ _ h => h) (yieldsIf_load_mid (by rfl) 28 (.tmp 3) rfl w.heap.size 0 rfl [.int .i64 age, .int .i64 type, .int .u32 lid, .int .u32 adv, .int .i64 seq, .slice p5 links.length c5, .int .u32 mask, .slice p7 routers.length c7, .int .i64 cost] _ (fun _ s => (hA1.out.keep s (fun f => f)).range) Try.underlying28 rfl lsaInfoR) (by assumption) ?_
    try simp only [Act.put, List.setIfInBounds_toArray, List.set_cons_zero, List.set_cons_succ]
    refine takeL 1 rfl (by kernel_rfl) (by kernel_rfl) (by kernel_rfl) (fun _ _ _ h => h) (yieldsIf_load_mid (by rfl) 28 (.tmp 3) rfl w.heap.size 0 rfl [.int .i64 age, .int .i64 type, .int .u32 lid, .int .u32 adv, .int .i64 seq, .slice p5 links.length c5, .int .u32 mask, .slice p7 routers.length c7, .int .i64 cost] _ (fun _ s => (hA1.out.keep s (fun f => f)).range) Try.underlying28 rfl lsaInfoR) (by assumption) ?_
    try simp only [Act.put, List.setIfInBounds_toArray, List.set_cons_zero, List.set_cons_succ]
    refine wpAnyH_slots [7, 8] [2, 3, 4, 5] (fun L f W =>
      (L 2 = true → ∃ X, f 7 = .pointer (some ⟨X, 0, none⟩) ∧ w1.heap.size ≤ X ∧ (L 4 = false → BlkAt W X 28 [.int .i64 0, .int .i64 0, .int .u32 0, .int .u32 0, .int .i64 0, .slice none 0 0, .int .u32 0, .slice none 0 0, .int .i64 0]) ∧ (L 4 = true → BlkAt W X 28 [.int .i64 age, .int .i64 type, .int .u32 lid, .int .u32 adv, .int .i64 seq, .slice p5 links.length c5, .int .u32 mask, .slice p7 routers.length c7, .int .i64 cost]) ∧ (L 3 = true → ∀ Y, f 8 = .pointer (some ⟨Y, 0, none⟩) → X ≠ Y)) ∧
      (L 3 = true → ∃ Y, f 8 = .pointer (some ⟨Y, 0, none⟩) ∧ w1.heap.size ≤ Y ∧ (L 5 = false → BlkAt W Y 28 [.int .i64 0, .int .i64 0, .int .u32 0, .int .u32 0, .int .i64 0, .slice none 0 0, .int .u32 0, .slice none 0 0, .int .i64 0]) ∧ (L 5 = true → BlkAt W Y 28 [.int .i64 age, .int .i64 type, .int .u32 lid, .int .u32 adv, .int .i64 seq, .slice p5 links.length c5, .int .u32 mask, .slice p7 routers.length c7, .int .i64 cost])) ∧
      (L 4 = true → L 2 = true) ∧ (L 5 = true → L 3 = true)) (by kernel_rfl) (by kernel_rfl) (by kernel_rfl) (by kernel_rfl) (Nat.le_of_ble_eq_true (by kernel_rfl)) hHeld
      (fun L f h => ⟨fun e => absurd (h 2 (by decide)) (by rw [e]; decide), fun e => absurd (h 3 (by decide)) (by rw [e]; decide), fun e => absurd (h 4 (by decide)) (by rw [e]; decide), fun e => absurd (h 5 (by decide)) (by rw [e]; decide)⟩) ?_ ?_
    · refine StepsG.cons (d := 7) rfl rfl (by decide) ?_ (StepsG.cons (d := 8) rfl rfl (by decide) ?_ (StepsG.cons0 rfl rfl ?_ (StepsG.cons0 rfl rfl ?_ StepsG.nil)))
      · intro L f W hG hS hL hdep K hK
        have n4 : L 4 = false := no_true (fun e => absurd ((hG.2.2.1 e).symm.trans hL) (by decide))
        simp only [actOf, List.foldl_cons, List.foldl_nil, Act.put, List.setIfInBounds_toArray, List.set_cons_zero, List.set_cons_succ] at hK ⊢
        rw [if_pos (by rfl)]
        go_simp
        have hk' : Keeps (fun _ => False) W (W.alloc (.cells #[.int .i64 0, .int .i64 0, .int .u32 0, .int .u32 0, .int .i64 0, .slice none 0 0, .int .u32 0, .slice none 0 0, .int .i64 0] 28)) := (Keeps.refl _ _).alloc _
        refine hK.out _ _ (hS.trans hk') ⟨fun _ => ⟨W.heap.size, rfl, hS.size, fun _ => BlkAt.new W _ _, fun e => absurd (n4.symm.trans e) (by decide), fun e Y hY => ?_⟩, fun e => ?_, fun _ => rfl, hG.2.2.2⟩
        · obtain ⟨Y', h8, hlo, hb0, hb1⟩ := hG.2.1 e
          have e8 := h8.symm.trans hY
          injection e8 with e8; injection e8 with e8; injection e8 with e8
          subst e8
          cases h5 : L 5 with
          | false => have := lt_of_block (hb0 h5); omega
          | true => have := lt_of_block (hb1 h5); omega
        · obtain ⟨Y', h8, hlo, hb0, hb1⟩ := hG.2.1 e
          exact ⟨Y', h8, hlo, fun e => (hb0 e).keep hk' (fun f => f), fun e => (hb1 e).keep hk' (fun f => f)⟩
      · intro L f W hG hS hL hdep K hK
        have n5 : L 5 = false := no_true (fun e => absurd ((hG.2.2.2 e).symm.trans hL) (by decide))
        simp only [actOf, List.foldl_cons, List.foldl_nil, Act.put, List.setIfInBounds_toArray, List.set_cons_zero, List.set_cons_succ] at hK ⊢
        rw [if_pos (by rfl)]
        go_simp
        have hk' : Keeps (fun _ => False) W (W.alloc (.cells #[.int .i64 0, .int .i64 0, .int .u32 0, .int .u32 0, .int .i64 0, .slice none 0 0, .int .u32 0, .slice none 0 0, .int .i64 0] 28)) := (Keeps.refl _ _).alloc _
        refine hK.out _ _ (hS.trans hk') ⟨fun e => ?_, fun _ => ⟨W.heap.size, rfl, hS.size, fun _ => BlkAt.new W _ _, fun e => absurd (n5.symm.trans e) (by decide)⟩, hG.2.2.1, fun _ => rfl⟩
        obtain ⟨X', h7, hlo, hb0, hb1, -⟩ := hG.1 e
        refine ⟨X', h7, hlo, fun e => (hb0 e).keep hk' (fun f => f), fun e => (hb1 e).keep hk' (fun f => f), fun _ Y hY => ?_⟩
        have e8 : Value.pointer (some ⟨W.heap.size, 0, none⟩) = .pointer (some ⟨Y, 0, none⟩) := hY
        injection e8 with e8; injection e8 with e8; injection e8 with e8
        subst e8
        cases h4 : L 4 with
        | false => have := lt_of_block (hb0 h4); omega
        | true => have := lt_of_block (hb1 h4); omega
      · intro L f W hG hS hL hdep K hK
        have d2 := hdep ⟨2, .data⟩ (by simp) rfl (by decide)
        obtain ⟨X, h7, hlo, hb0, -, hne⟩ := hG.1 d2
        have hb := hb0 hL
        simp only [actOf, List.foldl_cons, List.foldl_nil, Act.put, List.setIfInBounds_toArray, List.set_cons_zero, List.set_cons_succ] at hK ⊢
        rw [if_pos (by rfl)]
        refine wp_store_mid 28 (.tmp 7) (.tmp 22) rfl X 0 #[.int .i64 age, .int .i64 type, .int .u32 lid, .int .u32 adv, .int .i64 seq, .slice p5 links.length c5, .int .u32 mask, .slice p7 routers.length c7, .int .i64 cost] h7 rfl (hb.there 0 9 (Nat.le_refl 9)) lsaInfoR (lsa_one _ _ _ _ _ _ _ _ _ (slice_one _ _ _) (slice_one _ _ _)) ?_
        have hs9 : Keeps (fun i => i = X) W (W.setCells X 0 [.int .i64 age, .int .i64 type, .int .u32 lid, .int .u32 adv, .int .i64 seq, .slice p5 links.length c5, .int .u32 mask, .slice p7 routers.length c7, .int .i64 cost]) := Keeps.setCells (F := fun i => i = X) (.inl rfl) _ _ _ (Keeps.refl _ _)
        refine hK.out _ (hS.trans' hs9 (fun i e => .inr (by subst e; exact hlo))) ⟨fun _ => ⟨X, h7, hlo, fun e => absurd (show true = false from e) (by decide), fun _ => (((((((((hb.put 0 _).put 1 _).put 2 _).put 3 _).put 4 _).put 5 _).put 6 _).put 7 _).put 8 _), hne⟩, fun e => ?_, fun _ => d2, hG.2.2.2⟩
        obtain ⟨Y', h8, hlo8, hb80, hb81⟩ := hG.2.1 e
        exact ⟨Y', h8, hlo8, fun e2 => (hb80 e2).keep hs9 (fun f => hne e Y' h8 f.symm), fun e2 => (hb81 e2).keep hs9 (fun f => hne e Y' h8 f.symm)⟩
      · intro L f W hG hS hL hdep K hK
        have d3 := hdep ⟨3, .data⟩ (by simp) rfl (by decide)
        obtain ⟨Y, h8, hlo, hb0, -⟩ := hG.2.1 d3
        have hb := hb0 hL
        simp only [actOf, List.foldl_cons, List.foldl_nil, Act.put, List.setIfInBounds_toArray, List.set_cons_zero, List.set_cons_succ] at hK ⊢
        rw [if_pos (by rfl)]
        refine wp_store_mid 28 (.tmp 8) (.tmp 23) rfl Y 0 #[.int .i64 age, .int .i64 type, .int .u32 lid, .int .u32 adv, .int .i64 seq, .slice p5 links.length c5, .int .u32 mask, .slice p7 routers.length c7, .int .i64 cost] h8 rfl (hb.there 0 9 (Nat.le_refl 9)) lsaInfoR (lsa_one _ _ _ _ _ _ _ _ _ (slice_one _ _ _) (slice_one _ _ _)) ?_
        have hs9 : Keeps (fun i => i = Y) W (W.setCells Y 0 [.int .i64 age, .int .i64 type, .int .u32 lid, .int .u32 adv, .int .i64 seq, .slice p5 links.length c5, .int .u32 mask, .slice p7 routers.length c7, .int .i64 cost]) := Keeps.setCells (F := fun i => i = Y) (.inl rfl) _ _ _ (Keeps.refl _ _)
        refine hK.out _ (hS.trans' hs9 (fun i e => .inr (by subst e; exact hlo))) ⟨fun e => ?_, fun _ => ⟨Y, h8, hlo, fun e => absurd (show true = false from e) (by decide), fun _ => (((((((((hb.put 0 _).put 1 _).put 2 _).put 3 _).put 4 _).put 5 _).put 6 _).put 7 _).put 8 _)⟩, hG.2.2.1, fun _ => d3⟩
        obtain ⟨X', h7, hlo7, hb70, hb71, hne⟩ := hG.1 e
        exact ⟨X', h7, hlo7, fun e2 => (hb70 e2).keep hs9 (fun f => hne d3 Y h8 f), fun e2 => (hb71 e2).keep hs9 (fun f => hne d3 Y h8 f), hne⟩
    · intro f W hG hS
      obtain ⟨X, h7, hloX, -, hbX, hne⟩ := hG.1 rfl
      obtain ⟨Y, h8, hloY, -, hbY⟩ := hG.2.1 rfl
      have hXY := Lib.hid (hne rfl Y h8)
      have hX := Lib.hid (hbX rfl); have hY := Lib.hid (hbY rfl)
      simp only [actOf, List.foldl_cons, List.foldl_nil, Act.put, List.setIfInBounds_toArray, List.set_cons_zero, List.set_cons_succ]
      rw [h7, h8]
      have hS' := Lib.hid hS; have hloX' := Lib.hid hloX; have hloY' := Lib.hid hloY
      clear hG h7 h8 hbX hbY hne hS hloX hloY f hHeld
      refine NoPanic.normal ?_
      have hcx0 := hX.out.cell 0 (.int .i64 age) rfl
      have hfx0 := hX.out.frozen 0
      have hY2 := hY.out.keep ((Keeps.refl (fun k => k = X) W).setCell (p := ⟨X, 0, none⟩) (.inl rfl) (.int .i64 (ax : Nat))) (fun e => hXY.out e.symm)
      have hcy0 := hY2.cell 0 (.int .i64 age) rfl
      have hfy0 := hY2.frozen 0
      obtain ⟨W3, hW3⟩ : ∃ W3, W3 = (W.setCell ⟨X, 0, none⟩ (.int .i64 (ax : Nat))).setCell ⟨Y, 0, none⟩ (.int .i64 (ay : Nat)) := ⟨_, rfl⟩
      have hk13 : Keeps (fun _ => False) w1 W3 := by rw [hW3]; exact (hS'.out.setCell (.inr hloX'.out) _).setCell (.inr hloY'.out) _
      have hX3 : Hid (BlkAt W3 X 28 [.int .i64 (ax : Nat), .int .i64 type, .int .u32 lid, .int .u32 adv, .int .i64 seq, .slice p5 links.length c5, .int .u32 mask, .slice p7 routers.length c7, .int .i64 cost]) := Lib.hid (by
        rw [hW3]
        exact (hX.out.put 0 (.int .i64 (ax : Nat))).keep ((Keeps.refl (fun k => k = Y) _).setCell (p := ⟨Y, 0, none⟩) (.inl rfl) _) hXY.out)
      have hY3 : Hid (BlkAt W3 Y 28 [.int .i64 (ay : Nat), .int .i64 type, .int .u32 lid, .int .u32 adv, .int .i64 seq, .slice p5 links.length c5, .int .u32 mask, .slice p7 routers.length c7, .int .i64 cost]) := Lib.hid (by rw [hW3]; exact hY2.put 0 _)
      have hL3 := Lib.hid (hL2.out.keep hk13); have hR3 := Lib.hid (hR2.out.keep hk13); have hK3 := Lib.hid (hK1.out.trans hk13)
      have hW3' := Lib.hid hW3
      clear hW3 hk13 hY2 hX hY hL2 hR2 hS' hA1 hK1
      go_upto_region 5 with fail
      rw [← hW3'.out]
      clear hcx0 hfx0 hcy0 hfy0 hW3' hU hV' hax hay hloX' hloY'
      obtain ⟨D, hD⟩ : ∃ D, restB ⟨(ax : Int), type, lid, adv, seq, links, mask, routers, cost⟩ = D := ⟨_, rfl⟩
      have hD2 : restB ⟨(ay : Int), type, lid, adv, seq, links, mask, routers, cost⟩ = D := hD
      obtain ⟨T, I, V, S, C, Ln, hHd⟩ : ∃ (T : Int) (I V : Nat) (S : Int) (C : Nat) (Ln : Int), ∀ q, headR D q = ⟨q, T, I, V, S, C, Ln⟩ := ⟨_, _, _, _, _, _, fun q => rfl⟩
      obtain ⟨PX, hPX⟩ : ∃ PX, putB ⟨(ax : Int), type, lid, adv, seq, links, mask, routers, cost⟩ = PX := ⟨_, rfl⟩
      obtain ⟨PY, hPY⟩ : ∃ PY, putB ⟨(ay : Int), type, lid, adv, seq, links, mask, routers, cost⟩ = PY := ⟨_, rfl⟩
      have hdX : Hid (PX.drop 2 = D) := Lib.hid (by rw [← hPX, putB_drop, hD])
      have hdY : Hid (PY.drop 2 = D) := Lib.hid (by rw [← hPY, putB_drop, hD2])
      have hHX : Hid (headOf PX = ⟨((ax : Nat) : Int), T, I, V, S, C, Ln⟩) := Lib.hid (by rw [← hPX, headOf_put, hD, hHd, show lo64 (ax : Int) % 65536 = ax from age_back ax hax1])
      have hHY : Hid (headOf PY = ⟨((ay : Nat) : Int), T, I, V, S, C, Ln⟩) := Lib.hid (by rw [← hPY, headOf_put, hD2, hHd, show lo64 (ay : Int) % 65536 = ay from age_back ay hay1])
      have hlX : 24 ≤ PX.length ∧ PX.length ≤ 504 := by
        have h1 := canB_lens hcx.out
        have h2 := tellB_len (l := ⟨(ax : Int), type, lid, adv, seq, links, mask, routers, cost⟩) h1.1 h1.2
        rw [← hPX, putB_len]; omega
      have hlY : 24 ≤ PY.length ∧ PY.length ≤ 504 := by
        have h1 := canB_lens hcy.out
        have h2 := tellB_len (l := ⟨(ay : Int), type, lid, adv, seq, links, mask, routers, cost⟩) h1.1 h1.2
        rw [← hPY, putB_len]; omega
      have hlX' := Lib.hid hlX; have hlY' := Lib.hid hlY
      have hPX' := Lib.hid hPX; have hPY' := Lib.hid hPY
      clear hD hD2 hHd hPX hPY hlX hlY
      go_wp2_with ((with_reducible refine at_slot 35 ?_); refine wpList_load_mid rfl 28 (.tmp 7) rfl X 0 rfl [.int .i64 (ax : Nat), .int .i64 type, .int .u32 lid, .int .u32 adv, .int .i64 seq, .slice p5 links.length c5, .int .u32 mask, .slice p7 routers.length c7, .int .i64 cost] _ hX3.out.range Try.underlying28 rfl lsaInfoR ?_)
      refine (lwTo_any (ax : Nat) type seq cost lid adv mask links routers p5 p7 c5 c7 _ hL3 hR3 hll hrl).mono ?_
      rintro e w4 ⟨⟨u5, v5, u7, v7, rfl, tl, tr⟩, k4⟩
      have tl' := Lib.hid tl; have tr' := Lib.hid tr; have k4' := Lib.hid k4
      clear tl tr k4
      go_wp2_with fail
      refine (lsPut_yes (ax : Nat) type seq cost lid adv mask links routers u5 u7 v5 v7 _ tl' tr' (Lib.hid hok.out.links) (Lib.hid hok.out.routers) hok.out.id hok.out.adv hok.out.mask hcx).mono ?_
      rintro e w5 ⟨pX, cX, rfl, obX, k5⟩
      rw [hPX'.out] at obX ⊢
      have k35 := k4'.out.trans k5
      have hX5 := Lib.hid (hX3.out.keep k35 (fun f => f)); have hY5 := Lib.hid (hY3.out.keep k35 (fun f => f)); have hL5 := Lib.hid (hL3.out.keep k35); have hR5 := Lib.hid (hR3.out.keep k35); have hK5 := Lib.hid (hK3.out.trans k35)
      obtain ⟨px', cx', epx, -, hcX, hrX⟩ := obX.bytes
      obtain ⟨gX, oX, epx2, hrX2⟩ := hrX (by have := hlX'.out; omega)
      injection epx with e1 e2 e3
      subst e1; subst e3; subst epx2
      have hrX5 := Lib.hid hrX2
      clear e2 hrX hrX2 obX k35 k5 k4' tl' tr' hX3 hY3 hL3 hR3 hK3 hPX'
      go_wp2_with ((with_reducible refine at_slot 41 ?_); refine wpList_load_mid rfl 28 (.tmp 8) rfl Y 0 rfl [.int .i64 (ay : Nat), .int .i64 type, .int .u32 lid, .int .u32 adv, .int .i64 seq, .slice p5 links.length c5, .int .u32 mask, .slice p7 routers.length c7, .int .i64 cost] _ hY5.out.range Try.underlying28 rfl lsaInfoR ?_)
      refine (lwTo_any (ay : Nat) type seq cost lid adv mask links routers p5 p7 c5 c7 _ hL5 hR5 hll hrl).mono ?_
      rintro e w6 ⟨⟨u5, v5, u7, v7, rfl, tl, tr⟩, k6⟩
      have tl' := Lib.hid tl; have tr' := Lib.hid tr; have k6' := Lib.hid k6
      clear tl tr k6
      go_wp2_with fail
      refine (lsPut_yes (ay : Nat) type seq cost lid adv mask links routers u5 u7 v5 v7 _ tl' tr' (Lib.hid hok.out.links) (Lib.hid hok.out.routers) hok.out.id hok.out.adv hok.out.mask hcy).mono ?_
      rintro e w7 ⟨pY, cY, rfl, obY, k7⟩
      rw [hPY'.out] at obY ⊢
      have k57 := k6'.out.trans k7
      have hX7 := Lib.hid (hX5.out.keep k57 (fun f => f)); have hY7 := Lib.hid (hY5.out.keep k57 (fun f => f)); have hL7 := Lib.hid (hL5.out.keep k57); have hR7 := Lib.hid (hR5.out.keep k57); have hK7 := Lib.hid (hK5.out.trans k57); have hrX7 := Lib.hid (k57.rangeAt hrX5.out (fun f => f))
      obtain ⟨py', cy', epy, -, hcY, hrY⟩ := obY.bytes
      obtain ⟨gY, oY, epy2, hrY2⟩ := hrY (by have := hlY'.out; omega)
      injection epy with e1 e2 e3
      subst e1; subst e3; subst epy2
      have hrY7 := Lib.hid hrY2
      clear e2 hrY hrY2 obY k57 k7 k6' tl' tr' hX5 hY5 hL5 hR5 hK5 hPY' hrX5
      have i1 : (2 : Int) ≤ PX.length := by have := hlX'.out; omega
      have i2 : (2 : Int) ≤ PY.length := by have := hlY'.out; omega
      have i3 : ¬ cX = 2 := by have := hlX'.out; omega
      have i4 : ¬ cY = 2 := by have := hlY'.out; omega
      have i5 : 2 ≤ cX := by have := hlX'.out; omega
      have i6 : 2 ≤ cY := by have := hlY'.out; omega
      have hconvX : Hid (∀ W', Keeps (fun _ => False) w7 W' → (convert 29 9 (.slice (some ⟨gX, oX + 2, none⟩) (PX.length - 2) (cX - 2))).run Try.prog W' = .ok (.string ⟨D.toArray⟩) W') := Lib.hid (fun W' s => by
        have := conv_str gX (oX + 2) (cX - 2) (PX.drop 2) W' (by
          have h0 := range_part (s.rangeAt hrX7.out (fun f => f)) 2 (PX.length - 2)
          rwa [List.take_of_length_le (by rw [List.length_drop]; omega)] at h0)
        rw [List.length_drop, hdX.out] at this; exact this)
      have hconvY : Hid (∀ W', Keeps (fun _ => False) w7 W' → (convert 29 9 (.slice (some ⟨gY, oY + 2, none⟩) (PY.length - 2) (cY - 2))).run Try.prog W' = .ok (.string ⟨D.toArray⟩) W') := Lib.hid (fun W' s => by
        have := conv_str gY (oY + 2) (cY - 2) (PY.drop 2) W' (by
          have h0 := range_part (s.rangeAt hrY7.out (fun f => f)) 2 (PY.length - 2)
          rwa [List.take_of_length_le (by rw [List.length_drop]; omega)] at h0)
        rw [List.length_drop, hdY.out] at this; exact this)
      go_upto_region 7 with fail
      refine wp_region_noPanic ?_
      refine wp_region_held_drew (S := (fun W => Keeps (fun _ => False) w7 W)) (by kernel_rfl) (((Keeps.refl (fun _ => False) _).drew)) (fun hHeld => ?_)
      refine stepL 0 rfl (by kernel_rfl) (fun K hK => ?_)
      go_simp
      (refine (lwPuts_any _).mono ?_; rintro e w8 ⟨rfl, k8⟩)
      go_wp2_with fail
      refine hK.out _ _ ((hHeld.trans k8)) (fun hHeld => ?_)
      clear hK K
      try simp only [Act.put, List.setIfInBounds_toArray, List.set_cons_zero, List.set_cons_succ]
      refine takeL 1 (v := ?_) rfl (by kernel_rfl) (by kernel_rfl) (by kernel_rfl) (fun _ _ _ h => h) (Or.inl ⟨by rfl, ?_⟩) (by assumption) ?_
      rotate_left
      · (intro wS hSw; go_simp; try with_reducible rfl)
      try simp only [Act.put, List.setIfInBounds_toArray, List.set_cons_zero, List.set_cons_succ]
      refine takeL 2 (v := ?_) rfl (by kernel_rfl) (by kernel_rfl) (by kernel_rfl) (fun _ _ _ h => h) (Or.inl ⟨by rfl, ?_⟩) (by assumption) ?_
      rotate_left
      · (intro wS hSw; go_simp; try with_reducible rfl)
      try simp only [Act.put, List.setIfInBounds_toArray, List.set_cons_zero, List.set_cons_succ]
      refine takeL 3 (v := ?_) rfl (by kernel_rfl) (by kernel_rfl) (by kernel_rfl) (fun _ _ _ h => h) (Or.inl ⟨by rfl, ?_⟩) (by assumption) ?_
      rotate_left
      · (intro wS hSw; go_simp; try with_reducible rfl)
      try simp only [Act.put, List.setIfInBounds_toArray, List.set_cons_zero, List.set_cons_succ]
      refine takeL 4 (v := ?_) rfl (by kernel_rfl) (by kernel_rfl) (by kernel_rfl) (fun _ _ _ h => h) (Or.inl ⟨by rfl, ?_⟩) (by assumption) ?_
      rotate_left
      · (intro wS hSw; go_simp; try with_reducible rfl)
      try simp only [Act.put, List.setIfInBounds_toArray, List.set_cons_zero, List.set_cons_succ]
      refine takeL 5 (v := ?_) rfl (by kernel_rfl) (by kernel_rfl) (by kernel_rfl) (fun _ _ _ h => h) (Or.inl ⟨by rfl, ?_⟩) (by assumption) ?_
      rotate_left
      · (intro wS hSw; go_simp; try with_reducible rfl)
      try simp only [Act.put, List.setIfInBounds_toArray, List.set_cons_zero, List.set_cons_succ]
      refine takeL 6 (v := ?_) rfl (by kernel_rfl) (by kernel_rfl) (by kernel_rfl) (fun _ _ _ h => h) (Or.inl ⟨by rfl, ?_⟩) (by assumption) ?_
      rotate_left
      · (intro wS hSw; go_simp; try with_reducible rfl)
      try simp only [Act.put, List.setIfInBounds_toArray, List.set_cons_zero, List.set_cons_succ]
      refine takeL 7 (v := ?_) rfl (by kernel_rfl) (by kernel_rfl) (by kernel_rfl) (fun _ _ _ h => h) (Or.inl ⟨by rfl, ?_⟩) (by assumption) ?_
      rotate_left
      · (intro wS hSw; go_simp; try with_reducible rfl)
      try simp only [Act.put, List.setIfInBounds_toArray, List.set_cons_zero, List.set_cons_succ]
      refine takeL 8 (v := ?_) rfl (by kernel_rfl) (by kernel_rfl) (by kernel_rfl) (fun _ _ _ h => h) (Or.inl ⟨by rfl, ?_⟩) (by assumption) ?_
      rotate_left
      · (intro wS hSw; go_simp; try with_reducible rfl)
      try simp only [Act.put, List.setIfInBounds_toArray, List.set_cons_zero, List.set_cons_succ]
      refine takeL 9 (v := ?_) rfl (by kernel_rfl) (by kernel_rfl) (by kernel_rfl) (fun _ _ _ h => h) (Or.inl ⟨by rfl, ?_⟩) (by assumption) ?_
      rotate_left
      · (intro wS hSw; go_simp; try with_reducible rfl)
      try simp only [Act.put, List.setIfInBounds_toArray, List.set_cons_zero, List.set_cons_succ]
      refine takeL 10 (v := ?_) rfl (by kernel_rfl) (by kernel_rfl) (by kernel_rfl) (fun _ _ _ h => h) (Or.inl ⟨by rfl, ?_⟩) (by assumption) ?_
      rotate_left
      · (intro wS hSw; go_simp; try with_reducible rfl)
      try simp only [Act.put, List.setIfInBounds_toArray, List.set_cons_zero, List.set_cons_succ]
      refine takeL 11 (v := ?_) rfl (by kernel_rfl) (by kernel_rfl) (by kernel_rfl) (fun _ _ _ h => h) (Or.inl ⟨by rfl, ?_⟩) (by assumption) ?_
      rotate_left
      · (intro wS hSw; go_simp; try with_reducible rfl)
      try simp only [Act.put, List.setIfInBounds_toArray, List.set_cons_zero, List.set_cons_succ]
      refine takeL 12 (v := ?_) rfl (by kernel_rfl) (by kernel_rfl) (by kernel_rfl) (fun _ _ _ h => h) (Or.inl ⟨by rfl, ?_⟩) (by assumption) ?_
      rotate_left
      · (intro wS hSw; go_simp; try with_reducible rfl)
      try simp only [Act.put, List.setIfInBounds_toArray, List.set_cons_zero, List.set_cons_succ]
      refine takeL 13 rfl (by kernel_rfl) (by kernel_rfl) (by kernel_rfl) (fun _ _ _ h => h) (yieldsIf_conv (by rfl) 29 9 (.tmp 58) rfl _ (.string ⟨D.toArray⟩) rfl (fun W' s => hconvX.out W' s)) (by assumption) ?_
      try simp only [Act.put, List.setIfInBounds_toArray, List.set_cons_zero, List.set_cons_succ]
      refine takeL 14 (v := ?_) rfl (by kernel_rfl) (by kernel_rfl) (by kernel_rfl) (fun _ _ _ h => h) (Or.inl ⟨by rfl, ?_⟩) (by assumption) ?_
      rotate_left
      · (intro wS hSw; go_simp; try with_reducible rfl)
      try simp only [Act.put, List.setIfInBounds_toArray, List.set_cons_zero, List.set_cons_succ]
      refine takeL 15 (v := ?_) rfl (by kernel_rfl) (by kernel_rfl) (by kernel_rfl) (fun _ _ _ h => h) (Or.inl ⟨by rfl, ?_⟩) (by assumption) ?_
      rotate_left
      · (intro wS hSw; go_simp; try with_reducible rfl)
      try simp only [Act.put, List.setIfInBounds_toArray, List.set_cons_zero, List.set_cons_succ]
      refine takeL 16 rfl (by kernel_rfl) (by kernel_rfl) (by kernel_rfl) (fun _ _ _ h => h) (yieldsIf_conv (by rfl) 29 9 (.tmp 61) rfl _ (.string ⟨D.toArray⟩) rfl (fun W' s => hconvY.out W' s)) (by assumption) ?_
      try simp only [Act.put, List.setIfInBounds_toArray, List.set_cons_zero, List.set_cons_succ]
      refine takeL 17 (v := ?_) rfl (by kernel_rfl) (by kernel_rfl) (by kernel_rfl) (fun _ _ _ h => h) (Or.inl ⟨by rfl, ?_⟩) (by assumption) ?_
      rotate_left
      · (intro wS hSw; go_simp; try with_reducible rfl)
      try simp only [Act.put, List.setIfInBounds_toArray, List.set_cons_zero, List.set_cons_succ]
      refine takeL 18 (v := ?_) rfl (by kernel_rfl) (by kernel_rfl) (by kernel_rfl) (fun _ _ _ h => h) (Or.inl ⟨by rfl, ?_⟩) (by assumption) ?_
      rotate_left
      · (intro wS hSw; go_simp; try with_reducible rfl)
      try simp only [Act.put, List.setIfInBounds_toArray, List.set_cons_zero, List.set_cons_succ]
      refine wpAnyH_done (by kernel_rfl) (NoPanic.normal ?_) _
      have hH8 := Lib.hid hHeld
      clear hHeld hconvX hconvY i1 i2 i3 i4 i5 i6 k8 hdX hdY
      have hX8 := Lib.hid (hX7.out.keep hH8.out (fun f => f)); have hY8 := Lib.hid (hY7.out.keep hH8.out (fun f => f)); have hL8 := Lib.hid (hL7.out.keep hH8.out); have hR8 := Lib.hid (hR7.out.keep hH8.out); have hK8 := Lib.hid (hK7.out.trans hH8.out); have hrX8 := Lib.hid (hH8.out.rangeAt hrX7.out (fun f => f)); have hrY8 := Lib.hid (hH8.out.rangeAt hrY7.out (fun f => f))
      clear hX7 hY7 hL7 hR7 hK7 hrX7 hrY7 hH8
      go_wp2_with fail
      refine (lsHead_yes gX oX cX PX (by have := hlX'.out; omega) (by have := hlX'.out; omega) hcX _ hrX8).mono ?_
      rintro e w9 ⟨rfl, k9⟩
      rw [hHX.out]
      obtain ⟨W9, hW9⟩ : ∃ W9, W9 = w9.alloc (.cells #[.int .i64 (ax : Nat), .int .i64 T, .int .u32 I, .int .u32 V, .int .i64 S, .int .u16 C, .int .i64 Ln] 45) := ⟨_, rfl⟩
      have k9' : Keeps (fun _ => False) w8 W9 := by rw [hW9]; exact k9.alloc _
      have hP9 : Hid (BlkAt W9 w9.heap.size 45 [.int .i64 (ax : Nat), .int .i64 T, .int .u32 I, .int .u32 V, .int .i64 S, .int .u16 C, .int .i64 Ln]) := Lib.hid (by rw [hW9]; exact BlkAt.new w9 45 [.int .i64 (ax : Nat), .int .i64 T, .int .u32 I, .int .u32 V, .int .i64 S, .int .u16 C, .int .i64 Ln])
      have hX9 := Lib.hid (hX8.out.keep k9' (fun f => f)); have hY9 := Lib.hid (hY8.out.keep k9' (fun f => f)); have hL9 := Lib.hid (hL8.out.keep k9'); have hR9 := Lib.hid (hR8.out.keep k9'); have hK9 := Lib.hid (hK8.out.trans k9'); have hrY9 := Lib.hid (k9'.rangeAt hrY8.out (fun f => f))
      have hW9' := Lib.hid hW9
      clear k9 k9' hX8 hY8 hL8 hR8 hK8 hrX8 hrY8 hHX hW9
      unfold headV
      simp only
      go_upto_region 10 with ((with_reducible refine at_store 13 ?_); refine wpList_store_new rfl 45 (.tmp 13) (.tmp 68) rfl _ _ rfl rfl headInfo rfl (head_one _ _ _ _ _ _ _) ?_)
      rw [← hW9'.out]
      clear hW9'
      go_wp2_with fail
      refine (lsHead_yes gY oY cY PY (by have := hlY'.out; omega) (by have := hlY'.out; omega) hcY _ hrY9).mono ?_
      rintro e w10 ⟨rfl, k10⟩
      rw [hHY.out]
      obtain ⟨WA, hWA⟩ : ∃ WA, WA = w10.alloc (.cells #[.int .i64 (ay : Nat), .int .i64 T, .int .u32 I, .int .u32 V, .int .i64 S, .int .u16 C, .int .i64 Ln] 45) := ⟨_, rfl⟩
      have kA : Keeps (fun _ => False) W9 WA := by rw [hWA]; exact k10.alloc _
      have hPA := Lib.hid (hP9.out.keep kA (fun f => f))
      have hQA : Hid (BlkAt WA w10.heap.size 45 [.int .i64 (ay : Nat), .int .i64 T, .int .u32 I, .int .u32 V, .int .i64 S, .int .u16 C, .int .i64 Ln]) := Lib.hid (by rw [hWA]; exact BlkAt.new w10 45 [.int .i64 (ay : Nat), .int .i64 T, .int .u32 I, .int .u32 V, .int .i64 S, .int .u16 C, .int .i64 Ln])
      have hXA := Lib.hid (hX9.out.keep kA (fun f => f)); have hYA := Lib.hid (hY9.out.keep kA (fun f => f)); have hLA := Lib.hid (hL9.out.keep kA); have hRA := Lib.hid (hR9.out.keep kA); have hKA := Lib.hid (hK9.out.trans kA)
      have hWA' := Lib.hid hWA
      clear k10 kA hX9 hY9 hL9 hR9 hK9 hrY9 hHY hWA hP9 hlX' hlY' hcX hcY
      unfold headV
      simp only
      go_upto_region 11 with ((with_reducible refine at_store 15 ?_); refine wpList_store_new rfl 45 (.tmp 15) (.tmp 73) rfl _ _ rfl rfl headInfo rfl (head_one _ _ _ _ _ _ _) ?_)
      rw [← hWA'.out]
      clear hWA'
      go_wp2_with (first | ((with_reducible refine at_slot 75 ?_); refine wpList_load_mid rfl 45 (.tmp 13) rfl w9.heap.size 0 rfl [.int .i64 (ax : Nat), .int .i64 T, .int .u32 I, .int .u32 V, .int .i64 S, .int .u16 C, .int .i64 Ln] _ hPA.out.range Try.underlying45 rfl headInfo ?_) | ((with_reducible refine at_slot 76 ?_); refine wpList_load_mid rfl 45 (.tmp 15) rfl w10.heap.size 0 rfl [.int .i64 (ay : Nat), .int .i64 T, .int .u32 I, .int .u32 V, .int .i64 S, .int .u16 C, .int .i64 Ln] _ hQA.out.range Try.underlying45 rfl headInfo ?_))
      obtain ⟨n, hn⟩ : ∃ n, cmpH ax ay S S C C = n := ⟨_, rfl⟩
      have hlaw : Hid ((n == 1) = lawB ax ay) := Lib.hid (by rw [← hn, ← law_cmp ax ay S C]; rfl)
      refine (lsCompare_any ax ay C C I I V V T T S S Ln Ln n hax1 hay1 _ (Lib.hid hn)).mono ?_
      rintro e wB ⟨rfl, kB⟩
      have hXB := Lib.hid (hXA.out.keep kB (fun f => f)); have hYB := Lib.hid (hYA.out.keep kB (fun f => f)); have hLB := Lib.hid (hLA.out.keep kB); have hRB := Lib.hid (hRA.out.keep kB); have hKB := Lib.hid (hKA.out.trans kB)
      clear kB hXA hYA hLA hRA hKA hPA hQA hn
      have hal : Hid (alikeB ⟨(ax : Int), type, lid, adv, seq, links, mask, routers, cost⟩ ⟨(ay : Int), type, lid, adv, seq, links, mask, routers, cost⟩ = true) := Lib.hid (by
        have := alikeB_self ⟨(ax : Int), type, lid, adv, seq, links, mask, routers, cost⟩
        unfold alikeB at this ⊢; exact this)
      go_upto_region 12 with fail
      refine wp_region_noPanic ?_
      refine wp_region_held_drew (S := (fun W => Keeps (fun _ => False) wB W)) (by kernel_rfl) (((Keeps.refl (fun _ => False) _).drew)) (fun hHeld => ?_)
      refine takeL 0 (v := ?_) rfl (by kernel_rfl) (by kernel_rfl) (by kernel_rfl) (fun _ _ _ h => h) (Or.inl ⟨by rfl, ?_⟩) (by assumption) ?_
      rotate_left
      · (intro wS hSw; go_simp; try with_reducible rfl)
      try simp only [Act.put, List.setIfInBounds_toArray, List.set_cons_zero, List.set_cons_succ]
      refine takeL 1 (v := ?_) rfl (by kernel_rfl) (by kernel_rfl) (by kernel_rfl) (fun _ _ _ h => h) (Or.inl ⟨by rfl, ?_⟩) (by assumption) ?_
      rotate_left
      · (intro wS hSw; go_simp; try with_reducible rfl)
      try simp only [Act.put, List.setIfInBounds_toArray, List.set_cons_zero, List.set_cons_succ]
      refine takeL 2 (v := ?_) rfl (by kernel_rfl) (by kernel_rfl) (by kernel_rfl) (fun _ _ _ h => h) (Or.inl ⟨by rfl, ?_⟩) (by assumption) ?_
      rotate_left
      · (intro wS hSw; go_simp; try with_reducible rfl)
      try simp only [Act.put, List.setIfInBounds_toArray, List.set_cons_zero, List.set_cons_succ]
      refine takeL 3 (v := ?_) rfl (by kernel_rfl) (by kernel_rfl) (by kernel_rfl) (fun _ _ _ h => h) (Or.inl ⟨by rfl, ?_⟩) (by assumption) ?_
      rotate_left
      · (intro wS hSw; go_simp; try with_reducible rfl)
      try simp only [Act.put, List.setIfInBounds_toArray, List.set_cons_zero, List.set_cons_succ]
      refine takeL 4 (v := ?_) rfl (by kernel_rfl) (by kernel_rfl) (by kernel_rfl) (fun _ _ _ h => h) (Or.inl ⟨by rfl, ?_⟩) (by assumption) ?_
      rotate_left
      · (intro wS hSw; go_simp; try with_reducible rfl)
      try simp only [Act.put, List.setIfInBounds_toArray, List.set_cons_zero, List.set_cons_succ]
      refine takeL 5 (v := ?_) rfl (by kernel_rfl) (by kernel_rfl) (by kernel_rfl) (fun _ _ _ h => h) (Or.inl ⟨by rfl, ?_⟩) (by assumption) ?_
      rotate_left
      · (intro wS hSw; go_simp; try with_reducible rfl)
      try simp only [Act.put, List.setIfInBounds_toArray, List.set_cons_zero, List.set_cons_succ]
      refine takeL 6 (v := ?_) rfl (by kernel_rfl) (by kernel_rfl) (by kernel_rfl) (fun _ _ _ h => h) (Or.inl ⟨by rfl, ?_⟩) (by assumption) ?_
      rotate_left
      · (intro wS hSw; go_simp; try with_reducible rfl)
      try simp only [Act.put, List.setIfInBounds_toArray, List.set_cons_zero, List.set_cons_succ]
      refine takeL 7 rfl (by kernel_rfl) (by kernel_rfl) (by kernel_rfl) (fun _ _ _ h => h) (yieldsIf_load_mid (by rfl) 28 (.tmp 7) rfl X 0 rfl [.int .i64 (ax : Nat), .int .i64 type, .int .u32 lid, .int .u32 adv, .int .i64 seq, .slice p5 links.length c5, .int .u32 mask, .slice p7 routers.length c7, .int .i64 cost] _ (fun _ s => (hXB.out.keep s (fun f => f)).range) Try.underlying28 rfl lsaInfoR) (by assumption) ?_
      try simp only [Act.put, List.setIfInBounds_toArray, List.set_cons_zero, List.set_cons_succ]
      refine takeL 9 rfl (by kernel_rfl) (by kernel_rfl) (by kernel_rfl) (fun _ _ _ h => h) (yieldsIf_load_mid (by rfl) 28 (.tmp 8) rfl Y 0 rfl [.int .i64 (ay : Nat), .int .i64 type, .int .u32 lid, .int .u32 adv, .int .i64 seq, .slice p5 links.length c5, .int .u32 mask, .slice p7 routers.length c7, .int .i64 cost] _ (fun _ s => (hYB.out.keep s (fun f => f)).range) Try.underlying28 rfl lsaInfoR) (by assumption) ?_
      try simp only [Act.put, List.setIfInBounds_toArray, List.set_cons_zero, List.set_cons_succ]
      refine stepL 8 rfl (by kernel_rfl) (fun K hK => ?_)
      go_simp
      (refine (lwTo_any (ax : Nat) type seq cost lid adv mask links routers p5 p7 c5 c7 _ (Lib.hid (hLB.out.keep hHeld)) (Lib.hid (hRB.out.keep hHeld)) hll hrl).mono ?_; rintro e wC ⟨⟨u5, v5, u7, v7, rfl, tl1, tr1⟩, kC⟩)
      go_wp2_with fail
      refine hK.out _ _ ((hHeld.trans kC)) (fun hHeld => ?_)
      clear hK K
      try simp only [Act.put, List.setIfInBounds_toArray, List.set_cons_zero, List.set_cons_succ]
      refine stepL 10 rfl (by kernel_rfl) (fun K hK => ?_)
      go_simp
      (refine (lwTo_any (ay : Nat) type seq cost lid adv mask links routers p5 p7 c5 c7 _ (Lib.hid (hLB.out.keep hHeld)) (Lib.hid (hRB.out.keep hHeld)) hll hrl).mono ?_; rintro e wD ⟨⟨x5, y5, x7, y7, rfl, tl2, tr2⟩, kD⟩)
      go_wp2_with fail
      refine hK.out _ _ ((hHeld.trans kD)) (fun hHeld => ?_)
      clear hK K
      try simp only [Act.put, List.setIfInBounds_toArray, List.set_cons_zero, List.set_cons_succ]
      refine stepL 11 rfl (by kernel_rfl) (fun K hK => ?_)
      go_simp
      (refine (lsAlike_any (ax : Nat) type seq cost (ay : Nat) type seq cost lid adv mask lid adv mask links links routers routers u5 u7 x5 x7 v5 v7 y5 y7 true _ (by omega) (by omega) (by omega) (by omega) (Lib.hid (tl1.keep kD)) (Lib.hid tl2) (Lib.hid (tr1.keep kD)) (Lib.hid tr2) hal).mono ?_; rintro e wE ⟨rfl, kE⟩)
      go_wp2_with fail
      refine hK.out _ _ ((hHeld.trans kE)) (fun hHeld => ?_)
      clear hK K
      try simp only [Act.put, List.setIfInBounds_toArray, List.set_cons_zero, List.set_cons_succ]
      clear tl1 tr1 tl2 tr2
      refine takeL 12 (v := ?_) rfl (by kernel_rfl) (by kernel_rfl) (by kernel_rfl) (fun _ _ _ h => h) (Or.inl ⟨by rfl, ?_⟩) (by assumption) ?_
      rotate_left
      · (intro wS hSw; go_simp; try with_reducible rfl)
      try simp only [Act.put, List.setIfInBounds_toArray, List.set_cons_zero, List.set_cons_succ]
      refine takeL 13 (v := ?_) rfl (by kernel_rfl) (by kernel_rfl) (by kernel_rfl) (fun _ _ _ h => h) (Or.inl ⟨by rfl, ?_⟩) (by assumption) ?_
      rotate_left
      · (intro wS hSw; go_simp; try with_reducible rfl)
      try simp only [Act.put, List.setIfInBounds_toArray, List.set_cons_zero, List.set_cons_succ]
      refine takeL 14 (v := ?_) rfl (by kernel_rfl) (by kernel_rfl) (by kernel_rfl) (fun _ _ _ h => h) (Or.inl ⟨by rfl, ?_⟩) (by assumption) ?_
      rotate_left
      · (intro wS hSw; go_simp; try with_reducible rfl)
      try simp only [Act.put, List.setIfInBounds_toArray, List.set_cons_zero, List.set_cons_succ]
      have hlaw' := hlaw.out
      have hzx : Hid (∀ W', Keeps (fun _ => False) wB W' → W'.cell? ⟨X, 0, none⟩ = some (.int .i64 (ax : Nat))) := Lib.hid (fun W' s => (hXB.out.keep s (fun f => f)).cell 0 _ rfl)
      have hzy : Hid (∀ W', Keeps (fun _ => False) wB W' → W'.cell? ⟨Y, 0, none⟩ = some (.int .i64 (ay : Nat))) := Lib.hid (fun W' s => (hYB.out.keep s (fun f => f)).cell 0 _ rfl)
      by_cases hx : ax = 3600
      · by_cases hy : ay = 3600
        · skip
          have hv : lawB ax ay = false := by unfold lawB; simp [hx, hy]
          have hn1 : (n == 1) = false := by rw [hlaw', hv]
          clear hv hlaw'
          have ex : ((ax : Int) == 3600) = true := by rw [beq_iff_eq]; omega
          have ey : ((ay : Int) != 3600) = false := by rw [hy]; rfl
          clear hx hy
          refine takeL 15 (v := ?_) rfl (by kernel_rfl) (by kernel_rfl) (by kernel_rfl) (fun _ _ _ h => h) (Or.inl ⟨by rfl, ?_⟩) (by assumption) ?_
          rotate_left
          · (intro wS hSw; go_simp; try with_reducible rfl)
          try simp only [Act.put, List.setIfInBounds_toArray, List.set_cons_zero, List.set_cons_succ]
          refine takeL 16 (v := ?_) rfl (by kernel_rfl) (by kernel_rfl) (by kernel_rfl) (fun _ _ _ h => h) (Or.inl ⟨by rfl, ?_⟩) (by assumption) ?_
          rotate_left
          · (intro wS hSw; go_simp; try with_reducible rfl)
          try simp only [Act.put, List.setIfInBounds_toArray, List.set_cons_zero, List.set_cons_succ]
          refine takeL 17 rfl (by kernel_rfl) (by kernel_rfl) (by kernel_rfl) (fun _ _ _ h => h) (yieldsIf_load_cell (by rfl) 3 (.tmp 94) rfl X 0 rfl _ (fun W' s => hzx.out W' s) (fun w s => load_int w _ _ _ s)) (by assumption) ?_
          try simp only [Act.put, List.setIfInBounds_toArray, List.set_cons_zero, List.set_cons_succ]
          refine takeL 18 (v := ?_) rfl (by kernel_rfl) (by kernel_rfl) (by kernel_rfl) (fun _ _ _ h => h) (Or.inl ⟨by rfl, ?_⟩) (by assumption) ?_
          rotate_left
          · (intro wS hSw; go_simp; try with_reducible rfl)
          try simp only [Act.put, List.setIfInBounds_toArray, List.set_cons_zero, List.set_cons_succ]
          refine takeL 19 (v := ?_) rfl (by kernel_rfl) (by kernel_rfl) (by kernel_rfl) (fun _ _ _ h => h) (Or.inl ⟨by rfl, ?_⟩) (by assumption) ?_
          rotate_left
          · (intro wS hSw; go_simp; try with_reducible rfl)
          try simp only [Act.put, List.setIfInBounds_toArray, List.set_cons_zero, List.set_cons_succ]
          refine takeL 20 (v := ?_) rfl (by kernel_rfl) (by kernel_rfl) (by kernel_rfl) (fun _ _ _ h => h) (Or.inl ⟨by rfl, ?_⟩) (by assumption) ?_
          rotate_left
          · (intro wS hSw; go_simp; try with_reducible rfl)
          try simp only [Act.put, List.setIfInBounds_toArray, List.set_cons_zero, List.set_cons_succ]
          refine takeL 21 rfl (by kernel_rfl) (by kernel_rfl) (by kernel_rfl) (fun _ _ _ h => h) (yieldsIf_load_cell (by rfl) 3 (.tmp 98) rfl Y 0 rfl _ (fun W' s => hzy.out W' s) (fun w s => load_int w _ _ _ s)) (by assumption) ?_
          try simp only [Act.put, List.setIfInBounds_toArray, List.set_cons_zero, List.set_cons_succ]
          refine takeL 22 (v := ?_) rfl (by kernel_rfl) (by kernel_rfl) (by kernel_rfl) (fun _ _ _ h => h) (Or.inl ⟨by rfl, ?_⟩) (by assumption) ?_
          rotate_left
          · (intro wS hSw; go_simp; try with_reducible rfl)
          try simp only [Act.put, List.setIfInBounds_toArray, List.set_cons_zero, List.set_cons_succ]
          refine takeL 23 (v := ?_) rfl (by kernel_rfl) (by kernel_rfl) (by kernel_rfl) (fun _ _ _ h => h) (Or.inl ⟨by rfl, ?_⟩) (by assumption) ?_
          rotate_left
          · (intro wS hSw; go_simp; try with_reducible rfl)
          try simp only [Act.put, List.setIfInBounds_toArray, List.set_cons_zero, List.set_cons_succ]
          refine takeL 24 (v := ?_) rfl (by kernel_rfl) (by kernel_rfl) (by kernel_rfl) (fun _ _ _ h => h) (Or.inl ⟨by rfl, ?_⟩) (by assumption) ?_
          rotate_left
          · (intro wS hSw; go_simp; try with_reducible rfl)
          try simp only [Act.put, List.setIfInBounds_toArray, List.set_cons_zero, List.set_cons_succ]
          refine takeL 25 (v := ?_) rfl (by kernel_rfl) (by kernel_rfl) (by kernel_rfl) (fun _ _ _ h => h) (Or.inl ⟨by rfl, ?_⟩) (by assumption) ?_
          rotate_left
          · (intro wS hSw; go_simp; try with_reducible rfl)
          try simp only [Act.put, List.setIfInBounds_toArray, List.set_cons_zero, List.set_cons_succ]
          refine takeL 26 rfl (by kernel_rfl) (by kernel_rfl) (by kernel_rfl) (fun _ _ _ h => h) (yieldsIf_load_cell (by rfl) 3 (.tmp 103) rfl Y 0 rfl _ (fun W' s => hzy.out W' s) (fun w s => load_int w _ _ _ s)) (by assumption) ?_
          try simp only [Act.put, List.setIfInBounds_toArray, List.set_cons_zero, List.set_cons_succ]
          refine takeL 27 (v := ?_) rfl (by kernel_rfl) (by kernel_rfl) (by kernel_rfl) (fun _ _ _ h => h) (Or.inl ⟨by rfl, ?_⟩) (by assumption) ?_
          rotate_left
          · (intro wS hSw; go_simp; try with_reducible rfl)
          try simp only [Act.put, List.setIfInBounds_toArray, List.set_cons_zero, List.set_cons_succ]
          refine takeL 28 (v := ?_) rfl (by kernel_rfl) (by kernel_rfl) (by kernel_rfl) (fun _ _ _ h => h) (Or.inl ⟨by rfl, ?_⟩) (by assumption) ?_
          rotate_left
          · (intro wS hSw; go_simp; try with_reducible rfl)
          try simp only [Act.put, List.setIfInBounds_toArray, List.set_cons_zero, List.set_cons_succ]
          refine takeL 29 (v := undef) rfl (by kernel_rfl) (by kernel_rfl) (by kernel_rfl) (fun _ _ _ h => h) (Or.inr ⟨by rfl, rfl⟩) (by assumption) ?_
          try simp only [Act.put, List.setIfInBounds_toArray, List.set_cons_zero, List.set_cons_succ]
          refine takeL 30 (v := undef) rfl (by kernel_rfl) (by kernel_rfl) (by kernel_rfl) (fun _ _ _ h => h) (Or.inr ⟨by rfl, rfl⟩) (by assumption) ?_
          try simp only [Act.put, List.setIfInBounds_toArray, List.set_cons_zero, List.set_cons_succ]
          refine takeL 31 (v := undef) rfl (by kernel_rfl) (by kernel_rfl) (by kernel_rfl) (fun _ _ _ h => h) (Or.inr ⟨by rfl, rfl⟩) (by assumption) ?_
          try simp only [Act.put, List.setIfInBounds_toArray, List.set_cons_zero, List.set_cons_succ]
          refine takeL 32 (v := undef) rfl (by kernel_rfl) (by kernel_rfl) (by kernel_rfl) (fun _ _ _ h => h) (Or.inr ⟨by rfl, rfl⟩) (by assumption) ?_
          try simp only [Act.put, List.setIfInBounds_toArray, List.set_cons_zero, List.set_cons_succ]
          refine takeL 33 (v := undef) rfl (by kernel_rfl) (by kernel_rfl) (by kernel_rfl) (fun _ _ _ h => h) (Or.inr ⟨by rfl, rfl⟩) (by assumption) ?_
          try simp only [Act.put, List.setIfInBounds_toArray, List.set_cons_zero, List.set_cons_succ]
          refine takeL 34 (v := undef) rfl (by kernel_rfl) (by kernel_rfl) (by kernel_rfl) (fun _ _ _ h => h) (Or.inr ⟨by rfl, rfl⟩) (by assumption) ?_
          try simp only [Act.put, List.setIfInBounds_toArray, List.set_cons_zero, List.set_cons_succ]
          refine takeL 35 (v := ?_) rfl (by kernel_rfl) (by kernel_rfl) (by kernel_rfl) (fun _ _ _ h => h) (Or.inl ⟨by rfl, ?_⟩) (by assumption) ?_
          rotate_left
          · (intro wS hSw; go_simp; try with_reducible rfl)
          try simp only [Act.put, List.setIfInBounds_toArray, List.set_cons_zero, List.set_cons_succ]
          refine takeL 36 (v := ?_) rfl (by kernel_rfl) (by kernel_rfl) (by kernel_rfl) (fun _ _ _ h => h) (Or.inl ⟨by rfl, ?_⟩) (by assumption) ?_
          rotate_left
          · (intro wS hSw; go_simp; try with_reducible rfl)
          try simp only [Act.put, List.setIfInBounds_toArray, List.set_cons_zero, List.set_cons_succ]
          refine takeL 37 (v := ?_) rfl (by kernel_rfl) (by kernel_rfl) (by kernel_rfl) (fun _ _ _ h => h) (Or.inl ⟨by rfl, ?_⟩) (by assumption) ?_
          rotate_left
          · (intro wS hSw; go_simp; try with_reducible rfl)
          try simp only [Act.put, List.setIfInBounds_toArray, List.set_cons_zero, List.set_cons_succ]
          refine takeL 38 (v := ?_) rfl (by kernel_rfl) (by kernel_rfl) (by kernel_rfl) (fun _ _ _ h => h) (Or.inl ⟨by rfl, ?_⟩) (by assumption) ?_
          rotate_left
          · (intro wS hSw; go_simp; try with_reducible rfl)
          try simp only [Act.put, List.setIfInBounds_toArray, List.set_cons_zero, List.set_cons_succ]
          refine takeL 39 (v := ?_) rfl (by kernel_rfl) (by kernel_rfl) (by kernel_rfl) (fun _ _ _ h => h) (Or.inl ⟨by rfl, ?_⟩) (by assumption) ?_
          rotate_left
          · (intro wS hSw; go_simp; try with_reducible rfl)
          try simp only [Act.put, List.setIfInBounds_toArray, List.set_cons_zero, List.set_cons_succ]
          refine wpAnyH_done (by kernel_rfl) (NoPanic.normal ?_) _
          have hfin := Lib.hid (hKB.out.trans hHeld)
          clear hHeld
          go_wp2_with fail
          go_ret
          exact ⟨rfl, hfin.out⟩
        · skip
          have hv : lawB ax ay = true := by unfold lawB; simp [hx, hy]
          have hn1 : (n == 1) = true := by rw [hlaw', hv]
          clear hv hlaw'
          have ex : ((ax : Int) == 3600) = true := by rw [beq_iff_eq]; omega
          have ey : ((ay : Int) != 3600) = true := by rw [bne_iff_ne]; omega
          clear hx hy
          refine takeL 15 (v := ?_) rfl (by kernel_rfl) (by kernel_rfl) (by kernel_rfl) (fun _ _ _ h => h) (Or.inl ⟨by rfl, ?_⟩) (by assumption) ?_
          rotate_left
          · (intro wS hSw; go_simp; try with_reducible rfl)
          try simp only [Act.put, List.setIfInBounds_toArray, List.set_cons_zero, List.set_cons_succ]
          refine takeL 16 (v := ?_) rfl (by kernel_rfl) (by kernel_rfl) (by kernel_rfl) (fun _ _ _ h => h) (Or.inl ⟨by rfl, ?_⟩) (by assumption) ?_
          rotate_left
          · (intro wS hSw; go_simp; try with_reducible rfl)
          try simp only [Act.put, List.setIfInBounds_toArray, List.set_cons_zero, List.set_cons_succ]
          refine takeL 17 rfl (by kernel_rfl) (by kernel_rfl) (by kernel_rfl) (fun _ _ _ h => h) (yieldsIf_load_cell (by rfl) 3 (.tmp 94) rfl X 0 rfl _ (fun W' s => hzx.out W' s) (fun w s => load_int w _ _ _ s)) (by assumption) ?_
          try simp only [Act.put, List.setIfInBounds_toArray, List.set_cons_zero, List.set_cons_succ]
          refine takeL 18 (v := ?_) rfl (by kernel_rfl) (by kernel_rfl) (by kernel_rfl) (fun _ _ _ h => h) (Or.inl ⟨by rfl, ?_⟩) (by assumption) ?_
          rotate_left
          · (intro wS hSw; go_simp; try with_reducible rfl)
          try simp only [Act.put, List.setIfInBounds_toArray, List.set_cons_zero, List.set_cons_succ]
          refine takeL 19 (v := ?_) rfl (by kernel_rfl) (by kernel_rfl) (by kernel_rfl) (fun _ _ _ h => h) (Or.inl ⟨by rfl, ?_⟩) (by assumption) ?_
          rotate_left
          · (intro wS hSw; go_simp; try with_reducible rfl)
          try simp only [Act.put, List.setIfInBounds_toArray, List.set_cons_zero, List.set_cons_succ]
          refine takeL 20 (v := ?_) rfl (by kernel_rfl) (by kernel_rfl) (by kernel_rfl) (fun _ _ _ h => h) (Or.inl ⟨by rfl, ?_⟩) (by assumption) ?_
          rotate_left
          · (intro wS hSw; go_simp; try with_reducible rfl)
          try simp only [Act.put, List.setIfInBounds_toArray, List.set_cons_zero, List.set_cons_succ]
          refine takeL 21 rfl (by kernel_rfl) (by kernel_rfl) (by kernel_rfl) (fun _ _ _ h => h) (yieldsIf_load_cell (by rfl) 3 (.tmp 98) rfl Y 0 rfl _ (fun W' s => hzy.out W' s) (fun w s => load_int w _ _ _ s)) (by assumption) ?_
          try simp only [Act.put, List.setIfInBounds_toArray, List.set_cons_zero, List.set_cons_succ]
          refine takeL 22 (v := ?_) rfl (by kernel_rfl) (by kernel_rfl) (by kernel_rfl) (fun _ _ _ h => h) (Or.inl ⟨by rfl, ?_⟩) (by assumption) ?_
          rotate_left
          · (intro wS hSw; go_simp; try with_reducible rfl)
          try simp only [Act.put, List.setIfInBounds_toArray, List.set_cons_zero, List.set_cons_succ]
          refine takeL 23 (v := ?_) rfl (by kernel_rfl) (by kernel_rfl) (by kernel_rfl) (fun _ _ _ h => h) (Or.inl ⟨by rfl, ?_⟩) (by assumption) ?_
          rotate_left
          · (intro wS hSw; go_simp; try with_reducible rfl)
          try simp only [Act.put, List.setIfInBounds_toArray, List.set_cons_zero, List.set_cons_succ]
          refine takeL 24 (v := ?_) rfl (by kernel_rfl) (by kernel_rfl) (by kernel_rfl) (fun _ _ _ h => h) (Or.inl ⟨by rfl, ?_⟩) (by assumption) ?_
          rotate_left
          · (intro wS hSw; go_simp; try with_reducible rfl)
          try simp only [Act.put, List.setIfInBounds_toArray, List.set_cons_zero, List.set_cons_succ]
          refine takeL 25 (v := undef) rfl (by kernel_rfl) (by kernel_rfl) (by kernel_rfl) (fun _ _ _ h => h) (Or.inr ⟨by rfl, rfl⟩) (by assumption) ?_
          try simp only [Act.put, List.setIfInBounds_toArray, List.set_cons_zero, List.set_cons_succ]
          refine takeL 26 (v := undef) rfl (by kernel_rfl) (by kernel_rfl) (by kernel_rfl) (fun _ _ _ h => h) (Or.inr ⟨by rfl, rfl⟩) (by assumption) ?_
          try simp only [Act.put, List.setIfInBounds_toArray, List.set_cons_zero, List.set_cons_succ]
          refine takeL 27 (v := undef) rfl (by kernel_rfl) (by kernel_rfl) (by kernel_rfl) (fun _ _ _ h => h) (Or.inr ⟨by rfl, rfl⟩) (by assumption) ?_
          try simp only [Act.put, List.setIfInBounds_toArray, List.set_cons_zero, List.set_cons_succ]
          refine takeL 28 (v := undef) rfl (by kernel_rfl) (by kernel_rfl) (by kernel_rfl) (fun _ _ _ h => h) (Or.inr ⟨by rfl, rfl⟩) (by assumption) ?_
          try simp only [Act.put, List.setIfInBounds_toArray, List.set_cons_zero, List.set_cons_succ]
          refine takeL 29 (v := undef) rfl (by kernel_rfl) (by kernel_rfl) (by kernel_rfl) (fun _ _ _ h => h) (Or.inr ⟨by rfl, rfl⟩) (by assumption) ?_
          try simp only [Act.put, List.setIfInBounds_toArray, List.set_cons_zero, List.set_cons_succ]
          refine takeL 30 (v := undef) rfl (by kernel_rfl) (by kernel_rfl) (by kernel_rfl) (fun _ _ _ h => h) (Or.inr ⟨by rfl, rfl⟩) (by assumption) ?_
          try simp only [Act.put, List.setIfInBounds_toArray, List.set_cons_zero, List.set_cons_succ]
          refine takeL 31 (v := undef) rfl (by kernel_rfl) (by kernel_rfl) (by kernel_rfl) (fun _ _ _ h => h) (Or.inr ⟨by rfl, rfl⟩) (by assumption) ?_
          try simp only [Act.put, List.setIfInBounds_toArray, List.set_cons_zero, List.set_cons_succ]
          refine takeL 32 (v := undef) rfl (by kernel_rfl) (by kernel_rfl) (by kernel_rfl) (fun _ _ _ h => h) (Or.inr ⟨by rfl, rfl⟩) (by assumption) ?_
          try simp only [Act.put, List.setIfInBounds_toArray, List.set_cons_zero, List.set_cons_succ]
          refine takeL 33 (v := undef) rfl (by kernel_rfl) (by kernel_rfl) (by kernel_rfl) (fun _ _ _ h => h) (Or.inr ⟨by rfl, rfl⟩) (by assumption) ?_
          try simp only [Act.put, List.setIfInBounds_toArray, List.set_cons_zero, List.set_cons_succ]
          refine takeL 34 (v := undef) rfl (by kernel_rfl) (by kernel_rfl) (by kernel_rfl) (fun _ _ _ h => h) (Or.inr ⟨by rfl, rfl⟩) (by assumption) ?_
          try simp only [Act.put, List.setIfInBounds_toArray, List.set_cons_zero, List.set_cons_succ]
          refine takeL 35 (v := undef) rfl (by kernel_rfl) (by kernel_rfl) (by kernel_rfl) (fun _ _ _ h => h) (Or.inr ⟨by rfl, rfl⟩) (by assumption) ?_
          try simp only [Act.put, List.setIfInBounds_toArray, List.set_cons_zero, List.set_cons_succ]
          refine takeL 36 (v := ?_) rfl (by kernel_rfl) (by kernel_rfl) (by kernel_rfl) (fun _ _ _ h => h) (Or.inl ⟨by rfl, ?_⟩) (by assumption) ?_
          rotate_left
          · (intro wS hSw; go_simp; try with_reducible rfl)
          try simp only [Act.put, List.setIfInBounds_toArray, List.set_cons_zero, List.set_cons_succ]
          refine takeL 37 (v := ?_) rfl (by kernel_rfl) (by kernel_rfl) (by kernel_rfl) (fun _ _ _ h => h) (Or.inl ⟨by rfl, ?_⟩) (by assumption) ?_
          rotate_left
          · (intro wS hSw; go_simp; try with_reducible rfl)
          try simp only [Act.put, List.setIfInBounds_toArray, List.set_cons_zero, List.set_cons_succ]
          refine takeL 38 (v := ?_) rfl (by kernel_rfl) (by kernel_rfl) (by kernel_rfl) (fun _ _ _ h => h) (Or.inl ⟨by rfl, ?_⟩) (by assumption) ?_
          rotate_left
          · (intro wS hSw; go_simp; try with_reducible rfl)
          try simp only [Act.put, List.setIfInBounds_toArray, List.set_cons_zero, List.set_cons_succ]
          refine takeL 39 (v := ?_) rfl (by kernel_rfl) (by kernel_rfl) (by kernel_rfl) (fun _ _ _ h => h) (Or.inl ⟨by rfl, ?_⟩) (by assumption) ?_
          rotate_left
          · (intro wS hSw; go_simp; try with_reducible rfl)
          try simp only [Act.put, List.setIfInBounds_toArray, List.set_cons_zero, List.set_cons_succ]
          refine wpAnyH_done (by kernel_rfl) (NoPanic.normal ?_) _
          have hfin := Lib.hid (hKB.out.trans hHeld)
          clear hHeld
          go_wp2_with fail
          go_ret
          exact ⟨rfl, hfin.out⟩
      · by_cases hy : ay = 3600
        · skip
          have hv : lawB ax ay = false := by unfold lawB; simp [hx, hy]
          have hn1 : (n == 1) = false := by rw [hlaw', hv]
          clear hv hlaw'
          have ex : ((ax : Int) == 3600) = false := by rw [beq_eq_false_iff_ne]; omega
          have ey : ((ay : Int) != 3600) = false := by rw [hy]; rfl
          clear hx hy
          refine takeL 15 (v := ?_) rfl (by kernel_rfl) (by kernel_rfl) (by kernel_rfl) (fun _ _ _ h => h) (Or.inl ⟨by rfl, ?_⟩) (by assumption) ?_
          rotate_left
          · (intro wS hSw; go_simp; try with_reducible rfl)
          try simp only [Act.put, List.setIfInBounds_toArray, List.set_cons_zero, List.set_cons_succ]
          refine takeL 16 (v := ?_) rfl (by kernel_rfl) (by kernel_rfl) (by kernel_rfl) (fun _ _ _ h => h) (Or.inl ⟨by rfl, ?_⟩) (by assumption) ?_
          rotate_left
          · (intro wS hSw; go_simp; try with_reducible rfl)
          try simp only [Act.put, List.setIfInBounds_toArray, List.set_cons_zero, List.set_cons_succ]
          refine takeL 17 rfl (by kernel_rfl) (by kernel_rfl) (by kernel_rfl) (fun _ _ _ h => h) (yieldsIf_load_cell (by rfl) 3 (.tmp 94) rfl X 0 rfl _ (fun W' s => hzx.out W' s) (fun w s => load_int w _ _ _ s)) (by assumption) ?_
          try simp only [Act.put, List.setIfInBounds_toArray, List.set_cons_zero, List.set_cons_succ]
          refine takeL 18 (v := ?_) rfl (by kernel_rfl) (by kernel_rfl) (by kernel_rfl) (fun _ _ _ h => h) (Or.inl ⟨by rfl, ?_⟩) (by assumption) ?_
          rotate_left
          · (intro wS hSw; go_simp; try with_reducible rfl)
          try simp only [Act.put, List.setIfInBounds_toArray, List.set_cons_zero, List.set_cons_succ]
          refine takeL 19 (v := ?_) rfl (by kernel_rfl) (by kernel_rfl) (by kernel_rfl) (fun _ _ _ h => h) (Or.inl ⟨by rfl, ?_⟩) (by assumption) ?_
          rotate_left
          · (intro wS hSw; go_simp; try with_reducible rfl)
          try simp only [Act.put, List.setIfInBounds_toArray, List.set_cons_zero, List.set_cons_succ]
          refine takeL 20 (v := undef) rfl (by kernel_rfl) (by kernel_rfl) (by kernel_rfl) (fun _ _ _ h => h) (Or.inr ⟨by rfl, rfl⟩) (by assumption) ?_
          try simp only [Act.put, List.setIfInBounds_toArray, List.set_cons_zero, List.set_cons_succ]
          refine takeL 21 (v := undef) rfl (by kernel_rfl) (by kernel_rfl) (by kernel_rfl) (fun _ _ _ h => h) (Or.inr ⟨by rfl, rfl⟩) (by assumption) ?_
          try simp only [Act.put, List.setIfInBounds_toArray, List.set_cons_zero, List.set_cons_succ]
          refine takeL 22 (v := undef) rfl (by kernel_rfl) (by kernel_rfl) (by kernel_rfl) (fun _ _ _ h => h) (Or.inr ⟨by rfl, rfl⟩) (by assumption) ?_
          try simp only [Act.put, List.setIfInBounds_toArray, List.set_cons_zero, List.set_cons_succ]
          refine takeL 23 (v := ?_) rfl (by kernel_rfl) (by kernel_rfl) (by kernel_rfl) (fun _ _ _ h => h) (Or.inl ⟨by rfl, ?_⟩) (by assumption) ?_
          rotate_left
          · (intro wS hSw; go_simp; try with_reducible rfl)
          try simp only [Act.put, List.setIfInBounds_toArray, List.set_cons_zero, List.set_cons_succ]
          refine takeL 24 (v := ?_) rfl (by kernel_rfl) (by kernel_rfl) (by kernel_rfl) (fun _ _ _ h => h) (Or.inl ⟨by rfl, ?_⟩) (by assumption) ?_
          rotate_left
          · (intro wS hSw; go_simp; try with_reducible rfl)
          try simp only [Act.put, List.setIfInBounds_toArray, List.set_cons_zero, List.set_cons_succ]
          refine takeL 25 (v := ?_) rfl (by kernel_rfl) (by kernel_rfl) (by kernel_rfl) (fun _ _ _ h => h) (Or.inl ⟨by rfl, ?_⟩) (by assumption) ?_
          rotate_left
          · (intro wS hSw; go_simp; try with_reducible rfl)
          try simp only [Act.put, List.setIfInBounds_toArray, List.set_cons_zero, List.set_cons_succ]
          refine takeL 26 rfl (by kernel_rfl) (by kernel_rfl) (by kernel_rfl) (fun _ _ _ h => h) (yieldsIf_load_cell (by rfl) 3 (.tmp 103) rfl Y 0 rfl _ (fun W' s => hzy.out W' s) (fun w s => load_int w _ _ _ s)) (by assumption) ?_
          try simp only [Act.put, List.setIfInBounds_toArray, List.set_cons_zero, List.set_cons_succ]
          refine takeL 27 (v := ?_) rfl (by kernel_rfl) (by kernel_rfl) (by kernel_rfl) (fun _ _ _ h => h) (Or.inl ⟨by rfl, ?_⟩) (by assumption) ?_
          rotate_left
          · (intro wS hSw; go_simp; try with_reducible rfl)
          try simp only [Act.put, List.setIfInBounds_toArray, List.set_cons_zero, List.set_cons_succ]
          refine takeL 28 (v := ?_) rfl (by kernel_rfl) (by kernel_rfl) (by kernel_rfl) (fun _ _ _ h => h) (Or.inl ⟨by rfl, ?_⟩) (by assumption) ?_
          rotate_left
          · (intro wS hSw; go_simp; try with_reducible rfl)
          try simp only [Act.put, List.setIfInBounds_toArray, List.set_cons_zero, List.set_cons_succ]
          refine takeL 29 (v := undef) rfl (by kernel_rfl) (by kernel_rfl) (by kernel_rfl) (fun _ _ _ h => h) (Or.inr ⟨by rfl, rfl⟩) (by assumption) ?_
          try simp only [Act.put, List.setIfInBounds_toArray, List.set_cons_zero, List.set_cons_succ]
          refine takeL 30 (v := undef) rfl (by kernel_rfl) (by kernel_rfl) (by kernel_rfl) (fun _ _ _ h => h) (Or.inr ⟨by rfl, rfl⟩) (by assumption) ?_
          try simp only [Act.put, List.setIfInBounds_toArray, List.set_cons_zero, List.set_cons_succ]
          refine takeL 31 (v := undef) rfl (by kernel_rfl) (by kernel_rfl) (by kernel_rfl) (fun _ _ _ h => h) (Or.inr ⟨by rfl, rfl⟩) (by assumption) ?_
          try simp only [Act.put, List.setIfInBounds_toArray, List.set_cons_zero, List.set_cons_succ]
          refine takeL 32 (v := undef) rfl (by kernel_rfl) (by kernel_rfl) (by kernel_rfl) (fun _ _ _ h => h) (Or.inr ⟨by rfl, rfl⟩) (by assumption) ?_
          try simp only [Act.put, List.setIfInBounds_toArray, List.set_cons_zero, List.set_cons_succ]
          refine takeL 33 (v := undef) rfl (by kernel_rfl) (by kernel_rfl) (by kernel_rfl) (fun _ _ _ h => h) (Or.inr ⟨by rfl, rfl⟩) (by assumption) ?_
          try simp only [Act.put, List.setIfInBounds_toArray, List.set_cons_zero, List.set_cons_succ]
          refine takeL 34 (v := undef) rfl (by kernel_rfl) (by kernel_rfl) (by kernel_rfl) (fun _ _ _ h => h) (Or.inr ⟨by rfl, rfl⟩) (by assumption) ?_
          try simp only [Act.put, List.setIfInBounds_toArray, List.set_cons_zero, List.set_cons_succ]
          refine takeL 35 (v := ?_) rfl (by kernel_rfl) (by kernel_rfl) (by kernel_rfl) (fun _ _ _ h => h) (Or.inl ⟨by rfl, ?_⟩) (by assumption) ?_
          rotate_left
          · (intro wS hSw; go_simp; try with_reducible rfl)
          try simp only [Act.put, List.setIfInBounds_toArray, List.set_cons_zero, List.set_cons_succ]
          refine takeL 36 (v := ?_) rfl (by kernel_rfl) (by kernel_rfl) (by kernel_rfl) (fun _ _ _ h => h) (Or.inl ⟨by rfl, ?_⟩) (by assumption) ?_
          rotate_left
          · (intro wS hSw; go_simp; try with_reducible rfl)
          try simp only [Act.put, List.setIfInBounds_toArray, List.set_cons_zero, List.set_cons_succ]
          refine takeL 37 (v := ?_) rfl (by kernel_rfl) (by kernel_rfl) (by kernel_rfl) (fun _ _ _ h => h) (Or.inl ⟨by rfl, ?_⟩) (by assumption) ?_
          rotate_left
          · (intro wS hSw; go_simp; try with_reducible rfl)
          try simp only [Act.put, List.setIfInBounds_toArray, List.set_cons_zero, List.set_cons_succ]
          refine takeL 38 (v := ?_) rfl (by kernel_rfl) (by kernel_rfl) (by kernel_rfl) (fun _ _ _ h => h) (Or.inl ⟨by rfl, ?_⟩) (by assumption) ?_
          rotate_left
          · (intro wS hSw; go_simp; try with_reducible rfl)
          try simp only [Act.put, List.setIfInBounds_toArray, List.set_cons_zero, List.set_cons_succ]
          refine takeL 39 (v := ?_) rfl (by kernel_rfl) (by kernel_rfl) (by kernel_rfl) (fun _ _ _ h => h) (Or.inl ⟨by rfl, ?_⟩) (by assumption) ?_
          rotate_left
          · (intro wS hSw; go_simp; try with_reducible rfl)
          try simp only [Act.put, List.setIfInBounds_toArray, List.set_cons_zero, List.set_cons_succ]
          refine wpAnyH_done (by kernel_rfl) (NoPanic.normal ?_) _
          have hfin := Lib.hid (hKB.out.trans hHeld)
          clear hHeld
          go_wp2_with fail
          go_ret
          exact ⟨rfl, hfin.out⟩
        · by_cases hd : 900 < (ay : Int) - ax
          · skip
            have hv : lawB ax ay = true := by unfold lawB; simp [hx, hy, hd]
            have hn1 : (n == 1) = true := by rw [hlaw', hv]
            clear hv hlaw'
            have ex : ((ax : Int) == 3600) = false := by rw [beq_eq_false_iff_ne]; omega
            have ey : ((ay : Int) != 3600) = true := by rw [bne_iff_ne]; omega
            have ew : IntKind.i64.wrap ((ay : Int) - (ax : Int)) = (ay : Int) - (ax : Int) := by rw [IntKind.wrap_i64]; omega
            have ed : (900 < (ay : Int) - (ax : Int)) := by omega
            clear hx hy
            refine takeL 15 (v := ?_) rfl (by kernel_rfl) (by kernel_rfl) (by kernel_rfl) (fun _ _ _ h => h) (Or.inl ⟨by rfl, ?_⟩) (by assumption) ?_
            rotate_left
            · (intro wS hSw; go_simp; try with_reducible rfl)
            try simp only [Act.put, List.setIfInBounds_toArray, List.set_cons_zero, List.set_cons_succ]
            refine takeL 16 (v := ?_) rfl (by kernel_rfl) (by kernel_rfl) (by kernel_rfl) (fun _ _ _ h => h) (Or.inl ⟨by rfl, ?_⟩) (by assumption) ?_
            rotate_left
            · (intro wS hSw; go_simp; try with_reducible rfl)
            try simp only [Act.put, List.setIfInBounds_toArray, List.set_cons_zero, List.set_cons_succ]
            refine takeL 17 rfl (by kernel_rfl) (by kernel_rfl) (by kernel_rfl) (fun _ _ _ h => h) (yieldsIf_load_cell (by rfl) 3 (.tmp 94) rfl X 0 rfl _ (fun W' s => hzx.out W' s) (fun w s => load_int w _ _ _ s)) (by assumption) ?_
            try simp only [Act.put, List.setIfInBounds_toArray, List.set_cons_zero, List.set_cons_succ]
            refine takeL 18 (v := ?_) rfl (by kernel_rfl) (by kernel_rfl) (by kernel_rfl) (fun _ _ _ h => h) (Or.inl ⟨by rfl, ?_⟩) (by assumption) ?_
            rotate_left
            · (intro wS hSw; go_simp; try with_reducible rfl)
            try simp only [Act.put, List.setIfInBounds_toArray, List.set_cons_zero, List.set_cons_succ]
            refine takeL 19 (v := ?_) rfl (by kernel_rfl) (by kernel_rfl) (by kernel_rfl) (fun _ _ _ h => h) (Or.inl ⟨by rfl, ?_⟩) (by assumption) ?_
            rotate_left
            · (intro wS hSw; go_simp; try with_reducible rfl)
            try simp only [Act.put, List.setIfInBounds_toArray, List.set_cons_zero, List.set_cons_succ]
            refine takeL 20 (v := undef) rfl (by kernel_rfl) (by kernel_rfl) (by kernel_rfl) (fun _ _ _ h => h) (Or.inr ⟨by rfl, rfl⟩) (by assumption) ?_
            try simp only [Act.put, List.setIfInBounds_toArray, List.set_cons_zero, List.set_cons_succ]
            refine takeL 21 (v := undef) rfl (by kernel_rfl) (by kernel_rfl) (by kernel_rfl) (fun _ _ _ h => h) (Or.inr ⟨by rfl, rfl⟩) (by assumption) ?_
            try simp only [Act.put, List.setIfInBounds_toArray, List.set_cons_zero, List.set_cons_succ]
            refine takeL 22 (v := undef) rfl (by kernel_rfl) (by kernel_rfl) (by kernel_rfl) (fun _ _ _ h => h) (Or.inr ⟨by rfl, rfl⟩) (by assumption) ?_
            try simp only [Act.put, List.setIfInBounds_toArray, List.set_cons_zero, List.set_cons_succ]
            refine takeL 23 (v := ?_) rfl (by kernel_rfl) (by kernel_rfl) (by kernel_rfl) (fun _ _ _ h => h) (Or.inl ⟨by rfl, ?_⟩) (by assumption) ?_
            rotate_left
            · (intro wS hSw; go_simp; try with_reducible rfl)
            try simp only [Act.put, List.setIfInBounds_toArray, List.set_cons_zero, List.set_cons_succ]
            refine takeL 24 (v := ?_) rfl (by kernel_rfl) (by kernel_rfl) (by kernel_rfl) (fun _ _ _ h => h) (Or.inl ⟨by rfl, ?_⟩) (by assumption) ?_
            rotate_left
            · (intro wS hSw; go_simp; try with_reducible rfl)
            try simp only [Act.put, List.setIfInBounds_toArray, List.set_cons_zero, List.set_cons_succ]
            refine takeL 25 (v := ?_) rfl (by kernel_rfl) (by kernel_rfl) (by kernel_rfl) (fun _ _ _ h => h) (Or.inl ⟨by rfl, ?_⟩) (by assumption) ?_
            rotate_left
            · (intro wS hSw; go_simp; try with_reducible rfl)
            try simp only [Act.put, List.setIfInBounds_toArray, List.set_cons_zero, List.set_cons_succ]
            refine takeL 26 rfl (by kernel_rfl) (by kernel_rfl) (by kernel_rfl) (fun _ _ _ h => h) (yieldsIf_load_cell (by rfl) 3 (.tmp 103) rfl Y 0 rfl _ (fun W' s => hzy.out W' s) (fun w s => load_int w _ _ _ s)) (by assumption) ?_
            try simp only [Act.put, List.setIfInBounds_toArray, List.set_cons_zero, List.set_cons_succ]
            refine takeL 27 (v := ?_) rfl (by kernel_rfl) (by kernel_rfl) (by kernel_rfl) (fun _ _ _ h => h) (Or.inl ⟨by rfl, ?_⟩) (by assumption) ?_
            rotate_left
            · (intro wS hSw; go_simp; try with_reducible rfl)
            try simp only [Act.put, List.setIfInBounds_toArray, List.set_cons_zero, List.set_cons_succ]
            refine takeL 28 (v := ?_) rfl (by kernel_rfl) (by kernel_rfl) (by kernel_rfl) (fun _ _ _ h => h) (Or.inl ⟨by rfl, ?_⟩) (by assumption) ?_
            rotate_left
            · (intro wS hSw; go_simp; try with_reducible rfl)
            try simp only [Act.put, List.setIfInBounds_toArray, List.set_cons_zero, List.set_cons_succ]
            refine takeL 29 (v := ?_) rfl (by kernel_rfl) (by kernel_rfl) (by kernel_rfl) (fun _ _ _ h => h) (Or.inl ⟨by rfl, ?_⟩) (by assumption) ?_
            rotate_left
            · (intro wS hSw; go_simp; try with_reducible rfl)
            try simp only [Act.put, List.setIfInBounds_toArray, List.set_cons_zero, List.set_cons_succ]
            refine takeL 30 rfl (by kernel_rfl) (by kernel_rfl) (by kernel_rfl) (fun _ _ _ h => h) (yieldsIf_load_cell (by rfl) 3 (.tmp 107) rfl Y 0 rfl _ (fun W' s => hzy.out W' s) (fun w s => load_int w _ _ _ s)) (by assumption) ?_
            try simp only [Act.put, List.setIfInBounds_toArray, List.set_cons_zero, List.set_cons_succ]
            refine takeL 31 (v := ?_) rfl (by kernel_rfl) (by kernel_rfl) (by kernel_rfl) (fun _ _ _ h => h) (Or.inl ⟨by rfl, ?_⟩) (by assumption) ?_
            rotate_left
            · (intro wS hSw; go_simp; try with_reducible rfl)
            try simp only [Act.put, List.setIfInBounds_toArray, List.set_cons_zero, List.set_cons_succ]
            refine takeL 32 rfl (by kernel_rfl) (by kernel_rfl) (by kernel_rfl) (fun _ _ _ h => h) (yieldsIf_load_cell (by rfl) 3 (.tmp 109) rfl X 0 rfl _ (fun W' s => hzx.out W' s) (fun w s => load_int w _ _ _ s)) (by assumption) ?_
            try simp only [Act.put, List.setIfInBounds_toArray, List.set_cons_zero, List.set_cons_succ]
            refine takeL 33 (v := ?_) rfl (by kernel_rfl) (by kernel_rfl) (by kernel_rfl) (fun _ _ _ h => h) (Or.inl ⟨by rfl, ?_⟩) (by assumption) ?_
            rotate_left
            · (intro wS hSw; go_simp; try with_reducible rfl)
            try simp only [Act.put, List.setIfInBounds_toArray, List.set_cons_zero, List.set_cons_succ]
            refine takeL 34 (v := ?_) rfl (by kernel_rfl) (by kernel_rfl) (by kernel_rfl) (fun _ _ _ h => h) (Or.inl ⟨by rfl, ?_⟩) (by assumption) ?_
            rotate_left
            · (intro wS hSw; go_simp; try with_reducible rfl)
            try simp only [Act.put, List.setIfInBounds_toArray, List.set_cons_zero, List.set_cons_succ]
            refine takeL 35 (v := ?_) rfl (by kernel_rfl) (by kernel_rfl) (by kernel_rfl) (fun _ _ _ h => h) (Or.inl ⟨by rfl, ?_⟩) (by assumption) ?_
            rotate_left
            · (intro wS hSw; go_simp; try with_reducible rfl)
            try simp only [Act.put, List.setIfInBounds_toArray, List.set_cons_zero, List.set_cons_succ]
            refine takeL 36 (v := ?_) rfl (by kernel_rfl) (by kernel_rfl) (by kernel_rfl) (fun _ _ _ h => h) (Or.inl ⟨by rfl, ?_⟩) (by assumption) ?_
            rotate_left
            · (intro wS hSw; go_simp; try with_reducible rfl)
            try simp only [Act.put, List.setIfInBounds_toArray, List.set_cons_zero, List.set_cons_succ]
            refine takeL 37 (v := ?_) rfl (by kernel_rfl) (by kernel_rfl) (by kernel_rfl) (fun _ _ _ h => h) (Or.inl ⟨by rfl, ?_⟩) (by assumption) ?_
            rotate_left
            · (intro wS hSw; go_simp; try with_reducible rfl)
            try simp only [Act.put, List.setIfInBounds_toArray, List.set_cons_zero, List.set_cons_succ]
            refine takeL 38 (v := ?_) rfl (by kernel_rfl) (by kernel_rfl) (by kernel_rfl) (fun _ _ _ h => h) (Or.inl ⟨by rfl, ?_⟩) (by assumption) ?_
            rotate_left
            · (intro wS hSw; go_simp; try with_reducible rfl)
            try simp only [Act.put, List.setIfInBounds_toArray, List.set_cons_zero, List.set_cons_succ]
            refine takeL 39 (v := ?_) rfl (by kernel_rfl) (by kernel_rfl) (by kernel_rfl) (fun _ _ _ h => h) (Or.inl ⟨by rfl, ?_⟩) (by assumption) ?_
            rotate_left
            · (intro wS hSw; go_simp; try with_reducible rfl)
            try simp only [Act.put, List.setIfInBounds_toArray, List.set_cons_zero, List.set_cons_succ]
            refine wpAnyH_done (by kernel_rfl) (NoPanic.normal ?_) _
            have hfin := Lib.hid (hKB.out.trans hHeld)
            clear hHeld
            go_wp2_with fail
            go_ret
            exact ⟨rfl, hfin.out⟩
          · skip
            have hv : lawB ax ay = false := by unfold lawB; simp [hx, hy, hd]
            have hn1 : (n == 1) = false := by rw [hlaw', hv]
            clear hv hlaw'
            have ex : ((ax : Int) == 3600) = false := by rw [beq_eq_false_iff_ne]; omega
            have ey : ((ay : Int) != 3600) = true := by rw [bne_iff_ne]; omega
            have ew : IntKind.i64.wrap ((ay : Int) - (ax : Int)) = (ay : Int) - (ax : Int) := by rw [IntKind.wrap_i64]; omega
            have ed : ¬ (900 < (ay : Int) - (ax : Int)) := by omega
            clear hx hy
            refine takeL 15 (v := ?_) rfl (by kernel_rfl) (by kernel_rfl) (by kernel_rfl) (fun _ _ _ h => h) (Or.inl ⟨by rfl, ?_⟩) (by assumption) ?_
            rotate_left
            · (intro wS hSw; go_simp; try with_reducible rfl)
            try simp only [Act.put, List.setIfInBounds_toArray, List.set_cons_zero, List.set_cons_succ]
            refine takeL 16 (v := ?_) rfl (by kernel_rfl) (by kernel_rfl) (by kernel_rfl) (fun _ _ _ h => h) (Or.inl ⟨by rfl, ?_⟩) (by assumption) ?_
            rotate_left
            · (intro wS hSw; go_simp; try with_reducible rfl)
            try simp only [Act.put, List.setIfInBounds_toArray, List.set_cons_zero, List.set_cons_succ]
            refine takeL 17 rfl (by kernel_rfl) (by kernel_rfl) (by kernel_rfl) (fun _ _ _ h => h) (yieldsIf_load_cell (by rfl) 3 (.tmp 94) rfl X 0 rfl _ (fun W' s => hzx.out W' s) (fun w s => load_int w _ _ _ s)) (by assumption) ?_
            try simp only [Act.put, List.setIfInBounds_toArray, List.set_cons_zero, List.set_cons_succ]
            refine takeL 18 (v := ?_) rfl (by kernel_rfl) (by kernel_rfl) (by kernel_rfl) (fun _ _ _ h => h) (Or.inl ⟨by rfl, ?_⟩) (by assumption) ?_
            rotate_left
            · (intro wS hSw; go_simp; try with_reducible rfl)
            try simp only [Act.put, List.setIfInBounds_toArray, List.set_cons_zero, List.set_cons_succ]
            refine takeL 19 (v := ?_) rfl (by kernel_rfl) (by kernel_rfl) (by kernel_rfl) (fun _ _ _ h => h) (Or.inl ⟨by rfl, ?_⟩) (by assumption) ?_
            rotate_left
            · (intro wS hSw; go_simp; try with_reducible rfl)
            try simp only [Act.put, List.setIfInBounds_toArray, List.set_cons_zero, List.set_cons_succ]
            refine takeL 20 (v := undef) rfl (by kernel_rfl) (by kernel_rfl) (by kernel_rfl) (fun _ _ _ h => h) (Or.inr ⟨by rfl, rfl⟩) (by assumption) ?_
            try simp only [Act.put, List.setIfInBounds_toArray, List.set_cons_zero, List.set_cons_succ]
            refine takeL 21 (v := undef) rfl (by kernel_rfl) (by kernel_rfl) (by kernel_rfl) (fun _ _ _ h => h) (Or.inr ⟨by rfl, rfl⟩) (by assumption) ?_
            try simp only [Act.put, List.setIfInBounds_toArray, List.set_cons_zero, List.set_cons_succ]
            refine takeL 22 (v := undef) rfl (by kernel_rfl) (by kernel_rfl) (by kernel_rfl) (fun _ _ _ h => h) (Or.inr ⟨by rfl, rfl⟩) (by assumption) ?_
            try simp only [Act.put, List.setIfInBounds_toArray, List.set_cons_zero, List.set_cons_succ]
            refine takeL 23 (v := ?_) rfl (by kernel_rfl) (by kernel_rfl) (by kernel_rfl) (fun _ _ _ h => h) (Or.inl ⟨by rfl, ?_⟩) (by assumption) ?_
            rotate_left
            · (intro wS hSw; go_simp; try with_reducible rfl)
            try simp only [Act.put, List.setIfInBounds_toArray, List.set_cons_zero, List.set_cons_succ]
            refine takeL 24 (v := ?_) rfl (by kernel_rfl) (by kernel_rfl) (by kernel_rfl) (fun _ _ _ h => h) (Or.inl ⟨by rfl, ?_⟩) (by assumption) ?_
            rotate_left
            · (intro wS hSw; go_simp; try with_reducible rfl)
            try simp only [Act.put, List.setIfInBounds_toArray, List.set_cons_zero, List.set_cons_succ]
            refine takeL 25 (v := ?_) rfl (by kernel_rfl) (by kernel_rfl) (by kernel_rfl) (fun _ _ _ h => h) (Or.inl ⟨by rfl, ?_⟩) (by assumption) ?_
            rotate_left
            · (intro wS hSw; go_simp; try with_reducible rfl)
            try simp only [Act.put, List.setIfInBounds_toArray, List.set_cons_zero, List.set_cons_succ]
            refine takeL 26 rfl (by kernel_rfl) (by kernel_rfl) (by kernel_rfl) (fun _ _ _ h => h) (yieldsIf_load_cell (by rfl) 3 (.tmp 103) rfl Y 0 rfl _ (fun W' s => hzy.out W' s) (fun w s => load_int w _ _ _ s)) (by assumption) ?_
            try simp only [Act.put, List.setIfInBounds_toArray, List.set_cons_zero, List.set_cons_succ]
            refine takeL 27 (v := ?_) rfl (by kernel_rfl) (by kernel_rfl) (by kernel_rfl) (fun _ _ _ h => h) (Or.inl ⟨by rfl, ?_⟩) (by assumption) ?_
            rotate_left
            · (intro wS hSw; go_simp; try with_reducible rfl)
            try simp only [Act.put, List.setIfInBounds_toArray, List.set_cons_zero, List.set_cons_succ]
            refine takeL 28 (v := ?_) rfl (by kernel_rfl) (by kernel_rfl) (by kernel_rfl) (fun _ _ _ h => h) (Or.inl ⟨by rfl, ?_⟩) (by assumption) ?_
            rotate_left
            · (intro wS hSw; go_simp; try with_reducible rfl)
            try simp only [Act.put, List.setIfInBounds_toArray, List.set_cons_zero, List.set_cons_succ]
            refine takeL 29 (v := ?_) rfl (by kernel_rfl) (by kernel_rfl) (by kernel_rfl) (fun _ _ _ h => h) (Or.inl ⟨by rfl, ?_⟩) (by assumption) ?_
            rotate_left
            · (intro wS hSw; go_simp; try with_reducible rfl)
            try simp only [Act.put, List.setIfInBounds_toArray, List.set_cons_zero, List.set_cons_succ]
            refine takeL 30 rfl (by kernel_rfl) (by kernel_rfl) (by kernel_rfl) (fun _ _ _ h => h) (yieldsIf_load_cell (by rfl) 3 (.tmp 107) rfl Y 0 rfl _ (fun W' s => hzy.out W' s) (fun w s => load_int w _ _ _ s)) (by assumption) ?_
            try simp only [Act.put, List.setIfInBounds_toArray, List.set_cons_zero, List.set_cons_succ]
            refine takeL 31 (v := ?_) rfl (by kernel_rfl) (by kernel_rfl) (by kernel_rfl) (fun _ _ _ h => h) (Or.inl ⟨by rfl, ?_⟩) (by assumption) ?_
            rotate_left
            · (intro wS hSw; go_simp; try with_reducible rfl)
            try simp only [Act.put, List.setIfInBounds_toArray, List.set_cons_zero, List.set_cons_succ]
            refine takeL 32 rfl (by kernel_rfl) (by kernel_rfl) (by kernel_rfl) (fun _ _ _ h => h) (yieldsIf_load_cell (by rfl) 3 (.tmp 109) rfl X 0 rfl _ (fun W' s => hzx.out W' s) (fun w s => load_int w _ _ _ s)) (by assumption) ?_
            try simp only [Act.put, List.setIfInBounds_toArray, List.set_cons_zero, List.set_cons_succ]
            refine takeL 33 (v := ?_) rfl (by kernel_rfl) (by kernel_rfl) (by kernel_rfl) (fun _ _ _ h => h) (Or.inl ⟨by rfl, ?_⟩) (by assumption) ?_
            rotate_left
            · (intro wS hSw; go_simp; try with_reducible rfl)
            try simp only [Act.put, List.setIfInBounds_toArray, List.set_cons_zero, List.set_cons_succ]
            refine takeL 34 (v := ?_) rfl (by kernel_rfl) (by kernel_rfl) (by kernel_rfl) (fun _ _ _ h => h) (Or.inl ⟨by rfl, ?_⟩) (by assumption) ?_
            rotate_left
            · (intro wS hSw; go_simp; try with_reducible rfl)
            try simp only [Act.put, List.setIfInBounds_toArray, List.set_cons_zero, List.set_cons_succ]
            refine takeL 35 (v := ?_) rfl (by kernel_rfl) (by kernel_rfl) (by kernel_rfl) (fun _ _ _ h => h) (Or.inl ⟨by rfl, ?_⟩) (by assumption) ?_
            rotate_left
            · (intro wS hSw; go_simp; try with_reducible rfl)
            try simp only [Act.put, List.setIfInBounds_toArray, List.set_cons_zero, List.set_cons_succ]
            refine takeL 36 (v := ?_) rfl (by kernel_rfl) (by kernel_rfl) (by kernel_rfl) (fun _ _ _ h => h) (Or.inl ⟨by rfl, ?_⟩) (by assumption) ?_
            rotate_left
            · (intro wS hSw; go_simp; try with_reducible rfl)
            try simp only [Act.put, List.setIfInBounds_toArray, List.set_cons_zero, List.set_cons_succ]
            refine takeL 37 (v := ?_) rfl (by kernel_rfl) (by kernel_rfl) (by kernel_rfl) (fun _ _ _ h => h) (Or.inl ⟨by rfl, ?_⟩) (by assumption) ?_
            rotate_left
            · (intro wS hSw; go_simp; try with_reducible rfl)
            try simp only [Act.put, List.setIfInBounds_toArray, List.set_cons_zero, List.set_cons_succ]
            refine takeL 38 (v := ?_) rfl (by kernel_rfl) (by kernel_rfl) (by kernel_rfl) (fun _ _ _ h => h) (Or.inl ⟨by rfl, ?_⟩) (by assumption) ?_
            rotate_left
            · (intro wS hSw; go_simp; try with_reducible rfl)
            try simp only [Act.put, List.setIfInBounds_toArray, List.set_cons_zero, List.set_cons_succ]
            refine takeL 39 (v := ?_) rfl (by kernel_rfl) (by kernel_rfl) (by kernel_rfl) (fun _ _ _ h => h) (Or.inl ⟨by rfl, ?_⟩) (by assumption) ?_
            rotate_left
            · (intro wS hSw; go_simp; try with_reducible rfl)
            try simp only [Act.put, List.setIfInBounds_toArray, List.set_cons_zero, List.set_cons_succ]
            refine wpAnyH_done (by kernel_rfl) (NoPanic.normal ?_) _
            have hfin := Lib.hid (hKB.out.trans hHeld)
            clear hHeld
            go_wp2_with fail
            go_ret
            exact ⟨rfl, hfin.out⟩
end Go.Proofs.Ytiogeepffdpafaa
