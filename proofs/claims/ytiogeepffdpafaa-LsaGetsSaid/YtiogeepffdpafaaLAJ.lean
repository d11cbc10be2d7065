/- LsaPuts, walked (gen_laj.py writes this). -/
import Derived.Test.YtiogeepffdpafaaLAI
import Derived.Test.YtiogeepffdpafaaLAG
namespace Go.Proofs.Ytiogeepffdpafaa
open Go.RowKit

theorem head_eq {x y : HeadD} (h1 : x.age = y.age) (h2 : x.type = y.type) (h3 : x.id = y.id) (h4 : x.adv = y.adv) (h5 : x.seq = y.seq) (h6 : x.sum = y.sum) (h7 : x.len = y.len) : x = y := by
  cases x; cases y; simp only at h1 h2 h3 h4 h5 h6 h7; subst h1; subst h2; subst h3; subst h4; subst h5; subst h6; subst h7; rfl
/-- the header of what was put, and its bytes again -/
theorem head_put (l : LsaD) (hok : l.ok) (h : canB l = true) : ∃ s : Nat, s < 65536 ∧ headOf (putB l) = ⟨l.age, l.type, l.id, l.adv, l.seq, s, ((putB l).length : Nat)⟩ ∧ headB ⟨l.age, l.type, l.id, l.adv, l.seq, s, ((putB l).length : Nat)⟩ = (putB l).take 20 := by
  have htold := canB_told h
  have hlens := canB_lens h
  have hlen := putB_len l
  have hc := h
  unfold canB withinB at hc
  simp only [Bool.and_eq_true, decide_eq_true_eq] at hc
  have hage : ((lo64 l.age % 65536 : Nat) : Int) = l.age := by unfold lo64; omega
  have hhead : headOf (putB l) = headR (restB l) l.age := by rw [headOf_put, hage]
  obtain ⟨a, b, ha, hb, hr⟩ := restB_shape l
  have hs : sub (restB l) 14 2 = [a, b] := by
    rw [hr, show [2, UInt8.ofNat (lo8 l.type)] ++ (be 4 l.id ++ (be 4 l.adv ++ (be 4 (lo64 l.seq) ++ ([a, b] ++ (be 2 (lo64 (20 + ((tellB l).length : Int))) ++ tellB l))))) = ([2, UInt8.ofNat (lo8 l.type)] ++ be 4 l.id ++ be 4 l.adv ++ be 4 (lo64 l.seq)) ++ ([a, b] ++ (be 2 (lo64 (20 + ((tellB l).length : Int))) ++ tellB l)) from by simp only [List.append_assoc],
      sub_app _ _ 14 2 (by simp [be_len])]
    rfl
  have hn : ((putB l).length : Int) = 20 + ((tellB l).length : Int) := by rw [hlen]; omega
  refine ⟨beVal [a, b], ?_, ?_, ?_⟩
  · have h2 : 256 ^ ([a, b] : List UInt8).length = 65536 := by simp
    have := beVal_lt [a, b]; rw [h2] at this; exact this
  · rw [hhead]
    exact head_eq rfl (head_type l _ (told_type htold)) ((head_id l _).trans (Nat.mod_eq_of_lt hok.id)) ((head_adv l _).trans (Nat.mod_eq_of_lt hok.adv))
      ((head_seq l _).trans (by show sgn32 (lo64 l.seq % 4294967296) = l.seq; unfold sgn32 lo64; split <;> omega)) (by show beVal (sub (restB l) 14 2) = _; rw [hs]) ((head_len l hlens.1 hlens.2 _).trans hn.symm)
  · have hab : be 2 (beVal [a, b]) = [a, b] := be_beVal [a, b]
    unfold headB
    simp only
    rw [hab, hn, putB_rest, hr]
    have e : be 2 (lo64 l.age) ++ ([2, UInt8.ofNat (lo8 l.type)] ++ (be 4 l.id ++ (be 4 l.adv ++ (be 4 (lo64 l.seq) ++ ([a, b] ++ (be 2 (lo64 (20 + ((tellB l).length : Int))) ++ tellB l)))))) = (be 2 (lo64 l.age) ++ [2, UInt8.ofNat (lo8 l.type)] ++ be 4 l.id ++ be 4 l.adv ++ be 4 (lo64 l.seq) ++ [a, b] ++ be 2 (lo64 (20 + ((tellB l).length : Int)))) ++ tellB l := by simp only [List.append_assoc]
    rw [e, List.take_append_of_le_length (by simp [be_len]), List.take_of_length_le (by simp [be_len])]
theorem sameB_self (l : LsaD) : sameB l l = true := by
  unfold sameB; rw [alikeB_self]; simp
theorem wp_conv {P : Program} {w : World} {o : Oper} {a : Act} {K : Act → World → Prop} {Q : Exit → Act → World → Prop} (ft tt : TypeId) (x : Operand) (ho : o.op = .convert ft tt x) (xv v : Value) (hx : a.eval x = xv)
    (hr : (convert ft tt xv).run P w = .ok v w) (h : K (a.put o.dst v) w) : Oper.wp P o a w K Q := by
  unfold Oper.wp execOp
  simp only [ho, hx, Sem.run_bind, hr, Result.andThen_ok]
  exact h
@[go_sem] theorem guardHeaderR (op : BinOp) (x y : Operand) (xs ys : Array Value) (w : World) : (eqGuard op 51 x y (.agg xs) (.agg ys)).run Try.prog w = .ok () w := run_eqGuard_agg w op 51 x y xs ys (by kernel_rfl)
set_option maxRecDepth 100000 in
set_option maxHeartbeats 8000000 in
theorem lLsaPuts_walk (age type seq cost : Int) (lid adv mask : Nat) (links : List LinkD) (routers : List Nat) (p5 p7 : Option Addr) (c5 c7 : Nat) (w : World)
    (hll : links.length * 24 ≤ 140737488351232) (hrl : routers.length * 4 ≤ 140737488351232) (hL : Hid (LinksAt w (.slice p5 links.length c5) links)) (hR : Hid (NumsAt w (.slice p7 routers.length c7) routers)) (hok : Hid (LsaD.ok ⟨age, type, lid, adv, seq, links, mask, routers, cost⟩)) :
    Calls Try.prog 3 #[.agg #[.int .i64 age, .int .i64 type, .int .u32 lid, .int .u32 adv, .int .i64 seq, .slice p5 links.length c5, .int .u32 mask, .slice p7 routers.length c7, .int .i64 cost]] w (fun e w' => e = .returned (.bool true) ∧ Keeps (fun _ => False) w w') := by
  obtain ⟨W0, hW0⟩ : ∃ W0, W0 = w.alloc (.cells #[.int .i64 age, .int .i64 type, .int .u32 lid, .int .u32 adv, .int .i64 seq, .slice p5 links.length c5, .int .u32 mask, .slice p7 routers.length c7, .int .i64 cost] 28) := ⟨_, rfl⟩
  have hA : Hid (BlkAt W0 w.heap.size 28 [.int .i64 age, .int .i64 type, .int .u32 lid, .int .u32 adv, .int .i64 seq, .slice p5 links.length c5, .int .u32 mask, .slice p7 routers.length c7, .int .i64 cost]) := Lib.hid (by rw [hW0]; exact BlkAt.new w 28 [.int .i64 age, .int .i64 type, .int .u32 lid, .int .u32 adv, .int .i64 seq, .slice p5 links.length c5, .int .u32 mask, .slice p7 routers.length c7, .int .i64 cost])
  have hK : Hid (Keeps (fun _ => False) w W0) := Lib.hid (by rw [hW0]; exact (Keeps.refl _ _).alloc _)
  have hL1 := Lib.hid (hL.out.keep hK.out); have hR1 := Lib.hid (hR.out.keep hK.out)
  have hW0' := Lib.hid hW0
  clear hW0 hL hR
  go_enter Try.func3, Try.ntmps3
  go_upto_region 1 with fail
  rw [← hW0'.out]
  clear hW0'
  go_wp2_with ((with_reducible refine at_slot 12 ?_); refine wpList_load_mid rfl 28 (.tmp 1) rfl w.heap.size 0 rfl [.int .i64 age, .int .i64 type, .int .u32 lid, .int .u32 adv, .int .i64 seq, .slice p5 links.length c5, .int .u32 mask, .slice p7 routers.length c7, .int .i64 cost] _ hA.out.range Try.underlying28 rfl lsaInfoR ?_)
  refine (lwTo_any age type seq cost lid adv mask links routers p5 p7 c5 c7 _ hL1 hR1 hll hrl).mono ?_
  rintro e w1 ⟨⟨u5, v5, u7, v7, rfl, tl, tr⟩, k1⟩
  have tl' := Lib.hid tl; have tr' := Lib.hid tr
  have hA1 := Lib.hid (hA.out.keep k1 (fun f => f)); have hK1 := Lib.hid (hK.out.trans k1); have hL2 := Lib.hid (hL1.out.keep k1); have hR2 := Lib.hid (hR1.out.keep k1)
  clear tl tr k1 hA hK hL1 hR1
  go_wp2_with fail
  cases hz : canB ⟨age, type, lid, adv, seq, links, mask, routers, cost⟩ with
  | false =>
    have hz' := Lib.hid hz; clear hz
    refine (lsPut_no age type seq cost lid adv mask links routers u5 u7 v5 v7 _ tl' (by omega) (by omega) hz').mono ?_
    rintro e w2 ⟨rfl, k2⟩
    have hA2 := Lib.hid (hA1.out.keep k2 (fun f => f)); have hK2 := Lib.hid (hK1.out.trans k2); have hL3 := Lib.hid (hL2.out.keep k2)
    clear k2 hA1 hK1 hL2 hR2 tl' tr'
    go_wp2_with ((with_reducible refine at_slot 18 ?_); refine wpList_load_mid rfl 28 (.tmp 1) rfl w.heap.size 0 rfl [.int .i64 age, .int .i64 type, .int .u32 lid, .int .u32 adv, .int .i64 seq, .slice p5 links.length c5, .int .u32 mask, .slice p7 routers.length c7, .int .i64 cost] _ hA2.out.range Try.underlying28 rfl lsaInfoR ?_)
    refine (r10Put_no age type seq cost lid adv mask links routers p5 p7 c5 c7 _ hL3 (by omega) (by omega) hz').mono ?_
    rintro e w3 ⟨rfl, k3⟩
    have hK3 := Lib.hid (hK2.out.trans k3)
    clear k3 hA2 hK2 hL3 hz'
    go_wp2_with fail
    refine (lwPuts_any _).mono ?_
    rintro e w4 ⟨rfl, k4⟩
    have hK4 := Lib.hid (hK3.out.trans k4)
    clear k4 hK3
    have cv := conv_nil w4
    go_wp2_with fail
    go_ret
    exact ⟨rfl, hK4.out⟩
  | true =>
    obtain ⟨Sm, lSm, hHd, hHb⟩ := head_put ⟨age, type, lid, adv, seq, links, mask, routers, cost⟩ hok.out hz
    have hget := getL_put ⟨age, type, lid, adv, seq, links, mask, routers, cost⟩ hok.out hz
    have hlX : 24 ≤ (putB ⟨age, type, lid, adv, seq, links, mask, routers, cost⟩).length ∧ (putB ⟨age, type, lid, adv, seq, links, mask, routers, cost⟩).length ≤ 504 := by
      have h1 := canB_lens hz
      have h2 := tellB_len (l := ⟨age, type, lid, adv, seq, links, mask, routers, cost⟩) h1.1 h1.2
      rw [putB_len]; omega
    have hz' := Lib.hid hz; clear hz
    obtain ⟨PX, hPX⟩ : ∃ PX, putB ⟨age, type, lid, adv, seq, links, mask, routers, cost⟩ = PX := ⟨_, rfl⟩
    rw [hPX] at hHd hHb hget hlX
    obtain ⟨Ln, hLn⟩ : ∃ Ln, PX.length = Ln := ⟨_, rfl⟩
    rw [hLn] at hHd hHb hlX
    simp only at hHd hHb
    obtain ⟨T20, hT20⟩ : ∃ T, PX.take 20 = T := ⟨_, rfl⟩
    have hlT : Hid (T20.length = 20) := Lib.hid (by rw [← hT20, List.length_take]; omega)
    rw [hT20] at hHb
    have hPX' := Lib.hid hPX; have hLn' := Lib.hid hLn; have hT20' := Lib.hid hT20; have hHd' := Lib.hid hHd; have hHb' := Lib.hid hHb; have hget' := Lib.hid hget
    clear hPX hLn hT20 hHd hHb hget
    refine (lsPut_yes age type seq cost lid adv mask links routers u5 u7 v5 v7 _ tl' tr' (Lib.hid hok.out.links) (Lib.hid hok.out.routers) hok.out.id hok.out.adv hok.out.mask hz').mono ?_
    rintro e w2 ⟨pX, cX, rfl, obX, k2⟩
    rw [hPX'.out] at obX ⊢
    rw [hLn'.out] at obX ⊢
    have hA2 := Lib.hid (hA1.out.keep k2 (fun f => f)); have hK2 := Lib.hid (hK1.out.trans k2); have hL3 := Lib.hid (hL2.out.keep k2); have hR3 := Lib.hid (hR2.out.keep k2)
    obtain ⟨px', cx', epx, -, hcX, hrX⟩ := obX.bytes
    rw [hLn'.out] at hcX
    obtain ⟨gX, oX, epx2, hrX2⟩ := hrX (by rw [hLn'.out]; omega)
    injection epx with e1 e2 e3
    subst e1; subst e3; subst epx2
    have hrXa := Lib.hid hrX2
    clear e2 hrX hrX2 obX k2 hA1 hK1 hL2 hR2 tl' tr'
    go_wp2_with ((with_reducible refine at_slot 18 ?_); refine wpList_load_mid rfl 28 (.tmp 1) rfl w.heap.size 0 rfl [.int .i64 age, .int .i64 type, .int .u32 lid, .int .u32 adv, .int .i64 seq, .slice p5 links.length c5, .int .u32 mask, .slice p7 routers.length c7, .int .i64 cost] _ hA2.out.range Try.underlying28 rfl lsaInfoR ?_)
    refine (r10Put_yes age type seq cost lid adv mask links routers p5 p7 c5 c7 _ hL3 hR3 (Lib.hid hok.out.links) (Lib.hid hok.out.routers) hok.out.id hok.out.adv hok.out.mask hz').mono ?_
    rintro e w3 ⟨pY, cY, rfl, obY, k3⟩
    rw [hPX'.out] at obY ⊢
    rw [hLn'.out] at obY ⊢
    have hA3 := Lib.hid (hA2.out.keep k3 (fun f => f)); have hK3 := Lib.hid (hK2.out.trans k3); have hL4 := Lib.hid (hL3.out.keep k3); have hR4 := Lib.hid (hR3.out.keep k3); have hrXb := Lib.hid (k3.rangeAt hrXa.out (fun f => f))
    have hbY := Lib.hid obY.bytes
    clear k3 obY hA2 hK2 hL3 hR3 hrXa hz'
    go_wp2_with fail
    refine (lwPuts_any _).mono ?_
    rintro e w4 ⟨rfl, k4⟩
    have hA4 := Lib.hid (hA3.out.keep k4 (fun f => f)); have hK4 := Lib.hid (hK3.out.trans k4); have hL5 := Lib.hid (hL4.out.keep k4); have hR5 := Lib.hid (hR4.out.keep k4); have hrXc := Lib.hid (k4.rangeAt hrXb.out (fun f => f))
    have cv1 : (convert 29 9 (.slice (some ⟨gX, oX, none⟩) Ln cX)).run Try.prog w4 = .ok (.string ⟨PX.toArray⟩) w4 := by rw [← hLn'.out]; exact conv_str gX oX cX PX w4 hrXc.out
    have cv2 : (convert 29 9 (.slice pY Ln cY)).run Try.prog w4 = .ok (.string ⟨PX.toArray⟩) w4 := conv_bytes (hbY.out.keep k4) (by rw [hLn'.out]; omega)
    clear k4 hA3 hK3 hL4 hR4 hrXb hbY
    go_wp2_with fail
    clear cv1 cv2
    have hbX : Hid (BytesAt w4 (.slice (some ⟨gX, oX, none⟩) Ln cX) PX) := Lib.hid (BytesAt.of hLn'.out hcX hrXc.out)
    refine (lsGet_r _ PX ⟨age, type, lid, adv, seq, links, mask, routers, cost⟩ 0 (by rw [hLn'.out]; omega) _ hbX hget').mono ?_
    rintro e w5 ⟨⟨q5, d5, q7, d7, rfl, ml, mr⟩, k5⟩
    simp only
    have ml' := Lib.hid ml; have mr' := Lib.hid mr
    obtain ⟨W5, hW5⟩ : ∃ W5, W5 = w5.alloc (.cells #[.int .i64 age, .int .i64 type, .int .u32 lid, .int .u32 adv, .int .i64 seq, .slice q5 links.length d5, .int .u32 mask, .slice q7 routers.length d7, .int .i64 cost] 36) := ⟨_, rfl⟩
    have k5' : Keeps (fun _ => False) w4 W5 := by rw [hW5]; exact k5.alloc _
    have k5a : Keeps (fun _ => False) w5 W5 := by rw [hW5]; exact (Keeps.refl _ _).alloc _
    have hM5 : Hid (BlkAt W5 w5.heap.size 36 [.int .i64 age, .int .i64 type, .int .u32 lid, .int .u32 adv, .int .i64 seq, .slice q5 links.length d5, .int .u32 mask, .slice q7 routers.length d7, .int .i64 cost]) := Lib.hid (by rw [hW5]; exact BlkAt.new w5 36 [.int .i64 age, .int .i64 type, .int .u32 lid, .int .u32 adv, .int .i64 seq, .slice q5 links.length d5, .int .u32 mask, .slice q7 routers.length d7, .int .i64 cost])
    have hA5 := Lib.hid (hA4.out.keep k5' (fun f => f)); have hK5 := Lib.hid (hK4.out.trans k5'); have hL6 := Lib.hid (hL5.out.keep k5'); have hR6 := Lib.hid (hR5.out.keep k5'); have hrXd := Lib.hid (k5'.rangeAt hrXc.out (fun f => f))
    have ml5 := Lib.hid (ml'.out.keep k5a); have mr5 := Lib.hid (mr'.out.keep k5a)
    have hW5' := Lib.hid hW5
    clear ml mr ml' mr' k5 k5' k5a hW5 hA4 hK4 hL5 hR5 hrXc hbX hget'
    go_upto_region 8 with ((with_reducible refine at_store 7 ?_); refine wpList_store_new rfl 36 (.tmp 7) (.tmp 44) rfl _ _ rfl rfl lsaInfo rfl (lsa_one _ _ _ _ _ _ _ _ _ (slice_one _ _ _) (slice_one _ _ _)) ?_)
    rw [← hW5'.out]
    clear hW5'
    go_wp2_with fail
    have hhd := lsHead_yes gX oX cX PX (by rw [hLn'.out]; omega) (by rw [hLn'.out]; omega) (by rw [hLn'.out]; exact hcX) W5 hrXd
    rw [hLn'.out, hHd'.out] at hhd
    refine hhd.mono ?_
    rintro e w6 ⟨rfl, k6⟩
    clear hhd
    obtain ⟨W6, hW6⟩ : ∃ W6, W6 = w6.alloc (.cells #[.int .i64 age, .int .i64 type, .int .u32 lid, .int .u32 adv, .int .i64 seq, .int .u16 (Sm : Nat), .int .i64 (Ln : Nat)] 45) := ⟨_, rfl⟩
    have k6' : Keeps (fun _ => False) W5 W6 := by rw [hW6]; exact k6.alloc _
    have hH6 : Hid (BlkAt W6 w6.heap.size 45 [.int .i64 age, .int .i64 type, .int .u32 lid, .int .u32 adv, .int .i64 seq, .int .u16 (Sm : Nat), .int .i64 (Ln : Nat)]) := Lib.hid (by rw [hW6]; exact BlkAt.new w6 45 [.int .i64 age, .int .i64 type, .int .u32 lid, .int .u32 adv, .int .i64 seq, .int .u16 (Sm : Nat), .int .i64 (Ln : Nat)])
    have hA6 := Lib.hid (hA5.out.keep k6' (fun f => f)); have hK6 := Lib.hid (hK5.out.trans k6'); have hL7 := Lib.hid (hL6.out.keep k6'); have hR7 := Lib.hid (hR6.out.keep k6'); have hrXe := Lib.hid (k6'.rangeAt hrXd.out (fun f => f))
    have hM6 := Lib.hid (hM5.out.keep k6' (fun f => f)); have ml6 := Lib.hid (ml5.out.keep k6'); have mr6 := Lib.hid (mr5.out.keep k6')
    have hW6' := Lib.hid hW6
    clear k6 k6' hW6 hA5 hK5 hL6 hR6 hrXd hM5 ml5 mr5
    unfold headV
    simp only
    go_upto_region 9 with ((with_reducible refine at_store 9 ?_); refine wpList_store_new rfl 45 (.tmp 9) (.tmp 49) rfl _ _ rfl rfl headInfo rfl (head_one _ _ _ _ _ _ _) ?_)
    rw [← hW6'.out]
    clear hW6'
    have hsm : Hid (sameB ⟨age, type, lid, adv, seq, links, mask, routers, cost⟩ ⟨age, type, lid, adv, seq, links, mask, routers, cost⟩ = true) := Lib.hid (sameB_self _)
    have i20 : (20 : Int) ≤ cX := by omega
    have hcv : Hid (∀ W', Keeps (fun _ => False) W6 W' → (convert 29 9 (.slice (some ⟨gX, oX, none⟩) 20 cX)).run Try.prog W' = .ok (.string ⟨T20.toArray⟩) W') := Lib.hid (fun W' s => by
      have := conv_str gX oX cX T20 W' (by
        have h0 := range_part (s.rangeAt hrXe.out (fun f => f)) 0 20
        rwa [List.drop_zero, hT20'.out, Nat.add_zero] at h0)
      rw [hlT.out] at this; exact this)
    clear hT20'
    refine wp_region_noPanic ?_
    refine wp_region_held_drew (S := (fun W => Keeps (fun _ => False) W6 W)) (by kernel_rfl) (((Keeps.refl (fun _ => False) _).drew)) (fun hHeld => ?_)
    refine takeL 0 (v := ?_) rfl (by kernel_rfl) (by kernel_rfl) (by kernel_rfl) (fun _ _ _ h => h) (Or.inl ⟨by rfl, ?_⟩) (by assumption) ?_
    rotate_left
    · (intro wS hSw; go_simp; try with_reducible rfl)
    try simp only [Act.put, List.setIfInBounds_toArray, List.set_cons_zero, List.set_cons_succ]
    refine takeL 1 (v := ?_) rfl (by kernel_rfl) (by kernel_rfl) (by kernel_rfl) (fun _ _ _ h => h) (Or.inl ⟨by rfl, ?_⟩) (by assumption) ?_
    rotate_left
    · (intro wS hSw; go_simp; try with_reducible rfl)
    try simp only [Act.put, List.setIfInBounds_toArray, List.set_cons_zero, List.set_cons_succ]
    refine takeL 2 (v := ?_) rfl (by kernel_rfl) (by kernel_rfl) (by kernel_rfl) (fun _ _ _ h => h) (Or.inl ⟨by rfl, ?_⟩) (by assumption) ?_
    rotate_left
    · (intro wS hSw; go_simp; try with_reducible rfl)
    try simp only [Act.put, List.setIfInBounds_toArray, List.set_cons_zero, List.set_cons_succ]
    refine takeL 3 rfl (by kernel_rfl) (by kernel_rfl) (by kernel_rfl) (fun _ _ _ h => h) (yieldsIf_load_mid (by rfl) 36 (.tmp 7) rfl w5.heap.size 0 rfl [.int .i64 age, .int .i64 type, .int .u32 lid, .int .u32 adv, .int .i64 seq, .slice q5 links.length d5, .int .u32 mask, .slice q7 routers.length d7, .int .i64 cost] _ (fun _ s => (hM6.out.keep s (fun f => f)).range) Try.underlying36 rfl lsaInfo) (by assumption) ?_
    try simp only [Act.put, List.setIfInBounds_toArray, List.set_cons_zero, List.set_cons_succ]
    refine takeL 5 rfl (by kernel_rfl) (by kernel_rfl) (by kernel_rfl) (fun _ _ _ h => h) (yieldsIf_load_mid (by rfl) 28 (.tmp 1) rfl w.heap.size 0 rfl [.int .i64 age, .int .i64 type, .int .u32 lid, .int .u32 adv, .int .i64 seq, .slice p5 links.length c5, .int .u32 mask, .slice p7 routers.length c7, .int .i64 cost] _ (fun _ s => (hA6.out.keep s (fun f => f)).range) Try.underlying28 rfl lsaInfoR) (by assumption) ?_
    try simp only [Act.put, List.setIfInBounds_toArray, List.set_cons_zero, List.set_cons_succ]
    refine stepL 4 rfl (by kernel_rfl) (fun K hK => ?_)
    go_simp
    (refine (lwFrom_any age type seq cost lid adv mask links routers q5 q7 d5 d7 _ (Lib.hid (ml6.out.keep hHeld)) (Lib.hid (mr6.out.keep hHeld)) hll hrl).mono ?_; rintro e wA ⟨⟨x5, y5, x7, y7, rfl, fl1, fr1⟩, kA⟩)
    go_wp2_with fail
    refine hK.out _ _ ((hHeld.trans kA)) (fun hHeld => ?_)
    clear hK K
    try simp only [Act.put, List.setIfInBounds_toArray, List.set_cons_zero, List.set_cons_succ]
    refine stepL 6 rfl (by kernel_rfl) (fun K hK => ?_)
    go_simp
    (refine (r10Same_any age type seq cost age type seq cost lid adv mask lid adv mask links links routers routers x5 x7 p5 p7 y5 y7 c5 c7 true _ (by omega) (by omega) (by omega) (by omega) (Lib.hid fl1) (Lib.hid (hL7.out.keep hHeld)) (Lib.hid fr1) (Lib.hid (hR7.out.keep hHeld)) hsm).mono ?_; rintro e wB ⟨rfl, kB⟩)
    go_wp2_with fail
    refine hK.out _ _ ((hHeld.trans kB)) (fun hHeld => ?_)
    clear hK K
    try simp only [Act.put, List.setIfInBounds_toArray, List.set_cons_zero, List.set_cons_succ]
    clear fl1 fr1
    refine takeL 7 (v := ?_) rfl (by kernel_rfl) (by kernel_rfl) (by kernel_rfl) (fun _ _ _ h => h) (Or.inl ⟨by rfl, ?_⟩) (by assumption) ?_
    rotate_left
    · (intro wS hSw; go_simp; try with_reducible rfl)
    try simp only [Act.put, List.setIfInBounds_toArray, List.set_cons_zero, List.set_cons_succ]
    refine takeL 8 (v := ?_) rfl (by kernel_rfl) (by kernel_rfl) (by kernel_rfl) (fun _ _ _ h => h) (Or.inl ⟨by rfl, ?_⟩) (by assumption) ?_
    rotate_left
    · (intro wS hSw; go_simp; try with_reducible rfl)
    try simp only [Act.put, List.setIfInBounds_toArray, List.set_cons_zero, List.set_cons_succ]
    refine takeL 9 (v := ?_) rfl (by kernel_rfl) (by kernel_rfl) (by kernel_rfl) (fun _ _ _ h => h) (Or.inl ⟨by rfl, ?_⟩) (by assumption) ?_
    rotate_left
    · (intro wS hSw; go_simp; try with_reducible rfl)
    try simp only [Act.put, List.setIfInBounds_toArray, List.set_cons_zero, List.set_cons_succ]
    refine takeL 10 (v := ?_) rfl (by kernel_rfl) (by kernel_rfl) (by kernel_rfl) (fun _ _ _ h => h) (Or.inl ⟨by rfl, ?_⟩) (by assumption) ?_
    rotate_left
    · (intro wS hSw; go_simp; try with_reducible rfl)
    try simp only [Act.put, List.setIfInBounds_toArray, List.set_cons_zero, List.set_cons_succ]
    refine takeL 11 (v := ?_) rfl (by kernel_rfl) (by kernel_rfl) (by kernel_rfl) (fun _ _ _ h => h) (Or.inl ⟨by rfl, ?_⟩) (by assumption) ?_
    rotate_left
    · (intro wS hSw; go_simp; try with_reducible rfl)
    try simp only [Act.put, List.setIfInBounds_toArray, List.set_cons_zero, List.set_cons_succ]
    refine takeL 12 (v := ?_) rfl (by kernel_rfl) (by kernel_rfl) (by kernel_rfl) (fun _ _ _ h => h) (Or.inl ⟨by rfl, ?_⟩) (by assumption) ?_
    rotate_left
    · (intro wS hSw; go_simp; try with_reducible rfl)
    try simp only [Act.put, List.setIfInBounds_toArray, List.set_cons_zero, List.set_cons_succ]
    refine takeL 13 rfl (by kernel_rfl) (by kernel_rfl) (by kernel_rfl) (fun _ _ _ h => h) (yieldsIf_load_mid (by rfl) 45 (.tmp 9) rfl w6.heap.size 0 rfl [.int .i64 age, .int .i64 type, .int .u32 lid, .int .u32 adv, .int .i64 seq, .int .u16 (Sm : Nat), .int .i64 (Ln : Nat)] _ (fun _ s => (hH6.out.keep s (fun f => f)).range) Try.underlying45 rfl headInfo) (by assumption) ?_
    try simp only [Act.put, List.setIfInBounds_toArray, List.set_cons_zero, List.set_cons_succ]
    refine takeL 15 (v := ?_) rfl (by kernel_rfl) (by kernel_rfl) (by kernel_rfl) (fun _ _ _ h => h) (Or.inl ⟨by rfl, ?_⟩) (by assumption) ?_
    rotate_left
    · (intro wS hSw; go_simp; try with_reducible rfl)
    try simp only [Act.put, List.setIfInBounds_toArray, List.set_cons_zero, List.set_cons_succ]
    refine stepL 14 rfl (by kernel_rfl) (fun K hK => ?_)
    go_simp
    (refine (lwBack_any age type seq (Ln : Nat) lid adv Sm _).mono ?_; rintro e wC ⟨rfl, kC⟩)
    go_wp2_with fail
    refine hK.out _ _ ((hHeld.trans kC)) (fun hHeld => ?_)
    clear hK K
    try simp only [Act.put, List.setIfInBounds_toArray, List.set_cons_zero, List.set_cons_succ]
    have hhd := r10Head_yes gX oX cX PX (by rw [hLn'.out]; omega) (by rw [hLn'.out]; omega) (by rw [hLn'.out]; exact hcX) wC (Lib.hid (hHeld.rangeAt hrXe.out (fun f => f)))
    rw [hLn'.out, hHd'.out] at hhd
    unfold headV at hhd
    simp only at hhd
    have hhd' := Lib.hid hhd; clear hhd
    refine stepL 16 rfl (by kernel_rfl) (fun K hK => ?_)
    go_simp
    (refine hhd'.out.mono ?_; rintro e wD ⟨rfl, kD⟩)
    go_wp2_with fail
    refine hK.out _ _ ((hHeld.trans kD)) (fun hHeld => ?_)
    clear hK K
    try simp only [Act.put, List.setIfInBounds_toArray, List.set_cons_zero, List.set_cons_succ]
    clear hhd'
    refine takeL 17 (v := ?_) rfl (by kernel_rfl) (by kernel_rfl) (by kernel_rfl) (fun _ _ _ h => h) (Or.inl ⟨by rfl, ?_⟩) (by assumption) ?_
    rotate_left
    · (intro wS hSw; go_simp; try with_reducible rfl)
    try simp only [Act.put, List.setIfInBounds_toArray, List.set_cons_zero, List.set_cons_succ]
    refine takeL 18 (v := ?_) rfl (by kernel_rfl) (by kernel_rfl) (by kernel_rfl) (fun _ _ _ h => h) (Or.inl ⟨by rfl, ?_⟩) (by assumption) ?_
    rotate_left
    · (intro wS hSw; go_simp; try with_reducible rfl)
    try simp only [Act.put, List.setIfInBounds_toArray, List.set_cons_zero, List.set_cons_succ]
    refine takeL 19 (v := ?_) rfl (by kernel_rfl) (by kernel_rfl) (by kernel_rfl) (fun _ _ _ h => h) (Or.inl ⟨by rfl, ?_⟩) (by assumption) ?_
    rotate_left
    · (intro wS hSw; go_simp; try with_reducible rfl)
    try simp only [Act.put, List.setIfInBounds_toArray, List.set_cons_zero, List.set_cons_succ]
    refine takeL 20 rfl (by kernel_rfl) (by kernel_rfl) (by kernel_rfl) (fun _ _ _ h => h) (yieldsIf_load_mid (by rfl) 45 (.tmp 9) rfl w6.heap.size 0 rfl [.int .i64 age, .int .i64 type, .int .u32 lid, .int .u32 adv, .int .i64 seq, .int .u16 (Sm : Nat), .int .i64 (Ln : Nat)] _ (fun _ s => (hH6.out.keep s (fun f => f)).range) Try.underlying45 rfl headInfo) (by assumption) ?_
    try simp only [Act.put, List.setIfInBounds_toArray, List.set_cons_zero, List.set_cons_succ]
    refine takeL 23 (v := ?_) rfl (by kernel_rfl) (by kernel_rfl) (by kernel_rfl) (fun _ _ _ h => h) (Or.inl ⟨by rfl, ?_⟩) (by assumption) ?_
    rotate_left
    · (intro wS hSw; go_simp; try with_reducible rfl)
    try simp only [Act.put, List.setIfInBounds_toArray, List.set_cons_zero, List.set_cons_succ]
    refine takeL 24 (v := ?_) rfl (by kernel_rfl) (by kernel_rfl) (by kernel_rfl) (fun _ _ _ h => h) (Or.inl ⟨by rfl, ?_⟩) (by assumption) ?_
    rotate_left
    · (intro wS hSw; go_simp; try with_reducible rfl)
    try simp only [Act.put, List.setIfInBounds_toArray, List.set_cons_zero, List.set_cons_succ]
    refine takeL 25 rfl (by kernel_rfl) (by kernel_rfl) (by kernel_rfl) (fun _ _ _ h => h) (yieldsIf_conv (by rfl) 29 9 (.tmp 75) rfl _ (.string ⟨T20.toArray⟩) rfl (fun W' s => hcv.out W' s)) (by assumption) ?_
    try simp only [Act.put, List.setIfInBounds_toArray, List.set_cons_zero, List.set_cons_succ]
    refine stepL 21 rfl (by kernel_rfl) (fun K hK => ?_)
    go_simp
    (refine (lsPutHeader_any age type seq (Ln : Nat) lid adv Sm hok.out.id hok.out.adv lSm _).mono ?_; rintro e wE ⟨ph, ch, rfl, obH, kE⟩; rw [hHb'.out] at obH ⊢; rw [hlT.out] at obH ⊢; have cvH := Lib.hid (conv_bytes obH.bytes (by rw [hlT.out]; omega)); clear obH)
    go_wp2_with fail
    refine hK.out _ _ ((hHeld.trans kE)) (fun hHeld => ?_)
    clear hK K
    try simp only [Act.put, List.setIfInBounds_toArray, List.set_cons_zero, List.set_cons_succ]
    refine stepL 22 rfl (by kernel_rfl) (fun K hK => ?_)
    rw [if_pos (by rfl)]
    (refine wp_conv 29 9 (.tmp 72) rfl _ (.string ⟨T20.toArray⟩) rfl cvH.out ?_)
    refine hK.out _ _ (hHeld) (fun hHeld => ?_)
    clear hK K
    try simp only [Act.put, List.setIfInBounds_toArray, List.set_cons_zero, List.set_cons_succ]
    refine takeL 26 (v := ?_) rfl (by kernel_rfl) (by kernel_rfl) (by kernel_rfl) (fun _ _ _ h => h) (Or.inl ⟨by rfl, ?_⟩) (by assumption) ?_
    rotate_left
    · (intro wS hSw; go_simp; try with_reducible rfl)
    try simp only [Act.put, List.setIfInBounds_toArray, List.set_cons_zero, List.set_cons_succ]
    refine takeL 27 (v := ?_) rfl (by kernel_rfl) (by kernel_rfl) (by kernel_rfl) (fun _ _ _ h => h) (Or.inl ⟨by rfl, ?_⟩) (by assumption) ?_
    rotate_left
    · (intro wS hSw; go_simp; try with_reducible rfl)
    try simp only [Act.put, List.setIfInBounds_toArray, List.set_cons_zero, List.set_cons_succ]
    refine takeL 28 (v := ?_) rfl (by kernel_rfl) (by kernel_rfl) (by kernel_rfl) (fun _ _ _ h => h) (Or.inl ⟨by rfl, ?_⟩) (by assumption) ?_
    rotate_left
    · (intro wS hSw; go_simp; try with_reducible rfl)
    try simp only [Act.put, List.setIfInBounds_toArray, List.set_cons_zero, List.set_cons_succ]
    refine takeL 29 (v := ?_) rfl (by kernel_rfl) (by kernel_rfl) (by kernel_rfl) (fun _ _ _ h => h) (Or.inl ⟨by rfl, ?_⟩) (by assumption) ?_
    rotate_left
    · (intro wS hSw; go_simp; try with_reducible rfl)
    try simp only [Act.put, List.setIfInBounds_toArray, List.set_cons_zero, List.set_cons_succ]
    refine takeL 30 rfl (by kernel_rfl) (by kernel_rfl) (by kernel_rfl) (fun _ _ _ h => h) (yieldsIf_load_cell (by rfl) 3 (.tmp 80) rfl w6.heap.size 6 rfl _ (fun W' s => (hH6.out.keep s (fun f => f)).cell 6 (.int .i64 (Ln : Nat)) rfl) (fun w s => load_int w _ _ _ s)) (by assumption) ?_
    try simp only [Act.put, List.setIfInBounds_toArray, List.set_cons_zero, List.set_cons_succ]
    refine takeL 31 (v := ?_) rfl (by kernel_rfl) (by kernel_rfl) (by kernel_rfl) (fun _ _ _ h => h) (Or.inl ⟨by rfl, ?_⟩) (by assumption) ?_
    rotate_left
    · (intro wS hSw; go_simp; try with_reducible rfl)
    try simp only [Act.put, List.setIfInBounds_toArray, List.set_cons_zero, List.set_cons_succ]
    refine takeL 32 (v := ?_) rfl (by kernel_rfl) (by kernel_rfl) (by kernel_rfl) (fun _ _ _ h => h) (Or.inl ⟨by rfl, ?_⟩) (by assumption) ?_
    rotate_left
    · (intro wS hSw; go_simp; try with_reducible rfl)
    try simp only [Act.put, List.setIfInBounds_toArray, List.set_cons_zero, List.set_cons_succ]
    refine takeL 33 (v := ?_) rfl (by kernel_rfl) (by kernel_rfl) (by kernel_rfl) (fun _ _ _ h => h) (Or.inl ⟨by rfl, ?_⟩) (by assumption) ?_
    rotate_left
    · (intro wS hSw; go_simp; try with_reducible rfl)
    try simp only [Act.put, List.setIfInBounds_toArray, List.set_cons_zero, List.set_cons_succ]
    refine takeL 34 (v := ?_) rfl (by kernel_rfl) (by kernel_rfl) (by kernel_rfl) (fun _ _ _ h => h) (Or.inl ⟨by rfl, ?_⟩) (by assumption) ?_
    rotate_left
    · (intro wS hSw; go_simp; try with_reducible rfl)
    try simp only [Act.put, List.setIfInBounds_toArray, List.set_cons_zero, List.set_cons_succ]
    refine takeL 35 (v := ?_) rfl (by kernel_rfl) (by kernel_rfl) (by kernel_rfl) (fun _ _ _ h => h) (Or.inl ⟨by rfl, ?_⟩) (by assumption) ?_
    rotate_left
    · (intro wS hSw; go_simp; try with_reducible rfl)
    try simp only [Act.put, List.setIfInBounds_toArray, List.set_cons_zero, List.set_cons_succ]
    refine wpAnyH_done (by kernel_rfl) (NoPanic.normal ?_) _
    have hfin := Lib.hid (hK6.out.trans hHeld)
    clear hHeld
    go_wp2_with fail
    go_ret
    exact ⟨rfl, hfin.out⟩
end Go.Proofs.Ytiogeepffdpafaa
