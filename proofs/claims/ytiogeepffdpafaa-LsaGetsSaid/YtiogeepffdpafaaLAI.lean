/- The document's Head (gen_lai.py writes this out of lsa.Head's walk), and the law's back. -/
import Derived.Test.YtiogeepffdpafaaLAH
import Derived.StillTailTactics
namespace Go.Proofs.Ytiogeepffdpafaa
open Go.RowKit

theorem r10HeadInfo : (Try.prog.info? 51).map (·.size) = some 7 := by kernel_rfl
theorem r10Num_still (sl : Value) (l : List UInt8) (n : Nat) (hl : l.length ≤ 4) (w : World) (h : Hid (BytesAt w sl l)) (hn : Hid (beVal l = n)) :
    Calls Try.prog 66 #[sl] w fun e w' => e = .returned (.int .i64 n) ∧ w' = w :=
  (r10Num_any sl l hl w h).mono fun e w' ⟨he, hw⟩ => ⟨by rw [he, hn.out], hw.symm⟩
set_option maxRecDepth 100000 in
set_option maxHeartbeats 4000000 in
theorem r10Head_yes (g o c : Nat) (l : List UInt8) (hl : 20 ≤ l.length) (hl2 : l.length ≤ 9223372036854775807) (hc : l.length ≤ c) (w : World) (hr : Hid (w.rangeAt g o (l.map bv))) :
    Calls Try.prog 22 #[.slice (some ⟨g, o, none⟩) l.length c] w fun e w' => e = .returned (headV (headOf l)) ∧ Keeps (fun _ => False) w w' := by
  obtain ⟨H, hQ⟩ : ∃ H, headOf l = H := ⟨_, rfl⟩
  rw [hQ]
  have i2 : (2 : Int) ≤ c := by omega
  have i8 : (8 : Int) ≤ c := by omega
  have i12 : (12 : Int) ≤ c := by omega
  have i16 : (16 : Int) ≤ c := by omega
  have i18 : (18 : Int) ≤ c := by omega
  have i20 : (20 : Int) ≤ c := by omega
  have j4 : ¬ c = 4 := by omega
  have j8 : ¬ c = 8 := by omega
  have j12 : ¬ c = 12 := by omega
  have j16 : ¬ c = 16 := by omega
  have j18 : ¬ c = 18 := by omega
  have i3 : (3 : Int) < l.length := by omega
  have hk0 : Hid (Keeps (fun _ => False) w (w.alloc (.cells #[.int .i64 0, .int .i64 0, .int .u32 0, .int .u32 0, .int .i64 0, .int .u16 0, .int .i64 0] 51))) := Lib.hid ((Keeps.refl _ _).alloc _)
  have hb0 : Hid (World.blockAt (w.alloc (.cells #[.int .i64 0, .int .i64 0, .int .u32 0, .int .u32 0, .int .i64 0, .int .u16 0, .int .i64 0] 51)) w.heap.size 51 7) := Lib.hid ⟨_, heap_alloc_last w _, rfl⟩
  go_enter Try.func22, Try.ntmps22
  go_upto_region 1 with fail
  generalize w.alloc (.cells #[.int .i64 0, .int .i64 0, .int .u32 0, .int .u32 0, .int .i64 0, .int .u16 0, .int .i64 0] 51) = w0 at hk0 hb0 ⊢
  have hr0 := Lib.hid (hk0.out.rangeAt hr.out id)
  have c3 := drop_cell hr0.out 3 (by omega)
  obtain ⟨n0, hn0⟩ : ∃ n, beVal (sub l 0 2) = n := ⟨_, rfl⟩
  obtain ⟨n4, hn4⟩ : ∃ n, beVal (sub l 4 4) = n := ⟨_, rfl⟩
  obtain ⟨n8, hn8⟩ : ∃ n, beVal (sub l 8 4) = n := ⟨_, rfl⟩
  obtain ⟨n12, hn12⟩ : ∃ n, beVal (sub l 12 4) = n := ⟨_, rfl⟩
  obtain ⟨n16, hn16⟩ : ∃ n, beVal (sub l 16 2) = n := ⟨_, rfl⟩
  obtain ⟨n18, hn18⟩ : ∃ n, beVal (sub l 18 2) = n := ⟨_, rfl⟩
  have b0 := sub_lt (x := l) (i := 0) (n := 2) (by omega)
  have b4 := sub_lt (x := l) (i := 4) (n := 4) (by omega)
  have b8 := sub_lt (x := l) (i := 8) (n := 4) (by omega)
  have b12 := sub_lt (x := l) (i := 12) (n := 4) (by omega)
  have b16 := sub_lt (x := l) (i := 16) (n := 2) (by omega)
  have b18 := sub_lt (x := l) (i := 18) (n := 2) (by omega)
  rw [hn0] at b0; rw [hn4] at b4; rw [hn8] at b8; rw [hn12] at b12; rw [hn16] at b16; rw [hn18] at b18
  simp only [show (256 : Nat) ^ 2 = 65536 from rfl, show (256 : Nat) ^ 4 = 4294967296 from rfl] at b0 b4 b8 b12 b16 b18
  have b3 := (l[3]'(by omega)).toNat_lt
  have hs32 : IntKind.i32.wrap (n12 : Int) = sgn32 n12 := sgn32_wrap n12 b12
  have hs1 := sgn32_lo n12 b12
  have hs2 := sgn32_hi n12 b12
  obtain ⟨q12, hq12⟩ : ∃ q, sgn32 n12 = q := ⟨_, rfl⟩
  rw [hq12] at hs32 hs1 hs2
  have hfin : headOf l = ⟨n0, ((l[3]'(by omega)).toNat : Int), n4, n8, q12, n16, n18⟩ := by
    unfold headOf
    rw [hn0, hn4, hn8, hn12, hn16, hn18, hq12, List.getD_eq_getElem?_getD, List.getElem?_eq_getElem (by omega)]; rfl
  rw [hfin] at hQ
  have v0 : IntKind.i64.wrap (n0 : Int) = (n0 : Int) := IntWalk.i64_in _ (by omega)
  have v3 : IntKind.i64.wrap ((l[3]'(by omega)).toNat : Int) = ((l[3]'(by omega)).toNat : Int) := IntWalk.i64_in _ (by omega)
  have v12 : IntKind.i64.wrap q12 = q12 := IntWalk.i64_in _ (by omega)
  have v4 : IntKind.u32.wrap (n4 : Int) = (n4 : Int) := by rw [u32_wrap]; omega
  have v8 : IntKind.u32.wrap (n8 : Int) = (n8 : Int) := by rw [u32_wrap]; omega
  have v16 : IntKind.u16.wrap (n16 : Int) = (n16 : Int) := by rw [u16_wrap]; omega
  have v18 : IntKind.i64.wrap (n18 : Int) = (n18 : Int) := IntWalk.i64_in _ (by omega)
  have hrd := Lib.hid (((Keeps.refl (fun _ => False) w0).drew).rangeAt hr0.out id)
  have k0 := Lib.hid (bytes_sub hrd.out hc 0 2 (by omega))
  have k4 := Lib.hid (bytes_sub hrd.out hc 4 4 (by omega))
  have k8 := Lib.hid (bytes_sub hrd.out hc 8 4 (by omega))
  have k12 := Lib.hid (bytes_sub hrd.out hc 12 4 (by omega))
  have k16 := Lib.hid (bytes_sub hrd.out hc 16 2 (by omega))
  have k18 := Lib.hid (bytes_sub hrd.out hc 18 2 (by omega))
  rw [Nat.add_zero, Nat.sub_zero] at k0
  have s0 : (sub l 0 2).length ≤ 4 := by rw [sub_len (by omega)]; omega
  have s4 : (sub l 4 4).length ≤ 4 := by rw [sub_len (by omega)]; omega
  have s8 : (sub l 8 4).length ≤ 4 := by rw [sub_len (by omega)]; omega
  have s12 : (sub l 12 4).length ≤ 4 := by rw [sub_len (by omega)]; omega
  have s16 : (sub l 16 2).length ≤ 4 := by rw [sub_len (by omega)]; omega
  have s18 : (sub l 18 2).length ≤ 4 := by rw [sub_len (by omega)]; omega
  have hn0' := Lib.hid hn0; have hn4' := Lib.hid hn4; have hn8' := Lib.hid hn8; have hn12' := Lib.hid hn12; have hn16' := Lib.hid hn16; have hn18' := Lib.hid hn18
  clear hn0 hn4 hn8 hn12 hn16 hn18 hfin hq12
  refine wp_region_still_tail 29 (by kernel_rfl) (by kernel_rfl) ?_
  simp only [List.take_succ_cons, List.take_zero, List.drop_succ_cons, List.drop_zero]
  repeat still_step
  still_call (r10Num_still _ _ n0 s0 _ k0 hn0')
  repeat still_step
  still_call (r10Num_still _ _ n4 s4 _ k4 hn4')
  repeat still_step
  still_call (r10Num_still _ _ n8 s8 _ k8 hn8')
  repeat still_step
  still_call (r10Num_still _ _ n12 s12 _ k12 hn12')
  repeat still_step
  still_call (r10Num_still _ _ n16 s16 _ k16 hn16')
  repeat still_step
  still_call (r10Num_still _ _ n18 s18 _ k18 hn18')
  repeat still_step
  refine wpStill_nil ?_
  change wpList _ _ _ _ _ w0.drew
  clear v4 v8 v0 v3 v12 v16 v18 j4 j8 j12 j16 j18 hs32 i2 i8 i12 i16 i18 i20 i3 k0 k4 k8 k12 k16 k18 c3
  have hth := Lib.hid (hb0.out.keep ((Keeps.refl (fun _ => False) _).drew) id)
  refine (wpList_store_mid rfl 51 (.tmp 2) (.tmp 31) rfl w.heap.size 0 #[.int .i64 n0, .int .i64 ((l[3]'(by omega)).toNat : Nat), .int .u32 n4, .int .u32 n8, .int .i64 q12, .int .u16 n16, .int .i64 n18] rfl rfl (hth.out.there 0 7 (by omega)) r10HeadInfo (head_one _ _ _ _ _ _ _) ?_)
  have hk9 : Hid (Keeps (fun _ => False) w (w0.drew.setCells w.heap.size 0 [.int .i64 n0, .int .i64 ((l[3]'(by omega)).toNat : Nat), .int .u32 n4, .int .u32 n8, .int .i64 q12, .int .u16 n16, .int .i64 n18])) := Lib.hid (Keeps.setCells (.inr (Nat.le_refl _)) _ _ _ hk0.out.drew)
  have hr9 : Hid ((w0.drew.setCells w.heap.size 0 [.int .i64 n0, .int .i64 ((l[3]'(by omega)).toNat : Nat), .int .u32 n4, .int .u32 n8, .int .i64 q12, .int .u16 n16, .int .i64 n18]).rangeAt w.heap.size 0 [.int .i64 n0, .int .i64 ((l[3]'(by omega)).toNat : Nat), .int .u32 n4, .int .u32 n8, .int .i64 q12, .int .u16 n16, .int .i64 n18]) := Lib.hid (World.rangeAt_setCells_same _ _ _ _ (hth.out.there 0 7 (by omega)))
  change wpList _ _ _ _ _ (w0.drew.setCells w.heap.size 0 [.int .i64 n0, .int .i64 ((l[3]'(by omega)).toNat : Nat), .int .u32 n4, .int .u32 n8, .int .i64 q12, .int .u16 n16, .int .i64 n18])
  generalize w0.drew.setCells w.heap.size 0 [.int .i64 n0, .int .i64 ((l[3]'(by omega)).toNat : Nat), .int .u32 n4, .int .u32 n8, .int .i64 q12, .int .u16 n16, .int .i64 n18] = w9 at hk9 hr9 ⊢
  go_wp2_with fail
  have e0 := rangeAt_cell hr9.out 0 _ rfl
  have e1 := rangeAt_cell hr9.out 1 _ rfl
  have e2 := rangeAt_cell hr9.out 2 _ rfl
  have e3 := rangeAt_cell hr9.out 3 _ rfl
  have e4 := rangeAt_cell hr9.out 4 _ rfl
  have e5 := rangeAt_cell hr9.out 5 _ rfl
  have e6 := rangeAt_cell hr9.out 6 _ rfl
  refine bodyPost_ret (v := .agg #[.int .i64 n0, .int .i64 ((l[3]'(by omega)).toNat : Nat), .int .u32 n4, .int .u32 n8, .int .i64 q12, .int .u16 n16, .int .i64 n18]) (by simp [results, Try.results22, go_sem, e0, e1, e2, e3, e4, e5, e6]) rfl ⟨?_, hk9.out⟩
  rw [← hQ]; rfl

set_option maxRecDepth 100000 in
theorem lwBack_any (age type seq len : Int) (lid adv sum : Nat) (w : World) :
    Calls Try.prog 21 #[.agg #[.int .i64 age, .int .i64 type, .int .u32 lid, .int .u32 adv, .int .i64 seq, .int .u16 sum, .int .i64 len]] w (fun e w' => e = .returned (.agg #[.int .i64 age, .int .i64 type, .int .u32 lid, .int .u32 adv, .int .i64 seq, .int .u16 sum, .int .i64 len]) ∧ Keeps (fun _ => False) w w') := by
  have hA : Hid (BlkAt ((w.alloc (.cells #[.int .i64 age, .int .i64 type, .int .u32 lid, .int .u32 adv, .int .i64 seq, .int .u16 sum, .int .i64 len] 45)).alloc (.cells #[.int .i64 0, .int .i64 0, .int .u32 0, .int .u32 0, .int .i64 0, .int .u16 0, .int .i64 0] 51)) w.heap.size 45 [.int .i64 age, .int .i64 type, .int .u32 lid, .int .u32 adv, .int .i64 seq, .int .u16 sum, .int .i64 len]) := Lib.hid ((BlkAt.new w 45 [.int .i64 age, .int .i64 type, .int .u32 lid, .int .u32 adv, .int .i64 seq, .int .u16 sum, .int .i64 len]).keep ((Keeps.refl (fun _ => False) _).alloc _) (fun f => f))
  have hB : Hid (BlkAt ((w.alloc (.cells #[.int .i64 age, .int .i64 type, .int .u32 lid, .int .u32 adv, .int .i64 seq, .int .u16 sum, .int .i64 len] 45)).alloc (.cells #[.int .i64 0, .int .i64 0, .int .u32 0, .int .u32 0, .int .i64 0, .int .u16 0, .int .i64 0] 51)) (w.heap.size + 1) 51 [.int .i64 0, .int .i64 0, .int .u32 0, .int .u32 0, .int .i64 0, .int .u16 0, .int .i64 0]) := Lib.hid (by have := BlkAt.new (w.alloc (.cells #[.int .i64 age, .int .i64 type, .int .u32 lid, .int .u32 adv, .int .i64 seq, .int .u16 sum, .int .i64 len] 45)) 51 [.int .i64 0, .int .i64 0, .int .u32 0, .int .u32 0, .int .i64 0, .int .u16 0, .int .i64 0]; simpa using this)
  have hK : Hid (Keeps (fun _ => False) w ((w.alloc (.cells #[.int .i64 age, .int .i64 type, .int .u32 lid, .int .u32 adv, .int .i64 seq, .int .u16 sum, .int .i64 len] 45)).alloc (.cells #[.int .i64 0, .int .i64 0, .int .u32 0, .int .u32 0, .int .i64 0, .int .u16 0, .int .i64 0] 51))) := Lib.hid (((Keeps.refl _ _).alloc _).alloc _)
  go_enter Try.func21, Try.ntmps21
  go_upto_region 1 with fail
  generalize (w.alloc (.cells #[.int .i64 age, .int .i64 type, .int .u32 lid, .int .u32 adv, .int .i64 seq, .int .u16 sum, .int .i64 len] 45)).alloc (.cells #[.int .i64 0, .int .i64 0, .int .u32 0, .int .u32 0, .int .i64 0, .int .u16 0, .int .i64 0] 51) = w0 at hA hB hK ⊢
  have a0 := hA.out.cell 0 _ rfl
  have a1 := hA.out.cell 1 _ rfl
  have a2 := hA.out.cell 2 _ rfl
  have a3 := hA.out.cell 3 _ rfl
  have a4 := hA.out.cell 4 _ rfl
  have a5 := hA.out.cell 5 _ rfl
  have a6 := hA.out.cell 6 _ rfl
  go_wp2_with ((with_reducible refine at_store 2 ?_); refine wpList_store_blk rfl 51 (.tmp 2) (.tmp 21) rfl (w.heap.size + 1) #[.int .i64 age, .int .i64 type, .int .u32 lid, .int .u32 adv, .int .i64 seq, .int .u16 sum, .int .i64 len] rfl rfl (hB.out.there 0 7 (Nat.le_refl _)) r10HeadInfo (head_one _ _ _ _ _ _ _) ?_; intro w1 hr9 hk9)
  have e0 := rangeAt_cell hr9.out 0 (.int .i64 age) rfl
  have e1 := rangeAt_cell hr9.out 1 (.int .i64 type) rfl
  have e2 := rangeAt_cell hr9.out 2 (.int .u32 lid) rfl
  have e3 := rangeAt_cell hr9.out 3 (.int .u32 adv) rfl
  have e4 := rangeAt_cell hr9.out 4 (.int .i64 seq) rfl
  have e5 := rangeAt_cell hr9.out 5 (.int .u16 sum) rfl
  have e6 := rangeAt_cell hr9.out 6 (.int .i64 len) rfl
  refine bodyPost_ret (v := .agg #[.int .i64 age, .int .i64 type, .int .u32 lid, .int .u32 adv, .int .i64 seq, .int .u16 sum, .int .i64 len]) (by simp [results, Try.results21, go_sem, e0, e1, e2, e3, e4, e5, e6]) rfl ⟨rfl, hK.out.trans' hk9.out (fun i e => .inr (by omega))⟩
end Go.Proofs.Ytiogeepffdpafaa
