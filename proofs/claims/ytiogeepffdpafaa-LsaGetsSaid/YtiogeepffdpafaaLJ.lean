/- lsa.Head, walked. -/
import Derived.Test.YtiogeepffdpafaaLI
import Derived.StillTailTactics
namespace Go.Proofs.Ytiogeepffdpafaa
open Go.RowKit

def sub (x : List UInt8) (i n : Nat) : List UInt8 := (x.drop i).take n
theorem sub_len {x : List UInt8} {i n : Nat} (h : i + n ≤ x.length) : (sub x i n).length = n := by unfold sub; simp; omega
/-- the number of 32 bits, with a sign -/
def sgn32 (n : Nat) : Int := if n < 2147483648 then (n : Int) else (n : Int) - 4294967296
/-- what 20 bytes tell -/
def headOf (x : List UInt8) : HeadD := ⟨(beVal (sub x 0 2) : Nat), ((x.getD 3 0).toNat : Int), beVal (sub x 4 4), beVal (sub x 8 4), sgn32 (beVal (sub x 12 4)), beVal (sub x 16 2), (beVal (sub x 18 2) : Nat)⟩
theorem bytes_sub {w : World} {g o c : Nat} {l : List UInt8} (h : w.rangeAt g o (l.map bv)) (hc : l.length ≤ c) (i n : Nat) (hi : i + n ≤ l.length) :
    BytesAt w (.slice (some ⟨g, o + i, none⟩) n (c - i)) (sub l i n) := by
  have := range_part h i n
  exact BytesAt.of (sub_len hi) (by omega) this
theorem headInfo : (Try.prog.info? 45).map (·.size) = some 7 := by kernel_rfl

theorem sub_lt {x : List UInt8} {i n : Nat} (h : i + n ≤ x.length) : beVal (sub x i n) < 256 ^ n := by
  have := beVal_lt (sub x i n)
  rwa [sub_len h] at this
theorem sgn32_wrap (n : Nat) (h : n < 4294967296) : IntKind.i32.wrap (n : Int) = sgn32 n := by
  unfold IntKind.wrap sgn32
  have h1 : IntKind.i32.signed = true := rfl
  have h2 : (2 : Int) ^ IntKind.i32.bits = 4294967296 := rfl
  have h3 : (2 : Int) ^ (IntKind.i32.bits - 1) = 2147483648 := rfl
  simp only [h1, h2, h3, Bool.true_and, ge_iff_le, decide_eq_true_eq]
  split <;> split <;> omega
theorem sgn32_lo (n : Nat) (h : n < 4294967296) : -2147483648 ≤ sgn32 n := by unfold sgn32; split <;> omega
theorem sgn32_hi (n : Nat) (h : n < 4294967296) : sgn32 n ≤ 2147483647 := by unfold sgn32; split <;> omega
theorem wiRead_still (sl : Value) (l : List UInt8) (n : Nat) (hl : l.length ≤ 4) (w : World) (h : Hid (BytesAt w sl l)) (hn : Hid (beVal l = n)) :
    Calls Try.prog 65 #[sl] w fun e w' => e = .returned (.int .u32 n) ∧ w' = w :=
  (wiRead_r sl l n hl w h hn).mono fun e w' ⟨he, hw⟩ => ⟨he, hw.symm⟩
theorem head_one (a b c d x f g : Int) : (#[.int .i64 a, .int .i64 b, .int .u32 c, .int .u32 d, .int .i64 x, .int .u16 f, .int .i64 g] : Array Value).all (·.oneCell') = true := by simp; exact ⟨rfl, rfl, rfl, rfl, rfl, rfl, rfl⟩
set_option maxRecDepth 100000 in
set_option maxHeartbeats 4000000 in
theorem lsHead_yes (g o c : Nat) (l : List UInt8) (hl : 20 ≤ l.length) (hl2 : l.length ≤ 9223372036854775807) (hc : l.length ≤ c) (w : World) (hr : Hid (w.rangeAt g o (l.map bv))) :
    Calls Try.prog 18 #[.slice (some ⟨g, o, none⟩) l.length c] w fun e w' => e = .returned (.tuple #[headV (headOf l), .int .i64 0]) ∧ Keeps (fun _ => False) w w' := by
  obtain ⟨H, hQ⟩ : ∃ H, headOf l = H := ⟨_, rfl⟩
  rw [hQ]
  have i2 : (2 : Int) ≤ c := by omega
  have i8 : (8 : Int) ≤ c := by omega
  have i12 : (12 : Int) ≤ c := by omega
  have i16 : (16 : Int) ≤ c := by omega
  have i18 : (18 : Int) ≤ c := by omega
  have i20 : (20 : Int) ≤ c := by omega
  have j4 : ¬ c = 4 := by omega
  have j8 : ¬ c = 8 := by omega
  have j12 : ¬ c = 12 := by omega
  have j16 : ¬ c = 16 := by omega
  have j18 : ¬ c = 18 := by omega
  have i3 : (3 : Int) < l.length := by omega
  have hk0 : Hid (Keeps (fun _ => False) w (w.alloc (.cells #[.int .i64 0, .int .i64 0, .int .u32 0, .int .u32 0, .int .i64 0, .int .u16 0, .int .i64 0] 45))) := Lib.hid ((Keeps.refl _ _).alloc _)
  have hb0 : Hid (World.blockAt (w.alloc (.cells #[.int .i64 0, .int .i64 0, .int .u32 0, .int .u32 0, .int .i64 0, .int .u16 0, .int .i64 0] 45)) w.heap.size 45 7) := Lib.hid ⟨_, heap_alloc_last w _, rfl⟩
  go_enter Try.func18, Try.ntmps18
  go_upto_region 3 with fail
  generalize w.alloc (.cells #[.int .i64 0, .int .i64 0, .int .u32 0, .int .u32 0, .int .i64 0, .int .u16 0, .int .i64 0] 45) = w0 at hk0 hb0 ⊢
  have hr0 := Lib.hid (hk0.out.rangeAt hr.out id)
  have c3 := drop_cell hr0.out 3 (by omega)
  obtain ⟨n0, hn0⟩ : ∃ n, beVal (sub l 0 2) = n := ⟨_, rfl⟩
  obtain ⟨n4, hn4⟩ : ∃ n, beVal (sub l 4 4) = n := ⟨_, rfl⟩
  obtain ⟨n8, hn8⟩ : ∃ n, beVal (sub l 8 4) = n := ⟨_, rfl⟩
  obtain ⟨n12, hn12⟩ : ∃ n, beVal (sub l 12 4) = n := ⟨_, rfl⟩
  obtain ⟨n16, hn16⟩ : ∃ n, beVal (sub l 16 2) = n := ⟨_, rfl⟩
  obtain ⟨n18, hn18⟩ : ∃ n, beVal (sub l 18 2) = n := ⟨_, rfl⟩
  have b0 := sub_lt (x := l) (i := 0) (n := 2) (by omega)
  have b4 := sub_lt (x := l) (i := 4) (n := 4) (by omega)
  have b8 := sub_lt (x := l) (i := 8) (n := 4) (by omega)
  have b12 := sub_lt (x := l) (i := 12) (n := 4) (by omega)
  have b16 := sub_lt (x := l) (i := 16) (n := 2) (by omega)
  have b18 := sub_lt (x := l) (i := 18) (n := 2) (by omega)
  rw [hn0] at b0; rw [hn4] at b4; rw [hn8] at b8; rw [hn12] at b12; rw [hn16] at b16; rw [hn18] at b18
  simp only [show (256 : Nat) ^ 2 = 65536 from rfl, show (256 : Nat) ^ 4 = 4294967296 from rfl] at b0 b4 b8 b12 b16 b18
  have b3 := (l[3]'(by omega)).toNat_lt
  have hs32 : IntKind.i32.wrap (n12 : Int) = sgn32 n12 := sgn32_wrap n12 b12
  have hs1 := sgn32_lo n12 b12
  have hs2 := sgn32_hi n12 b12
  obtain ⟨q12, hq12⟩ : ∃ q, sgn32 n12 = q := ⟨_, rfl⟩
  rw [hq12] at hs32 hs1 hs2
  have hfin : headOf l = ⟨n0, ((l[3]'(by omega)).toNat : Int), n4, n8, q12, n16, n18⟩ := by
    unfold headOf
    rw [hn0, hn4, hn8, hn12, hn16, hn18, hq12, List.getD_eq_getElem?_getD, List.getElem?_eq_getElem (by omega)]; rfl
  rw [hfin] at hQ
  have v0 : IntKind.i64.wrap (n0 : Int) = (n0 : Int) := IntWalk.i64_in _ (by omega)
  have v3 : IntKind.i64.wrap ((l[3]'(by omega)).toNat : Int) = ((l[3]'(by omega)).toNat : Int) := IntWalk.i64_in _ (by omega)
  have v12 : IntKind.i64.wrap q12 = q12 := IntWalk.i64_in _ (by omega)
  have v16 : IntKind.u16.wrap (n16 : Int) = (n16 : Int) := by rw [u16_wrap]; omega
  have v18 : IntKind.i64.wrap (n18 : Int) = (n18 : Int) := IntWalk.i64_in _ (by omega)
  have hrd := Lib.hid (((Keeps.refl (fun _ => False) w0).drew).rangeAt hr0.out id)
  have k0 := Lib.hid (bytes_sub hrd.out hc 0 2 (by omega))
  have k4 := Lib.hid (bytes_sub hrd.out hc 4 4 (by omega))
  have k8 := Lib.hid (bytes_sub hrd.out hc 8 4 (by omega))
  have k12 := Lib.hid (bytes_sub hrd.out hc 12 4 (by omega))
  have k16 := Lib.hid (bytes_sub hrd.out hc 16 2 (by omega))
  have k18 := Lib.hid (bytes_sub hrd.out hc 18 2 (by omega))
  rw [Nat.add_zero, Nat.sub_zero] at k0
  have s0 : (sub l 0 2).length ≤ 4 := by rw [sub_len (by omega)]; omega
  have s4 : (sub l 4 4).length ≤ 4 := by rw [sub_len (by omega)]; omega
  have s8 : (sub l 8 4).length ≤ 4 := by rw [sub_len (by omega)]; omega
  have s12 : (sub l 12 4).length ≤ 4 := by rw [sub_len (by omega)]; omega
  have s16 : (sub l 16 2).length ≤ 4 := by rw [sub_len (by omega)]; omega
  have s18 : (sub l 18 2).length ≤ 4 := by rw [sub_len (by omega)]; omega
  have hn0' := Lib.hid hn0; have hn4' := Lib.hid hn4; have hn8' := Lib.hid hn8; have hn12' := Lib.hid hn12; have hn16' := Lib.hid hn16; have hn18' := Lib.hid hn18
  clear hn0 hn4 hn8 hn12 hn16 hn18 hfin hq12
  refine wp_region_still_tail 29 (by kernel_rfl) (by kernel_rfl) ?_
  simp only [List.take_succ_cons, List.take_zero, List.drop_succ_cons, List.drop_zero]
  repeat still_step
  still_call (wiRead_still _ _ n0 s0 _ k0 hn0')
  repeat still_step
  still_call (wiRead_still _ _ n4 s4 _ k4 hn4')
  repeat still_step
  still_call (wiRead_still _ _ n8 s8 _ k8 hn8')
  repeat still_step
  still_call (wiRead_still _ _ n12 s12 _ k12 hn12')
  repeat still_step
  still_call (wiRead_still _ _ n16 s16 _ k16 hn16')
  repeat still_step
  still_call (wiRead_still _ _ n18 s18 _ k18 hn18')
  repeat still_step
  refine wpStill_nil ?_
  change wpList _ _ _ _ _ w0.drew
  clear v0 v3 v12 v16 v18 j4 j8 j12 j16 j18 hs32 i2 i8 i12 i16 i18 i20 i3 k0 k4 k8 k12 k16 k18 c3
  have hth := Lib.hid (hb0.out.keep ((Keeps.refl (fun _ => False) _).drew) id)
  refine (wpList_store_mid rfl 45 (.tmp 2) (.tmp 36) rfl w.heap.size 0 #[.int .i64 n0, .int .i64 ((l[3]'(by omega)).toNat : Nat), .int .u32 n4, .int .u32 n8, .int .i64 q12, .int .u16 n16, .int .i64 n18] rfl rfl (hth.out.there 0 7 (by omega)) headInfo (head_one _ _ _ _ _ _ _) ?_)
  have hk9 : Hid (Keeps (fun _ => False) w (w0.drew.setCells w.heap.size 0 [.int .i64 n0, .int .i64 ((l[3]'(by omega)).toNat : Nat), .int .u32 n4, .int .u32 n8, .int .i64 q12, .int .u16 n16, .int .i64 n18])) := Lib.hid (Keeps.setCells (.inr (Nat.le_refl _)) _ _ _ hk0.out.drew)
  have hr9 : Hid ((w0.drew.setCells w.heap.size 0 [.int .i64 n0, .int .i64 ((l[3]'(by omega)).toNat : Nat), .int .u32 n4, .int .u32 n8, .int .i64 q12, .int .u16 n16, .int .i64 n18]).rangeAt w.heap.size 0 [.int .i64 n0, .int .i64 ((l[3]'(by omega)).toNat : Nat), .int .u32 n4, .int .u32 n8, .int .i64 q12, .int .u16 n16, .int .i64 n18]) := Lib.hid (World.rangeAt_setCells_same _ _ _ _ (hth.out.there 0 7 (by omega)))
  change wpList _ _ _ _ _ (w0.drew.setCells w.heap.size 0 [.int .i64 n0, .int .i64 ((l[3]'(by omega)).toNat : Nat), .int .u32 n4, .int .u32 n8, .int .i64 q12, .int .u16 n16, .int .i64 n18])
  generalize w0.drew.setCells w.heap.size 0 [.int .i64 n0, .int .i64 ((l[3]'(by omega)).toNat : Nat), .int .u32 n4, .int .u32 n8, .int .i64 q12, .int .u16 n16, .int .i64 n18] = w9 at hk9 hr9 ⊢
  go_wp2_with fail
  have e0 := rangeAt_cell hr9.out 0 _ rfl
  have e1 := rangeAt_cell hr9.out 1 _ rfl
  have e2 := rangeAt_cell hr9.out 2 _ rfl
  have e3 := rangeAt_cell hr9.out 3 _ rfl
  have e4 := rangeAt_cell hr9.out 4 _ rfl
  have e5 := rangeAt_cell hr9.out 5 _ rfl
  have e6 := rangeAt_cell hr9.out 6 _ rfl
  refine bodyPost_ret (v := .tuple #[.agg #[.int .i64 n0, .int .i64 ((l[3]'(by omega)).toNat : Nat), .int .u32 n4, .int .u32 n8, .int .i64 q12, .int .u16 n16, .int .i64 n18], .int .i64 0]) (by simp [results, Try.results18, go_sem, e0, e1, e2, e3, e4, e5, e6]) rfl ⟨?_, hk9.out⟩
  rw [← hQ]; rfl
set_option maxRecDepth 100000 in
theorem lsHead_no (p : Option Addr) (n c : Nat) (hn : n < 20) (w : World) :
    Calls Try.prog 18 #[.slice p n c] w fun e w' => e = .returned (.tuple #[.agg #[.int .i64 0, .int .i64 0, .int .u32 0, .int .u32 0, .int .i64 0, .int .u16 0, .int .i64 0], .int .i64 4]) ∧ Keeps (fun _ => False) w w' := by
  go_enter Try.func18, Try.ntmps18
  go_wp2_with fail
  refine bodyPost_ret (v := .tuple #[.agg #[.int .i64 0, .int .i64 0, .int .u32 0, .int .u32 0, .int .i64 0, .int .u16 0, .int .i64 0], .int .i64 4]) (by simp [results, Try.results18, go_sem]) rfl ⟨rfl, (Keeps.refl _ _).alloc _⟩
end Go.Proofs.Ytiogeepffdpafaa
