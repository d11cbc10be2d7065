/- LAI LAD LAG LAJ LAL LAM LBA LBB -/
import Derived.Test.YtmggbljkehclpaaP10
import Derived.Test.YtmggbljkehclpaaP14
import Derived.Test.YtmggbljkehclpaaP24
import Derived.Test.YtmggbljkehclpaaP26
import Derived.StillTailTactics
set_option linter.unusedVariables false
set_option linter.unusedSimpArgs false
namespace Go.Proofs.Ytmggbljkehclpaa
open Go.RowKit
theorem c0z : (Try.prog.info? 73).map (·.size) = some 7 := by kernel_rfl
theorem d0r (sl : Value) (l : List UInt8) (n : Nat) (hl : l.length ≤ 4) (w : World) (h : Hid (a0b w sl l)) (hn : Hid (a0d l = n)) :
 Calls Try.prog 32 #[sl] w fun e w' => e = .returned (.int .i64 n) ∧ w' = w :=
 (l03 sl l hl w h).mono fun e w' ⟨he, hw⟩ => ⟨by rw [he, hn.out], hw.symm⟩
set_option maxRecDepth 100000 in
set_option maxHeartbeats 4000000 in
theorem n0z (g o c : Nat) (l : List UInt8) (hl : 20 ≤ l.length) (hl2 : l.length ≤ 9223372036854775807) (hc : l.length ≤ c) (w : World) (hr : Hid (w.rangeAt g o (l.map bv))) :
 Calls Try.prog 34 #[.slice (some ⟨g, o, none⟩) l.length c] w fun e w' => e = .returned (headV (a0f l)) ∧ a03 (fun _ => False) w w' := by
 obtain ⟨H, hQ⟩ : ∃ H, a0f l = H := ⟨_, rfl⟩
 rw [hQ]
 have i2 : (2 : Int) ≤ c := by omega
 have i8 : (8 : Int) ≤ c := by omega
 have i12 : (12 : Int) ≤ c := by omega
 have i16 : (16 : Int) ≤ c := by omega
 have i18 : (18 : Int) ≤ c := by omega
 have i20 : (20 : Int) ≤ c := by omega
 have j4 : ¬ c = 4 := by omega
 have j8 : ¬ c = 8 := by omega
 have j12 : ¬ c = 12 := by omega
 have j16 : ¬ c = 16 := by omega
 have j18 : ¬ c = 18 := by omega
 have i3 : (3 : Int) < l.length := by omega
 have hk0 : Hid (a03 (fun _ => False) w (w.alloc (.cells (Ha 0 0 0 0 0 0 0) 73))) := Hi ((a03.refl _ _).alloc _)
 have hb0 : Hid (World.blockAt (w.alloc (.cells (Ha 0 0 0 0 0 0 0) 73)) w.heap.size 73 7) := Hi ⟨_, heap_alloc_last w _, rfl⟩
 go_enter Try.func34, Try.ntmps34
 go_upto_region 1 with fail
 generalize w.alloc (.cells (Ha 0 0 0 0 0 0 0) 73) = w0 at hk0 hb0 ⊢
 have hr0 := Hi (hk0.out.rangeAt hr.out id)
 have c3 := a0k hr0.out 3 (by omega)
 obtain ⟨n0, hn0⟩ : ∃ n, a0d (sub l 0 2) = n := ⟨_, rfl⟩
 obtain ⟨n4, hn4⟩ : ∃ n, a0d (sub l 4 4) = n := ⟨_, rfl⟩
 obtain ⟨n8, hn8⟩ : ∃ n, a0d (sub l 8 4) = n := ⟨_, rfl⟩
 obtain ⟨n12, hn12⟩ : ∃ n, a0d (sub l 12 4) = n := ⟨_, rfl⟩
 obtain ⟨n16, hn16⟩ : ∃ n, a0d (sub l 16 2) = n := ⟨_, rfl⟩
 obtain ⟨n18, hn18⟩ : ∃ n, a0d (sub l 18 2) = n := ⟨_, rfl⟩
 have b0 := d0q (x := l) (i := 0) (n := 2) (by omega)
 have b4 := d0q (x := l) (i := 4) (n := 4) (by omega)
 have b8 := d0q (x := l) (i := 8) (n := 4) (by omega)
 have b12 := d0q (x := l) (i := 12) (n := 4) (by omega)
 have b16 := d0q (x := l) (i := 16) (n := 2) (by omega)
 have b18 := d0q (x := l) (i := 18) (n := 2) (by omega)
 rw [hn0] at b0; rw [hn4] at b4; rw [hn8] at b8; rw [hn12] at b12; rw [hn16] at b16; rw [hn18] at b18
 simp only [show (256 : Nat) ^ 2 = 65536 from rfl, show (256 : Nat) ^ 4 = 4294967296 from rfl] at b0 b4 b8 b12 b16 b18
 have b3 := (l[3]'(by omega)).toNat_lt
 have hs32 : IntKind.i32.wrap (n12 : Int) = f0o n12 := k0x n12 b12
 have hs1 := o0r n12 b12
 have hs2 := o0s n12 b12
 obtain ⟨q12, hq12⟩ : ∃ q, f0o n12 = q := ⟨_, rfl⟩
 rw [hq12] at hs32 hs1 hs2
 have hfin : a0f l = ⟨n0, ((l[3]'(by omega)).toNat : Int), n4, n8, q12, n16, n18⟩ := by
  unfold a0f
  rw [hn0, hn4, hn8, hn12, hn16, hn18, hq12, List.getD_eq_getElem?_getD, List.getElem?_eq_getElem (by omega)]; rfl
 rw [hfin] at hQ
 have v0 : IntKind.i64.wrap (n0 : Int) = (n0 : Int) := IntWalk.i64_in _ (by omega)
 have v3 : IntKind.i64.wrap ((l[3]'(by omega)).toNat : Int) = ((l[3]'(by omega)).toNat : Int) := IntWalk.i64_in _ (by omega)
 have v12 : IntKind.i64.wrap q12 = q12 := IntWalk.i64_in _ (by omega)
 have v4 : IntKind.u32.wrap (n4 : Int) = (n4 : Int) := by rw [c0b]; omega
 have v8 : IntKind.u32.wrap (n8 : Int) = (n8 : Int) := by rw [c0b]; omega
 have v16 : IntKind.u16.wrap (n16 : Int) = (n16 : Int) := by rw [h03]; omega
 have v18 : IntKind.i64.wrap (n18 : Int) = (n18 : Int) := IntWalk.i64_in _ (by omega)
 have hrd := Hi (((a03.refl (fun _ => False) w0).drew).rangeAt hr0.out id)
 have k0 := Hi (a0c hrd.out hc 0 2 (by omega))
 have k4 := Hi (a0c hrd.out hc 4 4 (by omega))
 have k8 := Hi (a0c hrd.out hc 8 4 (by omega))
 have k12 := Hi (a0c hrd.out hc 12 4 (by omega))
 have k16 := Hi (a0c hrd.out hc 16 2 (by omega))
 have k18 := Hi (a0c hrd.out hc 18 2 (by omega))
 rw [Nat.add_zero, Nat.sub_zero] at k0
 have s0 : (sub l 0 2).length ≤ 4 := by rw [a0o (by omega)]; omega
 have s4 : (sub l 4 4).length ≤ 4 := by rw [a0o (by omega)]; omega
 have s8 : (sub l 8 4).length ≤ 4 := by rw [a0o (by omega)]; omega
 have s12 : (sub l 12 4).length ≤ 4 := by rw [a0o (by omega)]; omega
 have s16 : (sub l 16 2).length ≤ 4 := by rw [a0o (by omega)]; omega
 have s18 : (sub l 18 2).length ≤ 4 := by rw [a0o (by omega)]; omega
 have hn0' := Hi hn0; have hn4' := Hi hn4; have hn8' := Hi hn8; have hn12' := Hi hn12; have hn16' := Hi hn16; have hn18' := Hi hn18
 clear hn0 hn4 hn8 hn12 hn16 hn18 hfin hq12
 refine wp_region_still_tail 29 (by kernel_rfl) (by kernel_rfl) ?_
 simp only [List.take_succ_cons, List.take_zero, List.drop_succ_cons, List.drop_zero]
 repeat still_step
 still_call (d0r _ _ n0 s0 _ k0 hn0')
 repeat still_step
 still_call (d0r _ _ n4 s4 _ k4 hn4')
 repeat still_step
 still_call (d0r _ _ n8 s8 _ k8 hn8')
 repeat still_step
 still_call (d0r _ _ n12 s12 _ k12 hn12')
 repeat still_step
 still_call (d0r _ _ n16 s16 _ k16 hn16')
 repeat still_step
 still_call (d0r _ _ n18 s18 _ k18 hn18')
 repeat still_step
 refine wpStill_nil ?_
 change wpList _ _ _ _ _ w0.drew
 clear v4 v8 v0 v3 v12 v16 v18 j4 j8 j12 j16 j18 hs32 i2 i8 i12 i16 i18 i20 i3 k0 k4 k8 k12 k16 k18 c3
 have hth := Hi (hb0.out.keep ((a03.refl (fun _ => False) _).drew) id)
 refine (wpList_store_mid rfl 73 (.tmp 2) (.tmp 31) rfl w.heap.size 0 (Ha n0 (((l[3]'(by omega)).toNat : Nat)) n4 n8 q12 n16 n18) rfl rfl (hth.out.there 0 7 (by omega)) c0z (b0o _ _ _ _ _ _ _) ?_)
 have hk9 : Hid (a03 (fun _ => False) w (w0.drew.setCells w.heap.size 0 (Ha' n0 (((l[3]'(by omega)).toNat : Nat)) n4 n8 q12 n16 n18))) := Hi (a03.setCells (.inr (Nat.le_refl _)) _ _ _ hk0.out.drew)
 have hr9 : Hid ((w0.drew.setCells w.heap.size 0 (Ha' n0 (((l[3]'(by omega)).toNat : Nat)) n4 n8 q12 n16 n18)).rangeAt w.heap.size 0 (Ha' n0 (((l[3]'(by omega)).toNat : Nat)) n4 n8 q12 n16 n18)) := Hi (World.rangeAt_setCells_same _ _ _ _ (hth.out.there 0 7 (by omega)))
 change wpList _ _ _ _ _ (w0.drew.setCells w.heap.size 0 (Ha' n0 (((l[3]'(by omega)).toNat : Nat)) n4 n8 q12 n16 n18))
 generalize w0.drew.setCells w.heap.size 0 (Ha' n0 (((l[3]'(by omega)).toNat : Nat)) n4 n8 q12 n16 n18) = w9 at hk9 hr9 ⊢
 go_wp2_with fail
 have e0 := a01 hr9.out 0 _ rfl
 have e1 := a01 hr9.out 1 _ rfl
 have e2 := a01 hr9.out 2 _ rfl
 have e3 := a01 hr9.out 3 _ rfl
 have e4 := a01 hr9.out 4 _ rfl
 have e5 := a01 hr9.out 5 _ rfl
 have e6 := a01 hr9.out 6 _ rfl
 refine bodyPost_ret (v := .agg (Ha n0 (((l[3]'(by omega)).toNat : Nat)) n4 n8 q12 n16 n18)) (by simp [results, Try.results34, go_sem, e0, e1, e2, e3, e4, e5, e6]) rfl ⟨?_, hk9.out⟩
 rw [← hQ]; rfl
def e0q (l : LsaD) : List UInt8 :=
 let r := [2, UInt8.ofNat (lo8 l.type)] ++ (be 4 l.id ++ (be 4 l.adv ++ (be 4 (lo64 l.seq) ++ (be 2 0 ++ (be 2 (lo64 (20 + ((b0q l).length : Int))) ++ b0q l)))))
 (r.set 14 (UInt8.ofNat (flX (zed r 14) r.length 14))).set 15 (UInt8.ofNat (flY (zed r 14) r.length 14))
theorem f0r (l : LsaD) : putB l = be 2 (lo64 l.age) ++ e0q l := by
 unfold putB e0q
 have hs : h0z l = be 2 (lo64 l.age) ++ ([2, UInt8.ofNat (lo8 l.type)] ++ (be 4 l.id ++ (be 4 l.adv ++ (be 4 (lo64 l.seq) ++ (be 2 0 ++ (be 2 (lo64 (20 + ((b0q l).length : Int))) ++ b0q l)))))) := by
  unfold h0z d0d; simp only [List.append_assoc]
 obtain ⟨r, hr⟩ : ∃ r, [2, UInt8.ofNat (lo8 l.type)] ++ (be 4 l.id ++ (be 4 l.adv ++ (be 4 (lo64 l.seq) ++ (be 2 0 ++ (be 2 (lo64 (20 + ((b0q l).length : Int))) ++ b0q l))))) = r := ⟨_, rfl⟩
 rw [hr] at hs ⊢
 have hd : (h0z l).drop 2 = r := by rw [hs, List.drop_append_of_le_length (by rw [a08]; omega), List.drop_of_length_le (by rw [a08]; omega), List.nil_append]
 have hl : (h0z l).length - 2 = r.length := by rw [hs, List.length_append, a08]; omega
 rw [hd, hl, hs]
 rw [List.set_append_right _ _ (by rw [a08]; omega), a08, List.set_append_right _ _ (by rw [a08]; omega), a08]
theorem j0z (l : LsaD) : (putB l).drop 2 = e0q l := by
 rw [f0r, List.drop_append_of_le_length (by rw [a08]; omega), List.drop_of_length_le (by rw [a08]; omega), List.nil_append]
def m04 (r : List UInt8) (a : Int) : c0p := ⟨a, ((r.getD 1 0).toNat : Int), a0d (sub r 2 4), a0d (sub r 6 4), f0o (a0d (sub r 10 4)), a0d (sub r 14 2), (a0d (sub r 16 2) : Nat)⟩
theorem j02 (l : LsaD) : a0f (putB l) = m04 (e0q l) ((lo64 l.age % 65536 : Nat) : Int) := by
 have ha : a0d (sub (putB l) 0 2) = lo64 l.age % 65536 := by
  rw [f0r]
  have : sub (be 2 (lo64 l.age) ++ e0q l) 0 2 = be 2 (lo64 l.age) := by
   unfold sub; rw [List.drop_zero, List.take_append_of_le_length (by rw [a08]; omega), List.take_of_length_le (by rw [a08]; omega)]
  rw [this, b07]
 unfold a0f
 rw [ha]
 unfold m04
 have hsub : ∀ i n, sub (putB l) (2 + i) n = sub (e0q l) i n := fun i n => by unfold sub; rw [← j0z, List.drop_drop]
 have hget : (putB l).getD 3 0 = (e0q l).getD 1 0 := by rw [f0r, be2]; rfl
 rw [hget, hsub 2 4, hsub 6 4, hsub 10 4, hsub 14 2, hsub 16 2]
theorem d05 {P : Program} {ops : Array Oper} {S : World → Prop} {op : Oper} {a : Act} (hw : Region.wanted op (yielded ops a.tmps) = true) (ft tt : TypeId) (x : Operand) (ho : op.op = .convert ft tt x) (xv v : Value) (hx : a.eval x = xv)
 (hS : ∀ w, S w → (convert ft tt xv).run P w = .ok v w) : YieldsIf P ops S op v a :=
 .inl ⟨hw, fun w hw' => by
  unfold execOp
  simp only [ho, hx, Sem.run_bind, hS w hw', Result.andThen_ok]; rfl⟩
def rawB (l : LsaD) : List UInt8 := [2, UInt8.ofNat (lo8 l.type)] ++ (be 4 l.id ++ (be 4 l.adv ++ (be 4 (lo64 l.seq) ++ (be 2 0 ++ (be 2 (lo64 (20 + ((b0q l).length : Int))) ++ b0q l)))))
theorem m0o (l : LsaD) : e0q l = ((rawB l).set 14 (UInt8.ofNat (flX (zed (rawB l) 14) (rawB l).length 14))).set 15 (UInt8.ofNat (flY (zed (rawB l) 14) (rawB l).length 14)) := rfl
theorem rawB_len (l : LsaD) : (rawB l).length = 18 + (b0q l).length := by unfold rawB; simp [a08]; omega
theorem j0o (n : Nat) (h : n < 255) : (UInt8.ofNat n).toNat = n := by simp; omega
theorem n0u (l : LsaD) : b0h (e0q l) = true := by
 rw [m0o]
 exact p0l (by rw [rawB_len]; omega) _ _ (j0o _ (k0g _ _ _)) (j0o _ (n0b _ _ _))
theorem c0x (l : LsaD) : ∃ a b : UInt8, a.toNat < 255 ∧ b.toNat < 255 ∧ e0q l = [2, UInt8.ofNat (lo8 l.type)] ++ (be 4 l.id ++ (be 4 l.adv ++ (be 4 (lo64 l.seq) ++ ([a, b] ++ (be 2 (lo64 (20 + ((b0q l).length : Int))) ++ b0q l))))) := by
 refine ⟨UInt8.ofNat (flX (zed (rawB l) 14) (rawB l).length 14), UInt8.ofNat (flY (zed (rawB l) 14) (rawB l).length 14), by rw [j0o _ (k0g _ _ _)]; exact k0g _ _ _, by rw [j0o _ (n0b _ _ _)]; exact n0b _ _ _, ?_⟩
 rw [m0o]
 generalize UInt8.ofNat (flX (zed (rawB l) 14) (rawB l).length 14) = a
 generalize UInt8.ofNat (flY (zed (rawB l) 14) (rawB l).length 14) = b
 unfold rawB
 simp only [be4, be2, List.cons_append, List.nil_append]
 rfl
theorem g0d (a b : List UInt8) (i n : Nat) (h : a.length = i) : sub (a ++ b) i n = b.take n := by
 subst h; unfold sub; rw [List.drop_append_of_le_length (Nat.le_refl _), List.drop_length, List.nil_append]
theorem d0y (k n : Nat) (r : List UInt8) : (be k n ++ r).take k = be k n := by
 rw [List.take_append_of_le_length (by rw [a08]; omega), List.take_of_length_le (by rw [a08]; omega)]
theorem m03 (l : LsaD) (h1 : l.links.length ≤ 40) (h2 : l.routers.length ≤ 40) (q : Int) : (m04 (e0q l) q).len = 20 + ((b0q l).length : Int) := by
 obtain ⟨a, b, -, -, hr⟩ := c0x l
 have htl := f0m h1 h2
 show ((a0d (sub (e0q l) 16 2) : Nat) : Int) = _
 rw [hr, show [2, UInt8.ofNat (lo8 l.type)] ++ (be 4 l.id ++ (be 4 l.adv ++ (be 4 (lo64 l.seq) ++ ([a, b] ++ (be 2 (lo64 (20 + ((b0q l).length : Int))) ++ b0q l))))) = ([2, UInt8.ofNat (lo8 l.type)] ++ be 4 l.id ++ be 4 l.adv ++ be 4 (lo64 l.seq) ++ [a, b]) ++ (be 2 (lo64 (20 + ((b0q l).length : Int))) ++ b0q l) from by simp only [List.append_assoc],
  g0d _ _ 16 2 (by simp [a08]), d0y, b07]
 unfold lo64; omega
theorem p05 (l : LsaD) (q : Int) : (m04 (e0q l) q).seq = f0o (lo64 l.seq % 4294967296) := by
 obtain ⟨a, b, -, -, hr⟩ := c0x l
 show f0o (a0d (sub (e0q l) 10 4)) = _
 rw [hr, show [2, UInt8.ofNat (lo8 l.type)] ++ (be 4 l.id ++ (be 4 l.adv ++ (be 4 (lo64 l.seq) ++ ([a, b] ++ (be 2 (lo64 (20 + ((b0q l).length : Int))) ++ b0q l))))) = ([2, UInt8.ofNat (lo8 l.type)] ++ be 4 l.id ++ be 4 l.adv) ++ (be 4 (lo64 l.seq) ++ ([a, b] ++ (be 2 (lo64 (20 + ((b0q l).length : Int))) ++ b0q l))) from by simp only [List.append_assoc],
  g0d _ _ 10 4 (by simp [a08]), d0y, b07]
theorem p06 (l : LsaD) (q : Int) : (m04 (e0q l) q).adv = l.adv % 4294967296 := by
 obtain ⟨a, b, -, -, hr⟩ := c0x l
 show a0d (sub (e0q l) 6 4) = _
 rw [hr, show [2, UInt8.ofNat (lo8 l.type)] ++ (be 4 l.id ++ (be 4 l.adv ++ (be 4 (lo64 l.seq) ++ ([a, b] ++ (be 2 (lo64 (20 + ((b0q l).length : Int))) ++ b0q l))))) = ([2, UInt8.ofNat (lo8 l.type)] ++ be 4 l.id) ++ (be 4 l.adv ++ (be 4 (lo64 l.seq) ++ ([a, b] ++ (be 2 (lo64 (20 + ((b0q l).length : Int))) ++ b0q l)))) from by simp only [List.append_assoc],
  g0d _ _ 6 4 (by simp [a08]), d0y, b07]
theorem r0j (l : LsaD) (q : Int) : (m04 (e0q l) q).id = l.id % 4294967296 := by
 obtain ⟨a, b, -, -, hr⟩ := c0x l
 show a0d (sub (e0q l) 2 4) = _
 rw [hr, g0d _ _ 2 4 (by simp), d0y, b07]
theorem n07 (l : LsaD) (q : Int) (h : 0 ≤ l.type ∧ l.type < 256) : (m04 (e0q l) q).type = l.type := by
 obtain ⟨a, b, -, -, hr⟩ := c0x l
 show (((e0q l).getD 1 0).toNat : Int) = _
 rw [hr]
 show ((UInt8.ofNat (lo8 l.type)).toNat : Int) = _
 have : lo8 l.type = l.type.toNat := by unfold lo8; omega
 rw [this]; simp; omega
theorem p0m (l : LsaD) : (e0q l).drop 18 = b0q l := by
 obtain ⟨a, b, -, -, hr⟩ := c0x l
 rw [hr, show [2, UInt8.ofNat (lo8 l.type)] ++ (be 4 l.id ++ (be 4 l.adv ++ (be 4 (lo64 l.seq) ++ ([a, b] ++ (be 2 (lo64 (20 + ((b0q l).length : Int))) ++ b0q l))))) = ([2, UInt8.ofNat (lo8 l.type)] ++ be 4 l.id ++ be 4 l.adv ++ be 4 (lo64 l.seq) ++ [a, b] ++ be 2 (lo64 (20 + ((b0q l).length : Int)))) ++ b0q l from by simp only [List.append_assoc],
  List.drop_append_of_le_length (by simp [a08]), List.drop_of_length_le (by simp [a08]), List.nil_append]
theorem m0p (ns : List Nat) (h : h0g ns) : c0i (bes ns) ns.length = ns := by
 induction ns with
 | nil => rfl
 | cons n ns ih =>
  have hb : bes (n :: ns) = be 4 n ++ bes ns := by unfold bes; rw [List.flatMap_cons]
  unfold c0i at ih ⊢
  rw [List.length_cons, List.range_succ_eq_map, List.map_cons, List.map_map, hb]
  have h0 : a0d (sub (be 4 n ++ bes ns) (4 * 0) 4) = n := by
   unfold sub; rw [Nat.mul_zero, List.drop_zero, d0y, b07]; have := h n (by simp); omega
  rw [h0]
  congr 1
  conv => rhs; rw [← ih (fun m hm => h m (by simp [hm]))]
  apply List.map_congr_left
  intro i _
  show a0d (sub (be 4 n ++ bes ns) (4 * (i + 1)) 4) = a0d (sub (bes ns) (4 * i) 4)
  have : sub (be 4 n ++ bes ns) (4 * (i + 1)) 4 = sub (bes ns) (4 * i) 4 := by
   unfold sub
   rw [show 4 * (i + 1) = (be 4 n).length + 4 * i by rw [a08]; omega, ← List.drop_drop, List.drop_append_of_le_length (Nat.le_refl _), List.drop_length, List.nil_append]
  rw [this]
theorem o0e (l : b09) (h : l.ok) (hw : c0h l = false) (r : List UInt8) : g0u (g03 l ++ r) 0 = l := by
 obtain ⟨id, data, type, cost⟩ := l
 obtain ⟨h1, h2, h3, h4⟩ := h
 unfold c0h a0e at hw
 simp only [Bool.or_eq_false_iff, Bool.not_eq_false', decide_eq_true_eq] at hw h1 h2
 have hb : g03 ⟨id, data, type, cost⟩ = be 4 id ++ (be 4 data ++ ([UInt8.ofNat (lo8 type), 0] ++ be 2 (lo16 cost))) := by unfold g03; simp only [List.append_assoc]
 unfold g0u
 rw [hb]
 have e1 : a0d (sub ((be 4 id ++ (be 4 data ++ ([UInt8.ofNat (lo8 type), 0] ++ be 2 (lo16 cost)))) ++ r) 0 4) = id := by
  unfold sub; rw [List.drop_zero, List.append_assoc, d0y, b07]; omega
 have e2 : a0d (sub ((be 4 id ++ (be 4 data ++ ([UInt8.ofNat (lo8 type), 0] ++ be 2 (lo16 cost)))) ++ r) (0 + 4) 4) = data := by
  rw [List.append_assoc, g0d _ _ (0 + 4) 4 (by rw [a08]), List.append_assoc, d0y, b07]; omega
 have e3 : (((be 4 id ++ (be 4 data ++ ([UInt8.ofNat (lo8 type), 0] ++ be 2 (lo16 cost)))) ++ r).getD (0 + 8) 0) = UInt8.ofNat (lo8 type) := by
  rw [be4, be4]; rfl
 have e4 : a0d (sub ((be 4 id ++ (be 4 data ++ ([UInt8.ofNat (lo8 type), 0] ++ be 2 (lo16 cost)))) ++ r) (0 + 10) 2) = lo16 cost % 65536 := by
  rw [show ((be 4 id ++ (be 4 data ++ ([UInt8.ofNat (lo8 type), 0] ++ be 2 (lo16 cost)))) ++ r) = (be 4 id ++ be 4 data ++ [UInt8.ofNat (lo8 type), 0]) ++ (be 2 (lo16 cost) ++ r) from by simp only [List.append_assoc],
   g0d _ _ (0 + 10) 2 (by simp [a08]), d0y, b07]
 rw [e1, e2, e3, e4]
 have e5 : ((UInt8.ofNat (lo8 type)).toNat : Int) = type := by
  have : lo8 type = type.toNat := by unfold lo8; omega
  rw [this]; simp; omega
 have e6 : ((lo16 cost % 65536 : Nat) : Int) = cost := by unfold lo16; omega
 rw [e5, e6]
theorem n0v (ls : List b09) (h : ∀ l ∈ ls, l.ok) (hw : ∀ l ∈ ls, c0h l = false) : d0a (b0l ls) ls.length = ls := by
 induction ls with
 | nil => rfl
 | cons n ns ih =>
  have hb : b0l (n :: ns) = g03 n ++ b0l ns := by unfold b0l; rw [List.flatMap_cons]
  unfold d0a at ih ⊢
  rw [List.length_cons, List.range_succ_eq_map, List.map_cons, List.map_map, hb]
  have h0 : g0u (g03 n ++ b0l ns) (12 * 0) = n := o0e n (h n (by simp)) (hw n (by simp)) _
  rw [h0]
  congr 1
  conv => rhs; rw [← ih (fun m hm => h m (by simp [hm])) (fun m hm => hw m (by simp [hm]))]
  apply List.map_congr_left
  intro i _
  show g0u (g03 n ++ b0l ns) (12 * (i + 1)) = g0u (b0l ns) (12 * i)
  have hs : ∀ j k, sub (g03 n ++ b0l ns) (12 * (i + 1) + j) k = sub (b0l ns) (12 * i + j) k := fun j k => by
   unfold sub
   rw [show 12 * (i + 1) + j = (g03 n).length + (12 * i + j) by rw [i0g]; omega, ← List.drop_drop, List.drop_append_of_le_length (Nat.le_refl _), List.drop_length, List.nil_append]
  have hg : (g03 n ++ b0l ns).getD (12 * (i + 1) + 8) 0 = (b0l ns).getD (12 * i + 8) 0 := by
   simp only [List.getD]
   rw [List.getElem?_append_right (by rw [i0g]; omega), i0g]
   congr 2
  unfold g0u
  rw [hg, hs 4 4, hs 10 2, show sub (g03 n ++ b0l ns) (12 * (i + 1)) 4 = sub (b0l ns) (12 * i) 4 from hs 0 4]
theorem q0p (l : LsaD) (hok : l.ok) (h : i0u l = true) : c0o l.age l.type l.id l.adv l.seq (b0q l) = l := by
 obtain ⟨age, type, id, adv, seq, links, mask, routers, cost⟩ := l
 obtain ⟨-, -, -, -, -, hlok, hm, hrok, -⟩ := hok
 simp only at hlok hm hrok
 unfold i0u at h
 simp only at h
 by_cases t1 : type = 1
 ·subst t1
  rw [if_pos rfl] at h
  simp only [Bool.and_eq_true, decide_eq_true_eq, Bool.not_eq_true'] at h
  obtain ⟨hl, hw, rfl, hr, rfl⟩ := h
  obtain rfl : routers = [] := List.length_eq_zero_iff.1 hr
  have ht : b0q ⟨age, 1, id, adv, seq, links, 0, [], 0⟩ = be 4 links.length ++ b0l links := by unfold b0q; rw [if_pos rfl]
  rw [ht]
  have hlen : (be 4 links.length ++ b0l links).length = 4 + 12 * links.length := by rw [List.length_append, a08, e0w]
  have hdrop : (be 4 links.length ++ b0l links).drop 4 = b0l links := by rw [List.drop_append_of_le_length (by rw [a08]; omega), List.drop_of_length_le (by rw [a08]; omega), List.nil_append]
  unfold c0o
  rw [if_neg (by rw [hlen]; omega), if_pos rfl, hlen, hdrop, show (4 + 12 * links.length - 4) / 12 = links.length by omega, n0v links hlok (fun m hm => by
   cases hb : c0h m with
   | false => rfl
   | true => exact absurd (List.any_eq_true.2 ⟨m, hm, hb⟩) (by rw [hw]; decide))]
 ·rw [if_neg t1] at h
  by_cases t2 : type = 2
  ·subst t2
   rw [if_pos rfl] at h
   simp only [Bool.and_eq_true, decide_eq_true_eq] at h
   obtain ⟨hl, -, rfl⟩ := h
   obtain rfl : links = [] := List.length_eq_zero_iff.1 hl
   have ht : b0q ⟨age, 2, id, adv, seq, [], mask, routers, 0⟩ = be 4 mask ++ bes routers := by unfold b0q; rw [if_neg (show ¬ (2 : Int) = 1 by decide), if_pos rfl]
   rw [ht]
   have hlen : (be 4 mask ++ bes routers).length = 4 + 4 * routers.length := by rw [List.length_append, a08, e04]
   have hdrop : (be 4 mask ++ bes routers).drop 4 = bes routers := by rw [List.drop_append_of_le_length (by rw [a08]; omega), List.drop_of_length_le (by rw [a08]; omega), List.nil_append]
   have hm4 : a0d (sub (be 4 mask ++ bes routers) 0 4) = mask := by unfold sub; rw [List.drop_zero, d0y, b07]; omega
   unfold c0o
   rw [if_neg (by rw [hlen]; omega), if_neg (show ¬ (2 : Int) = 1 by decide), if_pos rfl, hlen, hdrop, hm4, show (4 + 4 * routers.length - 4) / 4 = routers.length by omega, m0p routers hrok]
  ·rw [if_neg t2] at h
   by_cases t3 : type = 3
   ·subst t3
    rw [if_pos rfl] at h
    simp only [Bool.and_eq_true, decide_eq_true_eq] at h
    obtain ⟨hl, hr, hc⟩ := h
    unfold a0e at hc
    rw [decide_eq_true_iff] at hc
    obtain rfl : links = [] := List.length_eq_zero_iff.1 hl
    obtain rfl : routers = [] := List.length_eq_zero_iff.1 hr
    have ht : b0q ⟨age, 3, id, adv, seq, [], mask, [], cost⟩ = be 4 mask ++ be 4 (lo32 cost) := by unfold b0q; rw [if_neg (show ¬ (3 : Int) = 1 by decide), if_neg (show ¬ (3 : Int) = 2 by decide)]
    rw [ht]
    have hlen : (be 4 mask ++ be 4 (lo32 cost)).length = 8 := by rw [List.length_append, a08, a08]
    have hdrop : (be 4 mask ++ be 4 (lo32 cost)).drop 4 = be 4 (lo32 cost) := by rw [List.drop_append_of_le_length (by rw [a08]; omega), List.drop_of_length_le (by rw [a08]; omega), List.nil_append]
    have hm4 : a0d (sub (be 4 mask ++ be 4 (lo32 cost)) 0 4) = mask := by unfold sub; rw [List.drop_zero, d0y, b07]; omega
    have hc4 : ((a0d (be 4 (lo32 cost)) % 4294967296 : Nat) : Int) = cost := by rw [b07]; unfold lo32; omega
    unfold c0o
    rw [if_neg (by rw [hlen]; omega), if_neg (show ¬ (3 : Int) = 1 by decide), if_neg (show ¬ (3 : Int) = 2 by decide), if_pos rfl, hdrop, hm4, hc4]
   ·rw [if_neg t3] at h; cases h
theorem m0d {l : LsaD} (h : i0u l = true) : 0 ≤ l.type ∧ l.type < 256 := by
 unfold i0u at h
 by_cases t1 : l.type = 1
 ·omega
 ·rw [if_neg t1] at h
  by_cases t2 : l.type = 2
  ·omega
  ·rw [if_neg t2] at h
   by_cases t3 : l.type = 3
   ·omega
   ·rw [if_neg t3] at h; cases h
theorem getL_put (l : LsaD) (hok : l.ok) (h : canB l = true) : getL (putB l) = (l, 0) := by
 have htold := g0z h
 have hlens := e03 h
 have htl := f0m hlens.1 hlens.2
 have hlen := e0f l
 have hc := h
 unfold canB a0e at hc
 simp only [Bool.and_eq_true, decide_eq_true_eq] at hc
 have hage : ((lo64 l.age % 65536 : Nat) : Int) = l.age := by unfold lo64; omega
 have hhead : a0f (putB l) = m04 (e0q l) l.age := by rw [j02, hage]
 have hfields : g0v (a0f (putB l)) ((putB l).drop 20) = l := by
  have hd : (putB l).drop 20 = b0q l := by rw [show (20 : Nat) = 2 + 18 from rfl, ← List.drop_drop, j0z, p0m]
  rw [hd, hhead]
  unfold g0v
  rw [n07 l _ (m0d htold), r0j, p06, p05, Nat.mod_eq_of_lt hok.id, Nat.mod_eq_of_lt hok.adv,
   show f0o (lo64 l.seq % 4294967296) = l.seq from by unfold f0o lo64; split <;> omega]
  exact q0p l hok htold
 obtain ⟨a, b, ha, hb, hr⟩ := c0x l
 have h16 : (putB l).getD 16 0 = a := by rw [f0r, hr, be2, be4, be4, be4]; rfl
 have h17 : (putB l).getD 17 0 = b := by rw [f0r, hr, be2, be4, be4, be4]; rfl
 unfold getL
 rw [if_neg (by rw [hlen]; omega), if_neg, if_neg, if_pos, hfields]
 ·rw [hfields]; exact ⟨h, rfl⟩
 ·rw [hhead, m03 l hlens.1 hlens.2, hlen]; simp
 ·rw [j0z, n0u, h16, h17]
  rintro (h1 | h1 | h1)
  ·cases h1
  ·rw [h1] at ha; revert ha; decide
  ·rw [h1] at hb; revert hb; decide
theorem r0k {x y : c0p} (h1 : x.age = y.age) (h2 : x.type = y.type) (h3 : x.id = y.id) (h4 : x.adv = y.adv) (h5 : x.seq = y.seq) (h6 : x.sum = y.sum) (h7 : x.len = y.len) : x = y := by
 cases x; cases y; simp only at h1 h2 h3 h4 h5 h6 h7; subst h1; subst h2; subst h3; subst h4; subst h5; subst h6; subst h7; rfl
theorem head_put (l : LsaD) (hok : l.ok) (h : canB l = true) : ∃ s : Nat, s < 65536 ∧ a0f (putB l) = ⟨l.age, l.type, l.id, l.adv, l.seq, s, ((putB l).length : Nat)⟩ ∧ d0d ⟨l.age, l.type, l.id, l.adv, l.seq, s, ((putB l).length : Nat)⟩ = (putB l).take 20 := by
 have htold := g0z h
 have hlens := e03 h
 have hlen := e0f l
 have hc := h
 unfold canB a0e at hc
 simp only [Bool.and_eq_true, decide_eq_true_eq] at hc
 have hage : ((lo64 l.age % 65536 : Nat) : Int) = l.age := by unfold lo64; omega
 have hhead : a0f (putB l) = m04 (e0q l) l.age := by rw [j02, hage]
 obtain ⟨a, b, ha, hb, hr⟩ := c0x l
 have hs : sub (e0q l) 14 2 = [a, b] := by
  rw [hr, show [2, UInt8.ofNat (lo8 l.type)] ++ (be 4 l.id ++ (be 4 l.adv ++ (be 4 (lo64 l.seq) ++ ([a, b] ++ (be 2 (lo64 (20 + ((b0q l).length : Int))) ++ b0q l))))) = ([2, UInt8.ofNat (lo8 l.type)] ++ be 4 l.id ++ be 4 l.adv ++ be 4 (lo64 l.seq)) ++ ([a, b] ++ (be 2 (lo64 (20 + ((b0q l).length : Int))) ++ b0q l)) from by simp only [List.append_assoc],
   g0d _ _ 14 2 (by simp [a08])]
  rfl
 have hn : ((putB l).length : Int) = 20 + ((b0q l).length : Int) := by rw [hlen]; omega
 refine ⟨a0d [a, b], ?_, ?_, ?_⟩
 ·have h2 : 256 ^ ([a, b] : List UInt8).length = 65536 := by simp
  have := f0f [a, b]; rw [h2] at this; exact this
 ·rw [hhead]
  exact r0k rfl (n07 l _ (m0d htold)) ((r0j l _).trans (Nat.mod_eq_of_lt hok.id)) ((p06 l _).trans (Nat.mod_eq_of_lt hok.adv))
   ((p05 l _).trans (by show f0o (lo64 l.seq % 4294967296) = l.seq; unfold f0o lo64; split <;> omega)) (by show a0d (sub (e0q l) 14 2) = _; rw [hs]) ((m03 l hlens.1 hlens.2 _).trans hn.symm)
 ·have hab : be 2 (a0d [a, b]) = [a, b] := m08 [a, b]
  unfold d0d
  simp only
  rw [hab, hn, f0r, hr]
  have e : be 2 (lo64 l.age) ++ ([2, UInt8.ofNat (lo8 l.type)] ++ (be 4 l.id ++ (be 4 l.adv ++ (be 4 (lo64 l.seq) ++ ([a, b] ++ (be 2 (lo64 (20 + ((b0q l).length : Int))) ++ b0q l)))))) = (be 2 (lo64 l.age) ++ [2, UInt8.ofNat (lo8 l.type)] ++ be 4 l.id ++ be 4 l.adv ++ be 4 (lo64 l.seq) ++ [a, b] ++ be 2 (lo64 (20 + ((b0q l).length : Int)))) ++ b0q l := by simp only [List.append_assoc]
  rw [e, List.take_append_of_le_length (by simp [a08]), List.take_of_length_le (by simp [a08])]
def c07 (h : c0p) (x : List UInt8) : LsaD :=
 if h.type = 1 then ⟨h.age, h.type, h.id, h.adv, h.seq, d0a (x.drop 4) ((x.length - 4) / 12), 0, [], 0⟩
 else if h.type = 2 then ⟨h.age, h.type, h.id, h.adv, h.seq, [], a0d (sub x 0 4), c0i (x.drop 4) ((x.length - 4) / 4), 0⟩
 else if h.type = 3 then ⟨h.age, h.type, h.id, h.adv, h.seq, [], a0d (sub x 0 4), [], (a0d (sub x 4 4) : Nat)⟩
 else ⟨h.age, h.type, h.id, h.adv, h.seq, [], 0, [], 0⟩
def shortX (h : c0p) (x : List UInt8) : Prop := (h.type = 1 ∧ x.length < 4) ∨ (h.type = 2 ∧ x.length < 4) ∨ (h.type = 3 ∧ x.length < 8)
theorem n0d (h : c0p) (x : List UInt8) : (c07 h x).type = h.type := by
 unfold c07; split
 ·rfl
 ·split
  ·rfl
  ·split <;> rfl
theorem l0c (h : c0p) (x : List UInt8) : (g0v h x).type = h.type := by
 unfold g0v c0o; split
 ·rfl
 ·split
  ·rfl
  ·split
   ·rfl
   ·split <;> rfl
theorem j0h (h : c0p) (x : List UInt8) (h4 : h.type = 1 ∨ h.type = 2 → 4 ≤ x.length) (h8 : h.type = 3 → x.length = 8) : c07 h x = g0v h x := by
 unfold c07 g0v c0o
 by_cases t1 : h.type = 1
 ·have := h4 (.inl t1)
  rw [if_pos t1, if_neg (by omega), if_pos t1]
 ·by_cases t2 : h.type = 2
  ·have := h4 (.inr t2)
   rw [if_neg t1, if_pos t2, if_neg (by omega), if_neg t1, if_pos t2]
  ·by_cases t3 : h.type = 3
   ·have hx := h8 t3
    have hs : sub x 4 4 = x.drop 4 := by unfold sub; rw [List.take_of_length_le (by rw [List.length_drop]; omega)]
    have hb : a0d (x.drop 4) < 4294967296 := by
     have := f0f (x.drop 4)
     have e : (x.drop 4).length = 4 := by rw [List.length_drop]; omega
     rw [e] at this
     exact this
    rw [if_neg t1, if_neg t2, if_pos t3, if_neg (by omega), if_neg t1, if_neg t2, if_pos t3, hs, Nat.mod_eq_of_lt hb]
   ·rw [if_neg t1, if_neg t2, if_neg t3]
    by_cases hx : x.length < 4
    ·rw [if_pos hx]
    ·rw [if_neg hx, if_neg t1, if_neg t2, if_neg t3]
theorem tell3 (l : LsaD) (h : l.type = 3) : (b0q l).length = 8 := by
 unfold b0q
 rw [if_neg (by omega), if_neg (by omega), List.length_append, a08, a08]
def f0s (r : LsaD) (x : List UInt8) : LsaD × Int := if canB r = true ∧ putB r = x then (r, 0) else (d0v, 3)
theorem j04 (x : List UInt8) (hx : ¬ x.length < 20) (hs : ¬ (b0h (x.drop 2) = false ∨ x.getD 16 0 = 255 ∨ x.getD 17 0 = 255)) (h : shortX (a0f x) (x.drop 20)) : getL x = (d0v, 3) := by
 unfold getL
 rw [if_neg hx, if_neg hs]
 by_cases hl : (a0f x).len ≠ (x.length : Int)
 ·rw [if_pos hl]
 ·rw [if_neg hl, if_neg]
  rintro ⟨hc, hp⟩
  have h1 := e03 hc
  have h2 := f0m h1.1 h1.2
  have h3 := e0f (g0v (a0f x) (x.drop 20))
  rw [hp] at h3
  have h4 : (x.drop 20).length = x.length - 20 := List.length_drop
  rcases h with ⟨_, h5⟩ | ⟨_, h5⟩ | ⟨t, h5⟩
  ·omega
  ·omega
  ·have := tell3 (g0v (a0f x) (x.drop 20)) (by rw [l0c]; exact t)
   omega
theorem i0k (x : List UInt8) (hx : ¬ x.length < 20) (hs : ¬ (b0h (x.drop 2) = false ∨ x.getD 16 0 = 255 ∨ x.getD 17 0 = 255)) (h : ¬ shortX (a0f x) (x.drop 20)) : getL x = f0s (c07 (a0f x) (x.drop 20)) x := by
 have hb : (x.drop 20).length = x.length - 20 := List.length_drop
 have h4 : (a0f x).type = 1 ∨ (a0f x).type = 2 → 4 ≤ (x.drop 20).length := by
  intro t
  by_cases h5 : (x.drop 20).length < 4
  ·exact absurd (t.elim (fun t => .inl ⟨t, h5⟩) (fun t => .inr (.inl ⟨t, h5⟩))) h
  ·omega
 unfold getL
 rw [if_neg hx, if_neg hs]
 by_cases hq : canB (c07 (a0f x) (x.drop 20)) = true ∧ putB (c07 (a0f x) (x.drop 20)) = x
 ·have h1 := e03 hq.1
  have h3 := e0f (c07 (a0f x) (x.drop 20))
  rw [hq.2] at h3
  have h8 : (a0f x).type = 3 → (x.drop 20).length = 8 := by
   intro t
   have := tell3 (c07 (a0f x) (x.drop 20)) (by rw [n0d]; exact t)
   omega
  have hlen : (a0f x).len = (x.length : Int) := by
   have e := j02 (c07 (a0f x) (x.drop 20))
   have e2 := m03 (c07 (a0f x) (x.drop 20)) h1.1 h1.2 ((lo64 (c07 (a0f x) (x.drop 20)).age % 65536 : Nat) : Int)
   rw [hq.2] at e
   rw [← e] at e2
   rw [e2]; omega
  have hsame := j0h (a0f x) (x.drop 20) h4 h8
  unfold f0s
  rw [if_neg (by rw [hlen]; exact fun e => e rfl), if_pos hq, ← hsame, if_pos hq]
 ·unfold f0s
  rw [if_neg hq]
  by_cases hl : (a0f x).len ≠ (x.length : Int)
  ·rw [if_pos hl]
  ·rw [if_neg hl, if_neg]
   intro hq2
   have h3 := e0f (g0v (a0f x) (x.drop 20))
   rw [hq2.2] at h3
   have h8 : (a0f x).type = 3 → (x.drop 20).length = 8 := by
    intro t
    have := tell3 (g0v (a0f x) (x.drop 20)) (by rw [l0c]; exact t)
    omega
   rw [← j0h (a0f x) (x.drop 20) h4 h8] at hq2
   exact hq hq2
theorem d0c (sl : Value) (l : List UInt8) (r : Bool) (hl : l.length ≤ 9223372036854775807) (w : World) (h : Hid (a0b w sl l)) (hr : Hid (b0h l = r)) :
 Calls Try.prog 59 #[sl] w fun e w' => e = .returned (.bool r) ∧ w = w' := by rw [← hr.out]; exact n0w sl l hl w h
theorem e0i (g o c : Nat) (l : List UInt8) (hl : 20 ≤ l.length) (hl2 : l.length ≤ 9223372036854775807) (hc : l.length ≤ c) (age type seq len : Int) (lid adv sum : Nat) (w : World) (hr : Hid (w.rangeAt g o (l.map bv))) (hh : Hid (a0f l = ⟨age, type, lid, adv, seq, sum, len⟩)) :
 Calls Try.prog 34 #[.slice (some ⟨g, o, none⟩) l.length c] w fun e w' => e = .returned (.agg (Ha age type lid adv seq sum len)) ∧ a03 (fun _ => False) w w' := by
 have := n0z g o c l hl hl2 hc w hr
 rw [hh.out] at this
 exact this
set_option maxRecDepth 100000 in
set_option maxHeartbeats 4000000 in
theorem m0v (p : Option Addr) (c : Nat) (x : List UInt8) (hx : x.length < 20) (w : World) :
 Calls Try.prog 33 #[.slice p x.length c] w (c0g x w) := by
 have hg : getL x = (d0v, 4) := by unfold getL; rw [if_pos hx]
 have hg' := Hi hg; clear hg
 have hR : Hid (a06 (w.alloc (.cells Zl 80)) w.heap.size 80 Zm) := Hi (a06.new w _ _)
 have hk : Hid (a03 (fun _ => False) w (w.alloc (.cells Zl 80))) := Hi ((a03.refl _ _).alloc _)
 go_enter Try.func33, Try.ntmps33
 go_upto_region 1 with fail
 generalize w.alloc (.cells Zl 80) = w0 at hR hk ⊢
 go_wp2_with ((with_reducible refine a09 2 ?_); refine a05 rfl 80 (.tmp 2) (.tmp 14) rfl w.heap.size Zl rfl rfl (a06.there hR.out 0 9 (Nat.le_refl 9)) a0t (a0y _ _ _ _ _ _ _ _ _ (a04 _ _ _) (a04 _ _ _)) ?_; intro w9 hr9 hs9)
 have e0 := a01 hr9.out 0 _ rfl
 have e1 := a01 hr9.out 1 _ rfl
 have e2 := a01 hr9.out 2 _ rfl
 have e3 := a01 hr9.out 3 _ rfl
 have e4 := a01 hr9.out 4 _ rfl
 have e5 := a01 hr9.out 5 _ rfl
 have e6 := a01 hr9.out 6 _ rfl
 have e7 := a01 hr9.out 7 _ rfl
 have e8 := a01 hr9.out 8 _ rfl
 refine bodyPost_ret (v := .tuple #[.agg Zl, .int .i64 4]) (by simp [results, Try.results33, go_sem, e0, e1, e2, e3, e4, e5, e6, e7, e8]) rfl ⟨⟨_, by rw [hg'.out], by rw [hg'.out]; exact LsaF.zero _ _⟩, hk.out.trans' hs9.out (fun i e => .inr (by omega))⟩
set_option maxRecDepth 100000 in
set_option maxHeartbeats 4000000 in
theorem r01 (g o c : Nat) (x : List UInt8) (hx : 20 ≤ x.length) (hx2 : x.length ≤ 1000000) (hc : x.length ≤ c) (w : World) (hr : Hid (w.rangeAt g o (x.map bv))) (hri : Hid (b0h (x.drop 2) = false)) :
 Calls Try.prog 33 #[.slice (some ⟨g, o, none⟩) x.length c] w (c0g x w) := by
 have hg : getL x = (d0v, 8) := by unfold getL; rw [if_neg (by omega), if_pos (.inl hri.out)]
 have hg' := Hi hg; clear hg
 have hR : Hid (a06 (w.alloc (.cells Zl 80)) w.heap.size 80 Zm) := Hi (a06.new w _ _)
 have hk : Hid (a03 (fun _ => False) w (w.alloc (.cells Zl 80))) := Hi ((a03.refl _ _).alloc _)
 go_enter Try.func33, Try.ntmps33
 go_upto_region 1 with fail
 generalize w.alloc (.cells Zl 80) = w0 at hR hk ⊢
 have hr0 := Hi (hk.out.rangeAt hr.out id)
 have hb0 := Hi (b01 hr0.out hc 2 (by omega))
 rw [if_neg (by omega)] at hb0
 go_wp2_with fail
 refine (d0c _ (x.drop 2) false (by simp; omega) _ hb0 hri).mono ?_
 rintro e w' ⟨rfl, rfl⟩
 go_wp2_with ((with_reducible refine a09 2 ?_); refine a05 rfl 80 (.tmp 2) (.tmp 31) rfl w.heap.size Zl rfl rfl (a06.there hR.out 0 9 (Nat.le_refl 9)) a0t (a0y _ _ _ _ _ _ _ _ _ (a04 _ _ _) (a04 _ _ _)) ?_; intro w9 hr9 hs9)
 have e0 := a01 hr9.out 0 _ rfl
 have e1 := a01 hr9.out 1 _ rfl
 have e2 := a01 hr9.out 2 _ rfl
 have e3 := a01 hr9.out 3 _ rfl
 have e4 := a01 hr9.out 4 _ rfl
 have e5 := a01 hr9.out 5 _ rfl
 have e6 := a01 hr9.out 6 _ rfl
 have e7 := a01 hr9.out 7 _ rfl
 have e8 := a01 hr9.out 8 _ rfl
 refine bodyPost_ret (v := .tuple #[.agg Zl, .int .i64 8]) (by simp [results, Try.results33, go_sem, e0, e1, e2, e3, e4, e5, e6, e7, e8]) rfl ⟨⟨_, by rw [hg'.out], by rw [hg'.out]; exact LsaF.zero _ _⟩, hk.out.trans' hs9.out (fun i e => .inr (by omega))⟩
set_option maxRecDepth 100000 in
set_option maxHeartbeats 4000000 in
theorem q0z (g o c : Nat) (x : List UInt8) (hx : 20 ≤ x.length) (hx2 : x.length ≤ 1000000) (hc : x.length ≤ c) (w : World) (hr : Hid (w.rangeAt g o (x.map bv))) (hri : Hid (b0h (x.drop 2) = true)) (h16 : x[16]'(by omega) = 255) :
 Calls Try.prog 33 #[.slice (some ⟨g, o, none⟩) x.length c] w (c0g x w) := by
 have hg : getL x = (d0v, 8) := by unfold getL; rw [if_neg (by omega), if_pos (.inr (.inl (by rw [List.getD_eq_getElem?_getD, List.getElem?_eq_getElem (by omega)]; exact h16)))]
 have hg' := Hi hg; clear hg
 have hR : Hid (a06 (w.alloc (.cells Zl 80)) w.heap.size 80 Zm) := Hi (a06.new w _ _)
 have hk : Hid (a03 (fun _ => False) w (w.alloc (.cells Zl 80))) := Hi ((a03.refl _ _).alloc _)
 go_enter Try.func33, Try.ntmps33
 go_upto_region 1 with fail
 generalize w.alloc (.cells Zl 80) = w0 at hR hk ⊢
 have hr0 := Hi (hk.out.rangeAt hr.out id)
 have hb0 := Hi (b01 hr0.out hc 2 (by omega))
 rw [if_neg (by omega)] at hb0
 have c16 := a0k hr0.out 16 (by omega)
 have e16 : (((x[16]'(by omega)).toNat : Int) == 255) = true := by rw [h16]; rfl
 have h16' := Hi h16; clear h16
 go_wp2_with fail
 refine (d0c _ (x.drop 2) true (by simp; omega) _ hb0 hri).mono ?_
 rintro e w' ⟨rfl, rfl⟩
 go_wp2_with ((with_reducible refine a09 2 ?_); refine a05 rfl 80 (.tmp 2) (.tmp 31) rfl w.heap.size Zl rfl rfl (a06.there hR.out 0 9 (Nat.le_refl 9)) a0t (a0y _ _ _ _ _ _ _ _ _ (a04 _ _ _) (a04 _ _ _)) ?_; intro w9 hr9 hs9)
 have e0 := a01 hr9.out 0 _ rfl
 have e1 := a01 hr9.out 1 _ rfl
 have e2 := a01 hr9.out 2 _ rfl
 have e3 := a01 hr9.out 3 _ rfl
 have e4 := a01 hr9.out 4 _ rfl
 have e5 := a01 hr9.out 5 _ rfl
 have e6 := a01 hr9.out 6 _ rfl
 have e7 := a01 hr9.out 7 _ rfl
 have e8 := a01 hr9.out 8 _ rfl
 refine bodyPost_ret (v := .tuple #[.agg Zl, .int .i64 8]) (by simp [results, Try.results33, go_sem, e0, e1, e2, e3, e4, e5, e6, e7, e8]) rfl ⟨⟨_, by rw [hg'.out], by rw [hg'.out]; exact LsaF.zero _ _⟩, hk.out.trans' hs9.out (fun i e => .inr (by omega))⟩
set_option maxRecDepth 100000 in
set_option maxHeartbeats 4000000 in
theorem q0y (g o c : Nat) (x : List UInt8) (hx : 20 ≤ x.length) (hx2 : x.length ≤ 1000000) (hc : x.length ≤ c) (w : World) (hr : Hid (w.rangeAt g o (x.map bv))) (hri : Hid (b0h (x.drop 2) = true)) (h16 : x[16]'(by omega) ≠ 255) (h17 : x[17]'(by omega) = 255) :
 Calls Try.prog 33 #[.slice (some ⟨g, o, none⟩) x.length c] w (c0g x w) := by
 have hg : getL x = (d0v, 8) := by unfold getL; rw [if_neg (by omega), if_pos (.inr (.inr (by rw [List.getD_eq_getElem?_getD, List.getElem?_eq_getElem (by omega)]; exact h17)))]
 have hg' := Hi hg; clear hg
 have hR : Hid (a06 (w.alloc (.cells Zl 80)) w.heap.size 80 Zm) := Hi (a06.new w _ _)
 have hk : Hid (a03 (fun _ => False) w (w.alloc (.cells Zl 80))) := Hi ((a03.refl _ _).alloc _)
 go_enter Try.func33, Try.ntmps33
 go_upto_region 1 with fail
 generalize w.alloc (.cells Zl 80) = w0 at hR hk ⊢
 have hr0 := Hi (hk.out.rangeAt hr.out id)
 have hb0 := Hi (b01 hr0.out hc 2 (by omega))
 rw [if_neg (by omega)] at hb0
 have c16 := a0k hr0.out 16 (by omega)
 have c17 := a0k hr0.out 17 (by omega)
 have e16 : (((x[16]'(by omega)).toNat : Int) == 255) = false := by rw [beq_eq_false_iff_ne]; intro e; exact h16 (UInt8.toNat_inj.1 (by have : ((x[16]'(by omega)).toNat : Int) = 255 := e; have h5 : (255 : UInt8).toNat = 255 := rfl; omega))
 have h16' := Hi h16; clear h16
 have e17 : (((x[17]'(by omega)).toNat : Int) == 255) = true := by rw [h17]; rfl
 have h17' := Hi h17; clear h17
 go_wp2_with fail
 refine (d0c _ (x.drop 2) true (by simp; omega) _ hb0 hri).mono ?_
 rintro e w' ⟨rfl, rfl⟩
 go_wp2_with ((with_reducible refine a09 2 ?_); refine a05 rfl 80 (.tmp 2) (.tmp 31) rfl w.heap.size Zl rfl rfl (a06.there hR.out 0 9 (Nat.le_refl 9)) a0t (a0y _ _ _ _ _ _ _ _ _ (a04 _ _ _) (a04 _ _ _)) ?_; intro w9 hr9 hs9)
 have e0 := a01 hr9.out 0 _ rfl
 have e1 := a01 hr9.out 1 _ rfl
 have e2 := a01 hr9.out 2 _ rfl
 have e3 := a01 hr9.out 3 _ rfl
 have e4 := a01 hr9.out 4 _ rfl
 have e5 := a01 hr9.out 5 _ rfl
 have e6 := a01 hr9.out 6 _ rfl
 have e7 := a01 hr9.out 7 _ rfl
 have e8 := a01 hr9.out 8 _ rfl
 refine bodyPost_ret (v := .tuple #[.agg Zl, .int .i64 8]) (by simp [results, Try.results33, go_sem, e0, e1, e2, e3, e4, e5, e6, e7, e8]) rfl ⟨⟨_, by rw [hg'.out], by rw [hg'.out]; exact LsaF.zero _ _⟩, hk.out.trans' hs9.out (fun i e => .inr (by omega))⟩
set_option maxRecDepth 100000 in
set_option maxHeartbeats 4000000 in
theorem q0w (g o c : Nat) (x : List UInt8) (hx : 20 ≤ x.length) (hx2 : x.length ≤ 1000000) (hc : x.length ≤ c) (age seq len : Int) (lid adv sum : Nat) (w : World) (hr : Hid (w.rangeAt g o (x.map bv))) (hh : Hid (a0f x = ⟨age, 1, lid, adv, seq, sum, len⟩)) (hri : Hid (b0h (x.drop 2) = true)) (h16 : x[16]'(by omega) ≠ 255) (h17 : x[17]'(by omega) ≠ 255) (hsh : x.length < 24) :
 Calls Try.prog 33 #[.slice (some ⟨g, o, none⟩) x.length c] w (c0g x w) := by
 have hnb : ¬ (b0h (x.drop 2) = false ∨ x.getD 16 0 = 255 ∨ x.getD 17 0 = 255) := by
  rw [List.getD_eq_getElem?_getD, List.getElem?_eq_getElem (by omega), List.getD_eq_getElem?_getD, List.getElem?_eq_getElem (by omega), hri.out]
  rintro (h | h | h)
  ·cases h
  ·exact h16 h
  ·exact h17 h
 have hg : getL x = (d0v, 3) := j04 x (by omega) hnb (.inl ⟨by rw [hh.out], by rw [List.length_drop]; omega⟩)
 clear hnb
 have hg' := Hi hg; clear hg
 have hR : Hid (a06 (w.alloc (.cells Zl 80)) w.heap.size 80 Zm) := Hi (a06.new w _ _)
 have hk : Hid (a03 (fun _ => False) w (w.alloc (.cells Zl 80))) := Hi ((a03.refl _ _).alloc _)
 go_enter Try.func33, Try.ntmps33
 go_upto_region 1 with fail
 generalize w.alloc (.cells Zl 80) = w0 at hR hk ⊢
 have hr0 := Hi (hk.out.rangeAt hr.out id)
 have hb0 := Hi (b01 hr0.out hc 2 (by omega))
 rw [if_neg (by omega)] at hb0
 have c16 := a0k hr0.out 16 (by omega)
 have c17 := a0k hr0.out 17 (by omega)
 have e16 : (((x[16]'(by omega)).toNat : Int) == 255) = false := by rw [beq_eq_false_iff_ne]; intro e; exact h16 (UInt8.toNat_inj.1 (by have : ((x[16]'(by omega)).toNat : Int) = 255 := e; have h5 : (255 : UInt8).toNat = 255 := rfl; omega))
 have h16' := Hi h16; clear h16
 have e17 : (((x[17]'(by omega)).toNat : Int) == 255) = false := by rw [beq_eq_false_iff_ne]; intro e; exact h17 (UInt8.toNat_inj.1 (by have : ((x[17]'(by omega)).toNat : Int) = 255 := e; have h5 : (255 : UInt8).toNat = 255 := rfl; omega))
 have h17' := Hi h17; clear h17
 go_wp2_with fail
 refine (d0c _ (x.drop 2) true (by simp; omega) _ hb0 hri).mono ?_
 rintro e w' ⟨rfl, rfl⟩
 go_wp2_with fail
 refine (e0i g o c x hx (by omega) hc age 1 seq len lid adv sum _ hr0 hh).mono ?_
 rintro e w1 ⟨rfl, k1⟩
 clear c16 c17 e16 e17
 obtain ⟨W1, hW1⟩ : ∃ W1, W1 = w1.alloc (.cells (Ha age 1 lid adv seq sum len) 73) := ⟨_, rfl⟩
 have k1' : a03 (fun _ => False) w0 W1 := by rw [hW1]; exact k1.alloc _
 have hH1 : Hid (a06 W1 w1.heap.size 73 (Ha' age 1 lid adv seq sum len)) := Hi (by rw [hW1]; exact a06.new w1 73 (Ha' age 1 lid adv seq sum len))
 have hR1 := Hi (hR.out.keep k1' (fun f => f)); have hk1 := Hi (hk.out.trans k1'); have hr1 := Hi (k1'.rangeAt hr0.out (fun f => f))
 have hW1' := Hi hW1
 clear hW1 k1 k1' hR hk hr0 hb0
 go_upto_region 6 with ((with_reducible refine a09 4 ?_); refine a07 rfl 73 (.tmp 4) (.tmp 33) rfl _ (Ha age 1 lid adv seq sum len) rfl rfl c0z rfl (b0o _ _ _ _ _ _ _) ?_)
 rw [← hW1'.out]
 clear hW1'
 have b0 := hH1.out.cell 0 (.int .i64 age) rfl
 have b4 := hH1.out.cell 4 (.int .i64 seq) rfl
 obtain ⟨W2, hW2⟩ : ∃ W2, W2 = W1.alloc (.cells (La age 1 lid adv seq Sn 0 Sn 0) 80) := ⟨_, rfl⟩
 have k2' : a03 (fun _ => False) W1 W2 := by rw [hW2]; exact (a03.refl _ _).alloc _
 have hB2 : Hid (a06 W2 W1.heap.size 80 (La' age 1 lid adv seq Sn 0 Sn 0)) := Hi (by rw [hW2]; exact a06.new W1 80 (La' age 1 lid adv seq Sn 0 Sn 0))
 have hH2 := Hi (hH1.out.keep k2' (fun f => f)); have hR2 := Hi (hR1.out.keep k2' (fun f => f)); have hk2 := Hi (hk1.out.trans k2'); have hr2 := Hi (k2'.rangeAt hr1.out (fun f => f))
 have hlt : Hid (w.heap.size < W1.heap.size) := Hi (lt_of_block hR1.out)
 have hW2' := Hi hW2
 clear hW2 k2' hR1 hk1 hr1
 go_upto_region 7 with (first | ((with_reducible refine a0a 37 ?_); refine wpList_load_mid rfl 71 (.tmp 36) rfl w1.heap.size 1 rfl _ _ (c0d hH1.out) Try.underlying71 rfl b0j ?_) | ((with_reducible refine a09 5 ?_); refine a07 rfl 80 (.tmp 5) (.tmp 40) rfl _ _ rfl rfl a0t rfl (a0y _ _ _ _ _ _ _ _ _ (a04 _ _ _) (a04 _ _ _)) ?_))
 rw [← hW2'.out]
 clear hW2' b0 b4 hH1
 have b1 := hH2.out.cell 1 (.int .i64 1) rfl
 obtain ⟨B, hB⟩ : ∃ B, B = W1.heap.size := ⟨_, rfl⟩
 rw [← hB] at hB2 hlt ⊢
 obtain ⟨HB, hHB⟩ : ∃ HB, HB = w1.heap.size := ⟨_, rfl⟩
 rw [← hHB] at hH2 b1 ⊢
 clear hB hHB
 go_wp2_with ((with_reducible refine a09 2 ?_); refine a05 rfl 80 (.tmp 2) (.tmp 51) rfl w.heap.size Zl rfl rfl (a06.there hR2.out 0 9 (Nat.le_refl 9)) a0t (a0y _ _ _ _ _ _ _ _ _ (a04 _ _ _) (a04 _ _ _)) ?_; intro w9 hr9 hs9)
 all_goals (
  have e0 := a01 hr9.out 0 _ rfl
  have e1 := a01 hr9.out 1 _ rfl
  have e2 := a01 hr9.out 2 _ rfl
  have e3 := a01 hr9.out 3 _ rfl
  have e4 := a01 hr9.out 4 _ rfl
  have e5 := a01 hr9.out 5 _ rfl
  have e6 := a01 hr9.out 6 _ rfl
  have e7 := a01 hr9.out 7 _ rfl
  have e8 := a01 hr9.out 8 _ rfl
  refine bodyPost_ret (v := .tuple #[.agg Zl, .int .i64 3]) (by simp [results, Try.results33, go_sem, e0, e1, e2, e3, e4, e5, e6, e7, e8]) rfl ⟨⟨_, by rw [hg'.out], by rw [hg'.out]; exact LsaF.zero _ _⟩, hk2.out.trans' hs9.out (fun i e => .inr (by omega))⟩)
set_option maxRecDepth 100000 in
set_option maxHeartbeats 4000000 in
theorem q0v (g o c : Nat) (x : List UInt8) (hx : 20 ≤ x.length) (hx2 : x.length ≤ 1000000) (hc : x.length ≤ c) (age seq len : Int) (lid adv sum : Nat) (w : World) (hr : Hid (w.rangeAt g o (x.map bv))) (hh : Hid (a0f x = ⟨age, 2, lid, adv, seq, sum, len⟩)) (hri : Hid (b0h (x.drop 2) = true)) (h16 : x[16]'(by omega) ≠ 255) (h17 : x[17]'(by omega) ≠ 255) (hsh : x.length < 24) :
 Calls Try.prog 33 #[.slice (some ⟨g, o, none⟩) x.length c] w (c0g x w) := by
 have hnb : ¬ (b0h (x.drop 2) = false ∨ x.getD 16 0 = 255 ∨ x.getD 17 0 = 255) := by
  rw [List.getD_eq_getElem?_getD, List.getElem?_eq_getElem (by omega), List.getD_eq_getElem?_getD, List.getElem?_eq_getElem (by omega), hri.out]
  rintro (h | h | h)
  ·cases h
  ·exact h16 h
  ·exact h17 h
 have hg : getL x = (d0v, 3) := j04 x (by omega) hnb (.inr (.inl ⟨by rw [hh.out], by rw [List.length_drop]; omega⟩))
 clear hnb
 have hg' := Hi hg; clear hg
 have hR : Hid (a06 (w.alloc (.cells Zl 80)) w.heap.size 80 Zm) := Hi (a06.new w _ _)
 have hk : Hid (a03 (fun _ => False) w (w.alloc (.cells Zl 80))) := Hi ((a03.refl _ _).alloc _)
 go_enter Try.func33, Try.ntmps33
 go_upto_region 1 with fail
 generalize w.alloc (.cells Zl 80) = w0 at hR hk ⊢
 have hr0 := Hi (hk.out.rangeAt hr.out id)
 have hb0 := Hi (b01 hr0.out hc 2 (by omega))
 rw [if_neg (by omega)] at hb0
 have c16 := a0k hr0.out 16 (by omega)
 have c17 := a0k hr0.out 17 (by omega)
 have e16 : (((x[16]'(by omega)).toNat : Int) == 255) = false := by rw [beq_eq_false_iff_ne]; intro e; exact h16 (UInt8.toNat_inj.1 (by have : ((x[16]'(by omega)).toNat : Int) = 255 := e; have h5 : (255 : UInt8).toNat = 255 := rfl; omega))
 have h16' := Hi h16; clear h16
 have e17 : (((x[17]'(by omega)).toNat : Int) == 255) = false := by rw [beq_eq_false_iff_ne]; intro e; exact h17 (UInt8.toNat_inj.1 (by have : ((x[17]'(by omega)).toNat : Int) = 255 := e; have h5 : (255 : UInt8).toNat = 255 := rfl; omega))
 have h17' := Hi h17; clear h17
 go_wp2_with fail
 refine (d0c _ (x.drop 2) true (by simp; omega) _ hb0 hri).mono ?_
 rintro e w' ⟨rfl, rfl⟩
 go_wp2_with fail
 refine (e0i g o c x hx (by omega) hc age 2 seq len lid adv sum _ hr0 hh).mono ?_
 rintro e w1 ⟨rfl, k1⟩
 clear c16 c17 e16 e17
 obtain ⟨W1, hW1⟩ : ∃ W1, W1 = w1.alloc (.cells (Ha age 2 lid adv seq sum len) 73) := ⟨_, rfl⟩
 have k1' : a03 (fun _ => False) w0 W1 := by rw [hW1]; exact k1.alloc _
 have hH1 : Hid (a06 W1 w1.heap.size 73 (Ha' age 2 lid adv seq sum len)) := Hi (by rw [hW1]; exact a06.new w1 73 (Ha' age 2 lid adv seq sum len))
 have hR1 := Hi (hR.out.keep k1' (fun f => f)); have hk1 := Hi (hk.out.trans k1'); have hr1 := Hi (k1'.rangeAt hr0.out (fun f => f))
 have hW1' := Hi hW1
 clear hW1 k1 k1' hR hk hr0 hb0
 go_upto_region 6 with ((with_reducible refine a09 4 ?_); refine a07 rfl 73 (.tmp 4) (.tmp 33) rfl _ (Ha age 2 lid adv seq sum len) rfl rfl c0z rfl (b0o _ _ _ _ _ _ _) ?_)
 rw [← hW1'.out]
 clear hW1'
 have b0 := hH1.out.cell 0 (.int .i64 age) rfl
 have b4 := hH1.out.cell 4 (.int .i64 seq) rfl
 obtain ⟨W2, hW2⟩ : ∃ W2, W2 = W1.alloc (.cells (La age 2 lid adv seq Sn 0 Sn 0) 80) := ⟨_, rfl⟩
 have k2' : a03 (fun _ => False) W1 W2 := by rw [hW2]; exact (a03.refl _ _).alloc _
 have hB2 : Hid (a06 W2 W1.heap.size 80 (La' age 2 lid adv seq Sn 0 Sn 0)) := Hi (by rw [hW2]; exact a06.new W1 80 (La' age 2 lid adv seq Sn 0 Sn 0))
 have hH2 := Hi (hH1.out.keep k2' (fun f => f)); have hR2 := Hi (hR1.out.keep k2' (fun f => f)); have hk2 := Hi (hk1.out.trans k2'); have hr2 := Hi (k2'.rangeAt hr1.out (fun f => f))
 have hlt : Hid (w.heap.size < W1.heap.size) := Hi (lt_of_block hR1.out)
 have hW2' := Hi hW2
 clear hW2 k2' hR1 hk1 hr1
 go_upto_region 7 with (first | ((with_reducible refine a0a 37 ?_); refine wpList_load_mid rfl 71 (.tmp 36) rfl w1.heap.size 1 rfl _ _ (c0d hH1.out) Try.underlying71 rfl b0j ?_) | ((with_reducible refine a09 5 ?_); refine a07 rfl 80 (.tmp 5) (.tmp 40) rfl _ _ rfl rfl a0t rfl (a0y _ _ _ _ _ _ _ _ _ (a04 _ _ _) (a04 _ _ _)) ?_))
 rw [← hW2'.out]
 clear hW2' b0 b4 hH1
 have b1 := hH2.out.cell 1 (.int .i64 2) rfl
 obtain ⟨B, hB⟩ : ∃ B, B = W1.heap.size := ⟨_, rfl⟩
 rw [← hB] at hB2 hlt ⊢
 obtain ⟨HB, hHB⟩ : ∃ HB, HB = w1.heap.size := ⟨_, rfl⟩
 rw [← hHB] at hH2 b1 ⊢
 clear hB hHB
 go_wp2_with ((with_reducible refine a09 2 ?_); refine a05 rfl 80 (.tmp 2) (.tmp 98) rfl w.heap.size Zl rfl rfl (a06.there hR2.out 0 9 (Nat.le_refl 9)) a0t (a0y _ _ _ _ _ _ _ _ _ (a04 _ _ _) (a04 _ _ _)) ?_; intro w9 hr9 hs9)
 all_goals (
  have e0 := a01 hr9.out 0 _ rfl
  have e1 := a01 hr9.out 1 _ rfl
  have e2 := a01 hr9.out 2 _ rfl
  have e3 := a01 hr9.out 3 _ rfl
  have e4 := a01 hr9.out 4 _ rfl
  have e5 := a01 hr9.out 5 _ rfl
  have e6 := a01 hr9.out 6 _ rfl
  have e7 := a01 hr9.out 7 _ rfl
  have e8 := a01 hr9.out 8 _ rfl
  refine bodyPost_ret (v := .tuple #[.agg Zl, .int .i64 3]) (by simp [results, Try.results33, go_sem, e0, e1, e2, e3, e4, e5, e6, e7, e8]) rfl ⟨⟨_, by rw [hg'.out], by rw [hg'.out]; exact LsaF.zero _ _⟩, hk2.out.trans' hs9.out (fun i e => .inr (by omega))⟩)
set_option maxRecDepth 100000 in
set_option maxHeartbeats 4000000 in
theorem q0u (g o c : Nat) (x : List UInt8) (hx : 20 ≤ x.length) (hx2 : x.length ≤ 1000000) (hc : x.length ≤ c) (age seq len : Int) (lid adv sum : Nat) (w : World) (hr : Hid (w.rangeAt g o (x.map bv))) (hh : Hid (a0f x = ⟨age, 3, lid, adv, seq, sum, len⟩)) (hri : Hid (b0h (x.drop 2) = true)) (h16 : x[16]'(by omega) ≠ 255) (h17 : x[17]'(by omega) ≠ 255) (hsh : x.length < 28) :
 Calls Try.prog 33 #[.slice (some ⟨g, o, none⟩) x.length c] w (c0g x w) := by
 have hnb : ¬ (b0h (x.drop 2) = false ∨ x.getD 16 0 = 255 ∨ x.getD 17 0 = 255) := by
  rw [List.getD_eq_getElem?_getD, List.getElem?_eq_getElem (by omega), List.getD_eq_getElem?_getD, List.getElem?_eq_getElem (by omega), hri.out]
  rintro (h | h | h)
  ·cases h
  ·exact h16 h
  ·exact h17 h
 have hg : getL x = (d0v, 3) := j04 x (by omega) hnb (.inr (.inr ⟨by rw [hh.out], by rw [List.length_drop]; omega⟩))
 clear hnb
 have hg' := Hi hg; clear hg
 have hR : Hid (a06 (w.alloc (.cells Zl 80)) w.heap.size 80 Zm) := Hi (a06.new w _ _)
 have hk : Hid (a03 (fun _ => False) w (w.alloc (.cells Zl 80))) := Hi ((a03.refl _ _).alloc _)
 go_enter Try.func33, Try.ntmps33
 go_upto_region 1 with fail
 generalize w.alloc (.cells Zl 80) = w0 at hR hk ⊢
 have hr0 := Hi (hk.out.rangeAt hr.out id)
 have hb0 := Hi (b01 hr0.out hc 2 (by omega))
 rw [if_neg (by omega)] at hb0
 have c16 := a0k hr0.out 16 (by omega)
 have c17 := a0k hr0.out 17 (by omega)
 have e16 : (((x[16]'(by omega)).toNat : Int) == 255) = false := by rw [beq_eq_false_iff_ne]; intro e; exact h16 (UInt8.toNat_inj.1 (by have : ((x[16]'(by omega)).toNat : Int) = 255 := e; have h5 : (255 : UInt8).toNat = 255 := rfl; omega))
 have h16' := Hi h16; clear h16
 have e17 : (((x[17]'(by omega)).toNat : Int) == 255) = false := by rw [beq_eq_false_iff_ne]; intro e; exact h17 (UInt8.toNat_inj.1 (by have : ((x[17]'(by omega)).toNat : Int) = 255 := e; have h5 : (255 : UInt8).toNat = 255 := rfl; omega))
 have h17' := Hi h17; clear h17
 go_wp2_with fail
 refine (d0c _ (x.drop 2) true (by simp; omega) _ hb0 hri).mono ?_
 rintro e w' ⟨rfl, rfl⟩
 go_wp2_with fail
 refine (e0i g o c x hx (by omega) hc age 3 seq len lid adv sum _ hr0 hh).mono ?_
 rintro e w1 ⟨rfl, k1⟩
 clear c16 c17 e16 e17
 obtain ⟨W1, hW1⟩ : ∃ W1, W1 = w1.alloc (.cells (Ha age 3 lid adv seq sum len) 73) := ⟨_, rfl⟩
 have k1' : a03 (fun _ => False) w0 W1 := by rw [hW1]; exact k1.alloc _
 have hH1 : Hid (a06 W1 w1.heap.size 73 (Ha' age 3 lid adv seq sum len)) := Hi (by rw [hW1]; exact a06.new w1 73 (Ha' age 3 lid adv seq sum len))
 have hR1 := Hi (hR.out.keep k1' (fun f => f)); have hk1 := Hi (hk.out.trans k1'); have hr1 := Hi (k1'.rangeAt hr0.out (fun f => f))
 have hW1' := Hi hW1
 clear hW1 k1 k1' hR hk hr0 hb0
 go_upto_region 6 with ((with_reducible refine a09 4 ?_); refine a07 rfl 73 (.tmp 4) (.tmp 33) rfl _ (Ha age 3 lid adv seq sum len) rfl rfl c0z rfl (b0o _ _ _ _ _ _ _) ?_)
 rw [← hW1'.out]
 clear hW1'
 have b0 := hH1.out.cell 0 (.int .i64 age) rfl
 have b4 := hH1.out.cell 4 (.int .i64 seq) rfl
 obtain ⟨W2, hW2⟩ : ∃ W2, W2 = W1.alloc (.cells (La age 3 lid adv seq Sn 0 Sn 0) 80) := ⟨_, rfl⟩
 have k2' : a03 (fun _ => False) W1 W2 := by rw [hW2]; exact (a03.refl _ _).alloc _
 have hB2 : Hid (a06 W2 W1.heap.size 80 (La' age 3 lid adv seq Sn 0 Sn 0)) := Hi (by rw [hW2]; exact a06.new W1 80 (La' age 3 lid adv seq Sn 0 Sn 0))
 have hH2 := Hi (hH1.out.keep k2' (fun f => f)); have hR2 := Hi (hR1.out.keep k2' (fun f => f)); have hk2 := Hi (hk1.out.trans k2'); have hr2 := Hi (k2'.rangeAt hr1.out (fun f => f))
 have hlt : Hid (w.heap.size < W1.heap.size) := Hi (lt_of_block hR1.out)
 have hW2' := Hi hW2
 clear hW2 k2' hR1 hk1 hr1
 go_upto_region 7 with (first | ((with_reducible refine a0a 37 ?_); refine wpList_load_mid rfl 71 (.tmp 36) rfl w1.heap.size 1 rfl _ _ (c0d hH1.out) Try.underlying71 rfl b0j ?_) | ((with_reducible refine a09 5 ?_); refine a07 rfl 80 (.tmp 5) (.tmp 40) rfl _ _ rfl rfl a0t rfl (a0y _ _ _ _ _ _ _ _ _ (a04 _ _ _) (a04 _ _ _)) ?_))
 rw [← hW2'.out]
 clear hW2' b0 b4 hH1
 have b1 := hH2.out.cell 1 (.int .i64 3) rfl
 obtain ⟨B, hB⟩ : ∃ B, B = W1.heap.size := ⟨_, rfl⟩
 rw [← hB] at hB2 hlt ⊢
 obtain ⟨HB, hHB⟩ : ∃ HB, HB = w1.heap.size := ⟨_, rfl⟩
 rw [← hHB] at hH2 b1 ⊢
 clear hB hHB
 go_wp2_with ((with_reducible refine a09 2 ?_); refine a05 rfl 80 (.tmp 2) (.tmp 128) rfl w.heap.size Zl rfl rfl (a06.there hR2.out 0 9 (Nat.le_refl 9)) a0t (a0y _ _ _ _ _ _ _ _ _ (a04 _ _ _) (a04 _ _ _)) ?_; intro w9 hr9 hs9)
 all_goals (
  have e0 := a01 hr9.out 0 _ rfl
  have e1 := a01 hr9.out 1 _ rfl
  have e2 := a01 hr9.out 2 _ rfl
  have e3 := a01 hr9.out 3 _ rfl
  have e4 := a01 hr9.out 4 _ rfl
  have e5 := a01 hr9.out 5 _ rfl
  have e6 := a01 hr9.out 6 _ rfl
  have e7 := a01 hr9.out 7 _ rfl
  have e8 := a01 hr9.out 8 _ rfl
  refine bodyPost_ret (v := .tuple #[.agg Zl, .int .i64 3]) (by simp [results, Try.results33, go_sem, e0, e1, e2, e3, e4, e5, e6, e7, e8]) rfl ⟨⟨_, by rw [hg'.out], by rw [hg'.out]; exact LsaF.zero _ _⟩, hk2.out.trans' hs9.out (fun i e => .inr (by omega))⟩)
theorem b02 (sl : Value) (l : List UInt8) (n : Nat) (hl : l.length ≤ 4) (w : World) (h : Hid (a0b w sl l)) (hn : Hid (a0d l = n)) :
 Calls Try.prog 32 #[sl] w fun e w' => e = .returned (.int .i64 n) ∧ w = w' :=
 (l03 sl l hl w h).mono fun e w' ⟨he, hw⟩ => ⟨by rw [he, hn.out], hw⟩
set_option maxRecDepth 100000 in
set_option maxHeartbeats 4000000 in
theorem r10Get_o (g o c : Nat) (x : List UInt8) (hx : 20 ≤ x.length) (hx2 : x.length ≤ 1000000) (hc : x.length ≤ c) (age type seq len : Int) (lid adv sum : Nat) (w : World) (hr : Hid (w.rangeAt g o (x.map bv))) (hh : Hid (a0f x = ⟨age, type, lid, adv, seq, sum, len⟩)) (hri : Hid (b0h (x.drop 2) = true)) (h16 : x[16]'(by omega) ≠ 255) (h17 : x[17]'(by omega) ≠ 255) (t1 : type ≠ 1) (t2 : type ≠ 2) (t3 : type ≠ 3) :
 Calls Try.prog 33 #[.slice (some ⟨g, o, none⟩) x.length c] w (c0g x w) := by
 have hnb : ¬ (b0h (x.drop 2) = false ∨ x.getD 16 0 = 255 ∨ x.getD 17 0 = 255) := by
  rw [List.getD_eq_getElem?_getD, List.getElem?_eq_getElem (by omega), List.getD_eq_getElem?_getD, List.getElem?_eq_getElem (by omega), hri.out]
  rintro (h | h | h)
  ·cases h
  ·exact h16 h
  ·exact h17 h
 have hgl0 : getL x = f0s (c07 (a0f x) (x.drop 20)) x := i0k x (by omega) hnb (by rintro (⟨h, _⟩ | ⟨h, _⟩ | ⟨h, _⟩) <;> rw [hh.out] at h <;> first | exact t1 h | exact t2 h | exact t3 h)
 clear hnb
 have hd : c07 (a0f x) (x.drop 20) = ⟨age, type, lid, adv, seq, [], 0, [], 0⟩ := by rw [hh.out]; unfold c07; simp only; rw [if_neg t1, if_neg t2, if_neg t3]
 have hcan' : Hid (canB ⟨age, type, lid, adv, seq, [], 0, [], 0⟩ = false) := Hi (by
  cases hcan : canB ⟨age, type, lid, adv, seq, [], 0, [], 0⟩ with
  | false => rfl
  | true =>
   have := g0z hcan
   unfold i0u at this
   simp only at this
   rw [if_neg t1, if_neg t2, if_neg t3] at this
   cases this)
 rw [hd] at hgl0
 have hgl := Hi hgl0
 have hg : True := trivial
 have n1 : (type == 1) = false := by rw [beq_eq_false_iff_ne]; exact t1
 have n2 : (type == 2) = false := by rw [beq_eq_false_iff_ne]; exact t2
 have n3 : (type == 3) = false := by rw [beq_eq_false_iff_ne]; exact t3
 clear hgl0 hd t1 t2 t3
 have hR : Hid (a06 (w.alloc (.cells Zl 80)) w.heap.size 80 Zm) := Hi (a06.new w _ _)
 have hk : Hid (a03 (fun _ => False) w (w.alloc (.cells Zl 80))) := Hi ((a03.refl _ _).alloc _)
 go_enter Try.func33, Try.ntmps33
 go_upto_region 1 with fail
 generalize w.alloc (.cells Zl 80) = w0 at hR hk ⊢
 have hr0 := Hi (hk.out.rangeAt hr.out id)
 have hb0 := Hi (b01 hr0.out hc 2 (by omega))
 rw [if_neg (by omega)] at hb0
 have c16 := a0k hr0.out 16 (by omega)
 have c17 := a0k hr0.out 17 (by omega)
 have e16 : (((x[16]'(by omega)).toNat : Int) == 255) = false := by rw [beq_eq_false_iff_ne]; intro e; exact h16 (UInt8.toNat_inj.1 (by have : ((x[16]'(by omega)).toNat : Int) = 255 := e; have h5 : (255 : UInt8).toNat = 255 := rfl; omega))
 have h16' := Hi h16; clear h16
 have e17 : (((x[17]'(by omega)).toNat : Int) == 255) = false := by rw [beq_eq_false_iff_ne]; intro e; exact h17 (UInt8.toNat_inj.1 (by have : ((x[17]'(by omega)).toNat : Int) = 255 := e; have h5 : (255 : UInt8).toNat = 255 := rfl; omega))
 have h17' := Hi h17; clear h17
 go_wp2_with fail
 refine (d0c _ (x.drop 2) true (by simp; omega) _ hb0 hri).mono ?_
 rintro e w' ⟨rfl, rfl⟩
 go_wp2_with fail
 refine (e0i g o c x hx (by omega) hc age type seq len lid adv sum _ hr0 hh).mono ?_
 rintro e w1 ⟨rfl, k1⟩
 clear c16 c17 e16 e17
 obtain ⟨W1, hW1⟩ : ∃ W1, W1 = w1.alloc (.cells (Ha age type lid adv seq sum len) 73) := ⟨_, rfl⟩
 have k1' : a03 (fun _ => False) w0 W1 := by rw [hW1]; exact k1.alloc _
 have hH1 : Hid (a06 W1 w1.heap.size 73 (Ha' age type lid adv seq sum len)) := Hi (by rw [hW1]; exact a06.new w1 73 (Ha' age type lid adv seq sum len))
 have hR1 := Hi (hR.out.keep k1' (fun f => f)); have hk1 := Hi (hk.out.trans k1'); have hr1 := Hi (k1'.rangeAt hr0.out (fun f => f))
 have hW1' := Hi hW1
 clear hW1 k1 k1' hR hk hr0 hb0
 go_upto_region 6 with ((with_reducible refine a09 4 ?_); refine a07 rfl 73 (.tmp 4) (.tmp 33) rfl _ (Ha age type lid adv seq sum len) rfl rfl c0z rfl (b0o _ _ _ _ _ _ _) ?_)
 rw [← hW1'.out]
 clear hW1'
 have b0 := hH1.out.cell 0 (.int .i64 age) rfl
 have b4 := hH1.out.cell 4 (.int .i64 seq) rfl
 obtain ⟨W2, hW2⟩ : ∃ W2, W2 = W1.alloc (.cells (La age type lid adv seq Sn 0 Sn 0) 80) := ⟨_, rfl⟩
 have k2' : a03 (fun _ => False) W1 W2 := by rw [hW2]; exact (a03.refl _ _).alloc _
 have hB2 : Hid (a06 W2 W1.heap.size 80 (La' age type lid adv seq Sn 0 Sn 0)) := Hi (by rw [hW2]; exact a06.new W1 80 (La' age type lid adv seq Sn 0 Sn 0))
 have hH2 := Hi (hH1.out.keep k2' (fun f => f)); have hR2 := Hi (hR1.out.keep k2' (fun f => f)); have hk2 := Hi (hk1.out.trans k2'); have hr2 := Hi (k2'.rangeAt hr1.out (fun f => f))
 have hlt : Hid (w.heap.size < W1.heap.size) := Hi (lt_of_block hR1.out)
 have hW2' := Hi hW2
 clear hW2 k2' hR1 hk1 hr1
 go_upto_region 7 with (first | ((with_reducible refine a0a 37 ?_); refine wpList_load_mid rfl 71 (.tmp 36) rfl w1.heap.size 1 rfl _ _ (c0d hH1.out) Try.underlying71 rfl b0j ?_) | ((with_reducible refine a09 5 ?_); refine a07 rfl 80 (.tmp 5) (.tmp 40) rfl _ _ rfl rfl a0t rfl (a0y _ _ _ _ _ _ _ _ _ (a04 _ _ _) (a04 _ _ _)) ?_))
 rw [← hW2'.out]
 clear hW2' b0 b4 hH1
 have b1 := hH2.out.cell 1 (.int .i64 type) rfl
 obtain ⟨B, hB⟩ : ∃ B, B = W1.heap.size := ⟨_, rfl⟩
 rw [← hB] at hB2 hlt ⊢
 obtain ⟨HB, hHB⟩ : ∃ HB, HB = w1.heap.size := ⟨_, rfl⟩
 rw [← hHB] at hH2 b1 ⊢
 clear hB hHB
 have hB3 := hB2; have hR3 := hR2; have hk3 := hk2; have hr3 := hr2
 have hL3 : Hid (b03 W2 (.slice none 0 0) []) := Hi (b03.nil _)
 have hN3 : Hid (a0x W2 (.slice none 0 0) []) := Hi (a0x.nil _)
 have hlb : ([] : List b09).length ≤ 9223372036854775807 := by simp
 have hrb2 : ([] : List Nat).length ≤ 9223372036854775807 := by simp
 by_cases hck : c = 20
 ·skip
  go_wp2_with ((with_reducible refine a0a 139 ?_); refine wpList_load_mid rfl 80 (.tmp 5) rfl B 0 rfl (La' age type lid adv seq Sn 0 Sn 0) _ hB3.out.range Try.underlying80 rfl a0t ?_)
  have hg' : Hid (getL x = (d0v, 3)) := Hi (by rw [hgl.out]; unfold f0s; rw [if_neg (fun h => by rw [hcan'.out] at h; cases h.1)])
  refine (g0i age type seq 0 lid adv 0 [] [] none none 0 0 _ hL3 hlb hrb2 hcan').mono ?_
  rintro e w4 ⟨rfl, k4⟩
  have hR4 := Hi (hR3.out.keep k4 (fun f => f)); have hk4 := Hi (hk3.out.trans k4)
  clear k4 hR3 hk3 hB3 hr3 hL3 hN3 hcan'
  go_wp2_with ((with_reducible refine a09 2 ?_); refine a05 rfl 80 (.tmp 2) (.tmp 152) rfl w.heap.size Zl rfl rfl (a06.there hR4.out 0 9 (Nat.le_refl 9)) a0t (a0y _ _ _ _ _ _ _ _ _ (a04 _ _ _) (a04 _ _ _)) ?_; intro w9 hr9 hs9)
  have e0 := a01 hr9.out 0 _ rfl
  have e1 := a01 hr9.out 1 _ rfl
  have e2 := a01 hr9.out 2 _ rfl
  have e3 := a01 hr9.out 3 _ rfl
  have e4 := a01 hr9.out 4 _ rfl
  have e5 := a01 hr9.out 5 _ rfl
  have e6 := a01 hr9.out 6 _ rfl
  have e7 := a01 hr9.out 7 _ rfl
  have e8 := a01 hr9.out 8 _ rfl
  refine bodyPost_ret (v := .tuple #[.agg Zl, .int .i64 3]) (by simp [results, Try.results33, go_sem, e0, e1, e2, e3, e4, e5, e6, e7, e8]) rfl ⟨⟨_, by rw [hg'.out], by rw [hg'.out]; exact LsaF.zero _ _⟩, hk4.out.trans' hs9.out (fun i e => .inr (by omega))⟩
 ·skip
  go_wp2_with ((with_reducible refine a0a 139 ?_); refine wpList_load_mid rfl 80 (.tmp 5) rfl B 0 rfl (La' age type lid adv seq Sn 0 Sn 0) _ hB3.out.range Try.underlying80 rfl a0t ?_)
  have hg' : Hid (getL x = (d0v, 3)) := Hi (by rw [hgl.out]; unfold f0s; rw [if_neg (fun h => by rw [hcan'.out] at h; cases h.1)])
  refine (g0i age type seq 0 lid adv 0 [] [] none none 0 0 _ hL3 hlb hrb2 hcan').mono ?_
  rintro e w4 ⟨rfl, k4⟩
  have hR4 := Hi (hR3.out.keep k4 (fun f => f)); have hk4 := Hi (hk3.out.trans k4)
  clear k4 hR3 hk3 hB3 hr3 hL3 hN3 hcan'
  go_wp2_with ((with_reducible refine a09 2 ?_); refine a05 rfl 80 (.tmp 2) (.tmp 152) rfl w.heap.size Zl rfl rfl (a06.there hR4.out 0 9 (Nat.le_refl 9)) a0t (a0y _ _ _ _ _ _ _ _ _ (a04 _ _ _) (a04 _ _ _)) ?_; intro w9 hr9 hs9)
  have e0 := a01 hr9.out 0 _ rfl
  have e1 := a01 hr9.out 1 _ rfl
  have e2 := a01 hr9.out 2 _ rfl
  have e3 := a01 hr9.out 3 _ rfl
  have e4 := a01 hr9.out 4 _ rfl
  have e5 := a01 hr9.out 5 _ rfl
  have e6 := a01 hr9.out 6 _ rfl
  have e7 := a01 hr9.out 7 _ rfl
  have e8 := a01 hr9.out 8 _ rfl
  refine bodyPost_ret (v := .tuple #[.agg Zl, .int .i64 3]) (by simp [results, Try.results33, go_sem, e0, e1, e2, e3, e4, e5, e6, e7, e8]) rfl ⟨⟨_, by rw [hg'.out], by rw [hg'.out]; exact LsaF.zero _ _⟩, hk4.out.trans' hs9.out (fun i e => .inr (by omega))⟩
end Go.Proofs.Ytmggbljkehclpaa
