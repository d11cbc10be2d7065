/- LAI LAD LAG LAL LAM LBA LBB -/
import Derived.Test.YtmggbljkehclpaaG10
import Derived.Test.YtmggbljkehclpaaG14
import Derived.Test.YtmggbljkehclpaaG24
import Derived.Test.YtmggbljkehclpaaG26
import Derived.StillTailTactics
set_option linter.unusedVariables false
set_option linter.unusedSimpArgs false
namespace Go.Proofs.Ytmggbljkehclpaa
open Go.RowKit
theorem c0m : (Try.prog.info? 73).map (·.size) = some 7 := by kernel_rfl
theorem d0a (sl : Value) (l : List UInt8) (n : Nat) (hl : l.length ≤ 4) (w : World) (h : Hid (a0a w sl l)) (hn : Hid (a0d l = n)) :
 Calls Try.prog 32 #[sl] w fun e w' => e = .returned (.int .i64 n) ∧ w' = w :=
 (k0a sl l hl w h).mono fun e w' ⟨he, hw⟩ => ⟨by rw [he, hn.out], hw.symm⟩
set_option maxRecDepth 100000 in
set_option maxHeartbeats 4000000 in
theorem m0x (g o c : Nat) (l : List UInt8) (hl : 20 ≤ l.length) (hl2 : l.length ≤ 9223372036854775807) (hc : l.length ≤ c) (w : World) (hr : Hid (w.rangeAt g o (l.map bv))) :
 Calls Try.prog 34 #[.slice (some ⟨g, o, none⟩) l.length c] w fun e w' => e = .returned (headV (a0h l)) ∧ a02 (fun _ => False) w w' := by
 obtain ⟨H, hQ⟩ : ∃ H, a0h l = H := ⟨_, rfl⟩
 rw [hQ]
 have i2 : (2 : Int) ≤ c := by omega
 have i8 : (8 : Int) ≤ c := by omega
 have i12 : (12 : Int) ≤ c := by omega
 have i16 : (16 : Int) ≤ c := by omega
 have i18 : (18 : Int) ≤ c := by omega
 have i20 : (20 : Int) ≤ c := by omega
 have j4 : ¬ c = 4 := by omega
 have j8 : ¬ c = 8 := by omega
 have j12 : ¬ c = 12 := by omega
 have j16 : ¬ c = 16 := by omega
 have j18 : ¬ c = 18 := by omega
 have i3 : (3 : Int) < l.length := by omega
 have hk0 : Hid (a02 (fun _ => False) w (w.alloc (.cells (Ha 0 0 0 0 0 0 0) 73))) := Hi ((a02.refl _ _).alloc _)
 have hb0 : Hid (World.blockAt (w.alloc (.cells (Ha 0 0 0 0 0 0 0) 73)) w.heap.size 73 7) := Hi ⟨_, heap_alloc_last w _, rfl⟩
 go_enter Try.func34, Try.ntmps34
 go_upto_region 1 with fail
 generalize w.alloc (.cells (Ha 0 0 0 0 0 0 0) 73) = w0 at hk0 hb0 ⊢
 have hr0 := Hi (hk0.out.rangeAt hr.out id)
 have c3 := a0i hr0.out 3 (by omega)
 obtain ⟨n0, hn0⟩ : ∃ n, a0d (sub l 0 2) = n := ⟨_, rfl⟩
 obtain ⟨n4, hn4⟩ : ∃ n, a0d (sub l 4 4) = n := ⟨_, rfl⟩
 obtain ⟨n8, hn8⟩ : ∃ n, a0d (sub l 8 4) = n := ⟨_, rfl⟩
 obtain ⟨n12, hn12⟩ : ∃ n, a0d (sub l 12 4) = n := ⟨_, rfl⟩
 obtain ⟨n16, hn16⟩ : ∃ n, a0d (sub l 16 2) = n := ⟨_, rfl⟩
 obtain ⟨n18, hn18⟩ : ∃ n, a0d (sub l 18 2) = n := ⟨_, rfl⟩
 have b0 := d09 (x := l) (i := 0) (n := 2) (by omega)
 have b4 := d09 (x := l) (i := 4) (n := 4) (by omega)
 have b8 := d09 (x := l) (i := 8) (n := 4) (by omega)
 have b12 := d09 (x := l) (i := 12) (n := 4) (by omega)
 have b16 := d09 (x := l) (i := 16) (n := 2) (by omega)
 have b18 := d09 (x := l) (i := 18) (n := 2) (by omega)
 rw [hn0] at b0; rw [hn4] at b4; rw [hn8] at b8; rw [hn12] at b12; rw [hn16] at b16; rw [hn18] at b18
 simp only [show (256 : Nat) ^ 2 = 65536 from rfl, show (256 : Nat) ^ 4 = 4294967296 from rfl] at b0 b4 b8 b12 b16 b18
 have b3 := (l[3]'(by omega)).toNat_lt
 have hs32 : IntKind.i32.wrap (n12 : Int) = i0m n12 := k04 n12 b12
 have hs1 := n0s n12 b12
 have hs2 := n0t n12 b12
 obtain ⟨q12, hq12⟩ : ∃ q, i0m n12 = q := ⟨_, rfl⟩
 rw [hq12] at hs32 hs1 hs2
 have hfin : a0h l = ⟨n0, ((l[3]'(by omega)).toNat : Int), n4, n8, q12, n16, n18⟩ := by
  unfold a0h
  rw [hn0, hn4, hn8, hn12, hn16, hn18, hq12, List.getD_eq_getElem?_getD, List.getElem?_eq_getElem (by omega)]; rfl
 rw [hfin] at hQ
 have v0 : IntKind.i64.wrap (n0 : Int) = (n0 : Int) := IntWalk.i64_in _ (by omega)
 have v3 : IntKind.i64.wrap ((l[3]'(by omega)).toNat : Int) = ((l[3]'(by omega)).toNat : Int) := IntWalk.i64_in _ (by omega)
 have v12 : IntKind.i64.wrap q12 = q12 := IntWalk.i64_in _ (by omega)
 have v4 : IntKind.u32.wrap (n4 : Int) = (n4 : Int) := by rw [c01]; omega
 have v8 : IntKind.u32.wrap (n8 : Int) = (n8 : Int) := by rw [c01]; omega
 have v16 : IntKind.u16.wrap (n16 : Int) = (n16 : Int) := by rw [g0e]; omega
 have v18 : IntKind.i64.wrap (n18 : Int) = (n18 : Int) := IntWalk.i64_in _ (by omega)
 have hrd := Hi (((a02.refl (fun _ => False) w0).drew).rangeAt hr0.out id)
 have k0 := Hi (a0c hrd.out hc 0 2 (by omega))
 have k4 := Hi (a0c hrd.out hc 4 4 (by omega))
 have k8 := Hi (a0c hrd.out hc 8 4 (by omega))
 have k12 := Hi (a0c hrd.out hc 12 4 (by omega))
 have k16 := Hi (a0c hrd.out hc 16 2 (by omega))
 have k18 := Hi (a0c hrd.out hc 18 2 (by omega))
 rw [Nat.add_zero, Nat.sub_zero] at k0
 have s0 : (sub l 0 2).length ≤ 4 := by rw [a0k (by omega)]; omega
 have s4 : (sub l 4 4).length ≤ 4 := by rw [a0k (by omega)]; omega
 have s8 : (sub l 8 4).length ≤ 4 := by rw [a0k (by omega)]; omega
 have s12 : (sub l 12 4).length ≤ 4 := by rw [a0k (by omega)]; omega
 have s16 : (sub l 16 2).length ≤ 4 := by rw [a0k (by omega)]; omega
 have s18 : (sub l 18 2).length ≤ 4 := by rw [a0k (by omega)]; omega
 have hn0' := Hi hn0; have hn4' := Hi hn4; have hn8' := Hi hn8; have hn12' := Hi hn12; have hn16' := Hi hn16; have hn18' := Hi hn18
 clear hn0 hn4 hn8 hn12 hn16 hn18 hfin hq12
 refine wp_region_still_tail 29 (by kernel_rfl) (by kernel_rfl) ?_
 simp only [List.take_succ_cons, List.take_zero, List.drop_succ_cons, List.drop_zero]
 repeat still_step
 still_call (d0a _ _ n0 s0 _ k0 hn0')
 repeat still_step
 still_call (d0a _ _ n4 s4 _ k4 hn4')
 repeat still_step
 still_call (d0a _ _ n8 s8 _ k8 hn8')
 repeat still_step
 still_call (d0a _ _ n12 s12 _ k12 hn12')
 repeat still_step
 still_call (d0a _ _ n16 s16 _ k16 hn16')
 repeat still_step
 still_call (d0a _ _ n18 s18 _ k18 hn18')
 repeat still_step
 refine wpStill_nil ?_
 change wpList _ _ _ _ _ w0.drew
 clear v4 v8 v0 v3 v12 v16 v18 j4 j8 j12 j16 j18 hs32 i2 i8 i12 i16 i18 i20 i3 k0 k4 k8 k12 k16 k18 c3
 have hth := Hi (hb0.out.keep ((a02.refl (fun _ => False) _).drew) id)
 refine (wpList_store_mid rfl 73 (.tmp 2) (.tmp 31) rfl w.heap.size 0 (Ha n0 (((l[3]'(by omega)).toNat : Nat)) n4 n8 q12 n16 n18) rfl rfl (hth.out.there 0 7 (by omega)) c0m (b0i _ _ _ _ _ _ _) ?_)
 have hk9 : Hid (a02 (fun _ => False) w (w0.drew.setCells w.heap.size 0 (Ha' n0 (((l[3]'(by omega)).toNat : Nat)) n4 n8 q12 n16 n18))) := Hi (a02.setCells (.inr (Nat.le_refl _)) _ _ _ hk0.out.drew)
 have hr9 : Hid ((w0.drew.setCells w.heap.size 0 (Ha' n0 (((l[3]'(by omega)).toNat : Nat)) n4 n8 q12 n16 n18)).rangeAt w.heap.size 0 (Ha' n0 (((l[3]'(by omega)).toNat : Nat)) n4 n8 q12 n16 n18)) := Hi (World.rangeAt_setCells_same _ _ _ _ (hth.out.there 0 7 (by omega)))
 change wpList _ _ _ _ _ (w0.drew.setCells w.heap.size 0 (Ha' n0 (((l[3]'(by omega)).toNat : Nat)) n4 n8 q12 n16 n18))
 generalize w0.drew.setCells w.heap.size 0 (Ha' n0 (((l[3]'(by omega)).toNat : Nat)) n4 n8 q12 n16 n18) = w9 at hk9 hr9 ⊢
 go_wp2_with fail
 have e0 := a01 hr9.out 0 _ rfl
 have e1 := a01 hr9.out 1 _ rfl
 have e2 := a01 hr9.out 2 _ rfl
 have e3 := a01 hr9.out 3 _ rfl
 have e4 := a01 hr9.out 4 _ rfl
 have e5 := a01 hr9.out 5 _ rfl
 have e6 := a01 hr9.out 6 _ rfl
 refine bodyPost_ret (v := .agg (Ha n0 (((l[3]'(by omega)).toNat : Nat)) n4 n8 q12 n16 n18)) (by simp [results, Try.results34, go_sem, e0, e1, e2, e3, e4, e5, e6]) rfl ⟨?_, hk9.out⟩
 rw [← hQ]; rfl
def j04 (l : LsaD) : List UInt8 :=
 let r := [2, UInt8.ofNat (lo8 l.type)] ++ (be 4 l.id ++ (be 4 l.adv ++ (be 4 (lo64 l.seq) ++ (be 2 0 ++ (be 2 (lo64 (20 + ((d04 l).length : Int))) ++ d04 l)))))
 (r.set 14 (UInt8.ofNat (flX (zed r 14) r.length 14))).set 15 (UInt8.ofNat (flY (zed r 14) r.length 14))
theorem j06 (l : LsaD) : putB l = be 2 (lo64 l.age) ++ j04 l := by
 unfold putB j04
 have hs : h03 l = be 2 (lo64 l.age) ++ ([2, UInt8.ofNat (lo8 l.type)] ++ (be 4 l.id ++ (be 4 l.adv ++ (be 4 (lo64 l.seq) ++ (be 2 0 ++ (be 2 (lo64 (20 + ((d04 l).length : Int))) ++ d04 l)))))) := by
  unfold h03 e09; simp only [List.append_assoc]
 obtain ⟨r, hr⟩ : ∃ r, [2, UInt8.ofNat (lo8 l.type)] ++ (be 4 l.id ++ (be 4 l.adv ++ (be 4 (lo64 l.seq) ++ (be 2 0 ++ (be 2 (lo64 (20 + ((d04 l).length : Int))) ++ d04 l))))) = r := ⟨_, rfl⟩
 rw [hr] at hs ⊢
 have hd : (h03 l).drop 2 = r := by rw [hs, List.drop_append_of_le_length (by rw [a0b]; omega), List.drop_of_length_le (by rw [a0b]; omega), List.nil_append]
 have hl : (h03 l).length - 2 = r.length := by rw [hs, List.length_append, a0b]; omega
 rw [hd, hl, hs]
 rw [List.set_append_right _ _ (by rw [a0b]; omega), a0b, List.set_append_right _ _ (by rw [a0b]; omega), a0b]
theorem p0x (l : LsaD) : (putB l).drop 2 = j04 l := by
 rw [j06, List.drop_append_of_le_length (by rw [a0b]; omega), List.drop_of_length_le (by rw [a0b]; omega), List.nil_append]
def headR (r : List UInt8) (a : Int) : c0i := ⟨a, ((r.getD 1 0).toNat : Int), a0d (sub r 2 4), a0d (sub r 6 4), i0m (a0d (sub r 10 4)), a0d (sub r 14 2), (a0d (sub r 16 2) : Nat)⟩
theorem p05 (l : LsaD) : a0h (putB l) = headR (j04 l) ((lo64 l.age % 65536 : Nat) : Int) := by
 have ha : a0d (sub (putB l) 0 2) = lo64 l.age % 65536 := by
  rw [j06]
  have : sub (be 2 (lo64 l.age) ++ j04 l) 0 2 = be 2 (lo64 l.age) := by
   unfold sub; rw [List.drop_zero, List.take_append_of_le_length (by rw [a0b]; omega), List.take_of_length_le (by rw [a0b]; omega)]
  rw [this, l0a]
 unfold a0h
 rw [ha]
 unfold headR
 have hsub : ∀ i n, sub (putB l) (2 + i) n = sub (j04 l) i n := fun i n => by unfold sub; rw [← p0x, List.drop_drop]
 have hget : (putB l).getD 3 0 = (j04 l).getD 1 0 := by rw [j06, be2]; rfl
 rw [hget, hsub 2 4, hsub 6 4, hsub 10 4, hsub 14 2, hsub 16 2]
theorem u64_nata (n : Int) : ∃ U : Nat, IntKind.u64.wrap n = (U : Int) := ⟨lo64 n, by rw [n0q]; unfold lo64; omega⟩
theorem c0q {P : Program} {ops : Array Oper} {S : World → Prop} {op : Oper} {a : Act} (hw : Region.wanted op (yielded ops a.tmps) = true) (ft tt : TypeId) (x : Operand) (ho : op.op = .convert ft tt x) (xv v : Value) (hx : a.eval x = xv)
 (hS : ∀ w, S w → (convert ft tt xv).run P w = .ok v w) : YieldsIf P ops S op v a :=
 .inl ⟨hw, fun w hw' => by
  unfold execOp
  simp only [ho, hx, Sem.run_bind, hS w hw', Result.andThen_ok]; rfl⟩
def rawB (l : LsaD) : List UInt8 := [2, UInt8.ofNat (lo8 l.type)] ++ (be 4 l.id ++ (be 4 l.adv ++ (be 4 (lo64 l.seq) ++ (be 2 0 ++ (be 2 (lo64 (20 + ((d04 l).length : Int))) ++ d04 l)))))
theorem p0p (l : LsaD) : j04 l = ((rawB l).set 14 (UInt8.ofNat (flX (zed (rawB l) 14) (rawB l).length 14))).set 15 (UInt8.ofNat (flY (zed (rawB l) 14) (rawB l).length 14)) := rfl
theorem n0w (n : Nat) (h : n < 255) : (UInt8.ofNat n).toNat = n := by simp; omega
theorem m0t (l : LsaD) : ∃ a b : UInt8, a.toNat < 255 ∧ b.toNat < 255 ∧ j04 l = [2, UInt8.ofNat (lo8 l.type)] ++ (be 4 l.id ++ (be 4 l.adv ++ (be 4 (lo64 l.seq) ++ ([a, b] ++ (be 2 (lo64 (20 + ((d04 l).length : Int))) ++ d04 l))))) := by
 refine ⟨UInt8.ofNat (flX (zed (rawB l) 14) (rawB l).length 14), UInt8.ofNat (flY (zed (rawB l) 14) (rawB l).length 14), by rw [n0w _ (m09 _ _ _)]; exact m09 _ _ _, by rw [n0w _ (o05 _ _ _)]; exact o05 _ _ _, ?_⟩
 rw [p0p]
 generalize UInt8.ofNat (flX (zed (rawB l) 14) (rawB l).length 14) = a
 generalize UInt8.ofNat (flY (zed (rawB l) 14) (rawB l).length 14) = b
 unfold rawB
 simp only [be4, be2, List.cons_append, List.nil_append]
 rfl
theorem sub_app (a b : List UInt8) (i n : Nat) (h : a.length = i) : sub (a ++ b) i n = b.take n := by
 subst h; unfold sub; rw [List.drop_append_of_le_length (Nat.le_refl _), List.drop_length, List.nil_append]
theorem take_be (k n : Nat) (r : List UInt8) : (be k n ++ r).take k = be k n := by
 rw [List.take_append_of_le_length (by rw [a0b]; omega), List.take_of_length_le (by rw [a0b]; omega)]
theorem head_len (l : LsaD) (h1 : l.links.length ≤ 40) (h2 : l.routers.length ≤ 40) (q : Int) : (headR (j04 l) q).len = 20 + ((d04 l).length : Int) := by
 obtain ⟨a, b, -, -, hr⟩ := m0t l
 have htl := f0r h1 h2
 show ((a0d (sub (j04 l) 16 2) : Nat) : Int) = _
 rw [hr, show [2, UInt8.ofNat (lo8 l.type)] ++ (be 4 l.id ++ (be 4 l.adv ++ (be 4 (lo64 l.seq) ++ ([a, b] ++ (be 2 (lo64 (20 + ((d04 l).length : Int))) ++ d04 l))))) = ([2, UInt8.ofNat (lo8 l.type)] ++ be 4 l.id ++ be 4 l.adv ++ be 4 (lo64 l.seq) ++ [a, b]) ++ (be 2 (lo64 (20 + ((d04 l).length : Int))) ++ d04 l) from by simp only [List.append_assoc],
  sub_app _ _ 16 2 (by simp [a0b]), take_be, l0a]
 unfold lo64; omega
def b0x (h : c0i) (x : List UInt8) : LsaD :=
 if h.type = 1 then ⟨h.age, h.type, h.id, h.adv, h.seq, d0e (x.drop 4) ((x.length - 4) / 12), 0, [], 0⟩
 else if h.type = 2 then ⟨h.age, h.type, h.id, h.adv, h.seq, [], a0d (sub x 0 4), c09 (x.drop 4) ((x.length - 4) / 4), 0⟩
 else if h.type = 3 then ⟨h.age, h.type, h.id, h.adv, h.seq, [], a0d (sub x 0 4), [], (a0d (sub x 4 4) : Nat)⟩
 else ⟨h.age, h.type, h.id, h.adv, h.seq, [], 0, [], 0⟩
def shortX (h : c0i) (x : List UInt8) : Prop := (h.type = 1 ∧ x.length < 4) ∨ (h.type = 2 ∧ x.length < 4) ∨ (h.type = 3 ∧ x.length < 8)
theorem m0b (h : c0i) (x : List UInt8) : (b0x h x).type = h.type := by
 unfold b0x; split
 ·rfl
 ·split
  ·rfl
  ·split <;> rfl
theorem k0g (h : c0i) (x : List UInt8) : (h01 h x).type = h.type := by
 unfold h01 c0p; split
 ·rfl
 ·split
  ·rfl
  ·split
   ·rfl
   ·split <;> rfl
theorem i0l (h : c0i) (x : List UInt8) (h4 : h.type = 1 ∨ h.type = 2 → 4 ≤ x.length) (h8 : h.type = 3 → x.length = 8) : b0x h x = h01 h x := by
 unfold b0x h01 c0p
 by_cases t1 : h.type = 1
 ·have := h4 (.inl t1)
  rw [if_pos t1, if_neg (by omega), if_pos t1]
 ·by_cases t2 : h.type = 2
  ·have := h4 (.inr t2)
   rw [if_neg t1, if_pos t2, if_neg (by omega), if_neg t1, if_pos t2]
  ·by_cases t3 : h.type = 3
   ·have hx := h8 t3
    have hs : sub x 4 4 = x.drop 4 := by unfold sub; rw [List.take_of_length_le (by rw [List.length_drop]; omega)]
    have hb : a0d (x.drop 4) < 4294967296 := by
     have := f0i (x.drop 4)
     have e : (x.drop 4).length = 4 := by rw [List.length_drop]; omega
     rw [e] at this
     exact this
    rw [if_neg t1, if_neg t2, if_pos t3, if_neg (by omega), if_neg t1, if_neg t2, if_pos t3, hs, Nat.mod_eq_of_lt hb]
   ·rw [if_neg t1, if_neg t2, if_neg t3]
    by_cases hx : x.length < 4
    ·rw [if_pos hx]
    ·rw [if_neg hx, if_neg t1, if_neg t2, if_neg t3]
theorem tell3 (l : LsaD) (h : l.type = 3) : (d04 l).length = 8 := by
 unfold d04
 rw [if_neg (by omega), if_neg (by omega), List.length_append, a0b, a0b]
def f07 (r : LsaD) (x : List UInt8) : LsaD × Int := if canB r = true ∧ putB r = x then (r, 0) else (d0d, 3)
theorem i08 (x : List UInt8) (hx : ¬ x.length < 20) (hs : ¬ (b0h (x.drop 2) = false ∨ x.getD 16 0 = 255 ∨ x.getD 17 0 = 255)) (h : shortX (a0h x) (x.drop 20)) : getL x = (d0d, 3) := by
 unfold getL
 rw [if_neg hx, if_neg hs]
 by_cases hl : (a0h x).len ≠ (x.length : Int)
 ·rw [if_pos hl]
 ·rw [if_neg hl, if_neg]
  rintro ⟨hc, hp⟩
  have h1 := e0o hc
  have h2 := f0r h1.1 h1.2
  have h3 := f0f (h01 (a0h x) (x.drop 20))
  rw [hp] at h3
  have h4 : (x.drop 20).length = x.length - 20 := List.length_drop
  rcases h with ⟨_, h5⟩ | ⟨_, h5⟩ | ⟨t, h5⟩
  ·omega
  ·omega
  ·have := tell3 (h01 (a0h x) (x.drop 20)) (by rw [k0g]; exact t)
   omega
theorem h0r (x : List UInt8) (hx : ¬ x.length < 20) (hs : ¬ (b0h (x.drop 2) = false ∨ x.getD 16 0 = 255 ∨ x.getD 17 0 = 255)) (h : ¬ shortX (a0h x) (x.drop 20)) : getL x = f07 (b0x (a0h x) (x.drop 20)) x := by
 have hb : (x.drop 20).length = x.length - 20 := List.length_drop
 have h4 : (a0h x).type = 1 ∨ (a0h x).type = 2 → 4 ≤ (x.drop 20).length := by
  intro t
  by_cases h5 : (x.drop 20).length < 4
  ·exact absurd (t.elim (fun t => .inl ⟨t, h5⟩) (fun t => .inr (.inl ⟨t, h5⟩))) h
  ·omega
 unfold getL
 rw [if_neg hx, if_neg hs]
 by_cases hq : canB (b0x (a0h x) (x.drop 20)) = true ∧ putB (b0x (a0h x) (x.drop 20)) = x
 ·have h1 := e0o hq.1
  have h3 := f0f (b0x (a0h x) (x.drop 20))
  rw [hq.2] at h3
  have h8 : (a0h x).type = 3 → (x.drop 20).length = 8 := by
   intro t
   have := tell3 (b0x (a0h x) (x.drop 20)) (by rw [m0b]; exact t)
   omega
  have hlen : (a0h x).len = (x.length : Int) := by
   have e := p05 (b0x (a0h x) (x.drop 20))
   have e2 := head_len (b0x (a0h x) (x.drop 20)) h1.1 h1.2 ((lo64 (b0x (a0h x) (x.drop 20)).age % 65536 : Nat) : Int)
   rw [hq.2] at e
   rw [← e] at e2
   rw [e2]; omega
  have hsame := i0l (a0h x) (x.drop 20) h4 h8
  unfold f07
  rw [if_neg (by rw [hlen]; exact fun e => e rfl), if_pos hq, ← hsame, if_pos hq]
 ·unfold f07
  rw [if_neg hq]
  by_cases hl : (a0h x).len ≠ (x.length : Int)
  ·rw [if_pos hl]
  ·rw [if_neg hl, if_neg]
   intro hq2
   have h3 := f0f (h01 (a0h x) (x.drop 20))
   rw [hq2.2] at h3
   have h8 : (a0h x).type = 3 → (x.drop 20).length = 8 := by
    intro t
    have := tell3 (h01 (a0h x) (x.drop 20)) (by rw [k0g]; exact t)
    omega
   rw [← i0l (a0h x) (x.drop 20) h4 h8] at hq2
   exact hq hq2
theorem c0w (sl : Value) (l : List UInt8) (r : Bool) (hl : l.length ≤ 9223372036854775807) (w : World) (h : Hid (a0a w sl l)) (hr : Hid (b0h l = r)) :
 Calls Try.prog 59 #[sl] w fun e w' => e = .returned (.bool r) ∧ w = w' := by rw [← hr.out]; exact m0u sl l hl w h
theorem d0x (g o c : Nat) (l : List UInt8) (hl : 20 ≤ l.length) (hl2 : l.length ≤ 9223372036854775807) (hc : l.length ≤ c) (age type seq len : Int) (lid adv sum : Nat) (w : World) (hr : Hid (w.rangeAt g o (l.map bv))) (hh : Hid (a0h l = ⟨age, type, lid, adv, seq, sum, len⟩)) :
 Calls Try.prog 34 #[.slice (some ⟨g, o, none⟩) l.length c] w fun e w' => e = .returned (.agg (Ha age type lid adv seq sum len)) ∧ a02 (fun _ => False) w w' := by
 have := m0x g o c l hl hl2 hc w hr
 rw [hh.out] at this
 exact this
set_option maxRecDepth 100000 in
set_option maxHeartbeats 4000000 in
theorem l0t (p : Option Addr) (c : Nat) (x : List UInt8) (hx : x.length < 20) (w : World) :
 Calls Try.prog 33 #[.slice p x.length c] w (c05 x w) := by
 have hg : getL x = (d0d, 4) := by unfold getL; rw [if_pos hx]
 have hg' := Hi hg; clear hg
 have hR : Hid (a06 (w.alloc (.cells Zl 80)) w.heap.size 80 Zm) := Hi (a06.new w _ _)
 have hk : Hid (a02 (fun _ => False) w (w.alloc (.cells Zl 80))) := Hi ((a02.refl _ _).alloc _)
 go_enter Try.func33, Try.ntmps33
 go_upto_region 1 with fail
 generalize w.alloc (.cells Zl 80) = w0 at hR hk ⊢
 go_wp2_with ((with_reducible refine a08 2 ?_); refine a05 rfl 80 (.tmp 2) (.tmp 14) rfl w.heap.size Zl rfl rfl (a06.there hR.out 0 9 (Nat.le_refl 9)) a0n (a0z _ _ _ _ _ _ _ _ _ (a03 _ _ _) (a03 _ _ _)) ?_; intro w9 hr9 hs9)
 have e0 := a01 hr9.out 0 _ rfl
 have e1 := a01 hr9.out 1 _ rfl
 have e2 := a01 hr9.out 2 _ rfl
 have e3 := a01 hr9.out 3 _ rfl
 have e4 := a01 hr9.out 4 _ rfl
 have e5 := a01 hr9.out 5 _ rfl
 have e6 := a01 hr9.out 6 _ rfl
 have e7 := a01 hr9.out 7 _ rfl
 have e8 := a01 hr9.out 8 _ rfl
 refine bodyPost_ret (v := .tuple #[.agg Zl, .int .i64 4]) (by simp [results, Try.results33, go_sem, e0, e1, e2, e3, e4, e5, e6, e7, e8]) rfl ⟨⟨_, by rw [hg'.out], by rw [hg'.out]; exact LsaF.zero _ _⟩, hk.out.trans' hs9.out (fun i e => .inr (by omega))⟩
set_option maxRecDepth 100000 in
set_option maxHeartbeats 4000000 in
theorem p0w (g o c : Nat) (x : List UInt8) (hx : 20 ≤ x.length) (hx2 : x.length ≤ 1000000) (hc : x.length ≤ c) (w : World) (hr : Hid (w.rangeAt g o (x.map bv))) (hri : Hid (b0h (x.drop 2) = false)) :
 Calls Try.prog 33 #[.slice (some ⟨g, o, none⟩) x.length c] w (c05 x w) := by
 have hg : getL x = (d0d, 8) := by unfold getL; rw [if_neg (by omega), if_pos (.inl hri.out)]
 have hg' := Hi hg; clear hg
 have hR : Hid (a06 (w.alloc (.cells Zl 80)) w.heap.size 80 Zm) := Hi (a06.new w _ _)
 have hk : Hid (a02 (fun _ => False) w (w.alloc (.cells Zl 80))) := Hi ((a02.refl _ _).alloc _)
 go_enter Try.func33, Try.ntmps33
 go_upto_region 1 with fail
 generalize w.alloc (.cells Zl 80) = w0 at hR hk ⊢
 have hr0 := Hi (hk.out.rangeAt hr.out id)
 have hb0 := Hi (a0w hr0.out hc 2 (by omega))
 rw [if_neg (by omega)] at hb0
 go_wp2_with fail
 refine (c0w _ (x.drop 2) false (by simp; omega) _ hb0 hri).mono ?_
 rintro e w' ⟨rfl, rfl⟩
 go_wp2_with ((with_reducible refine a08 2 ?_); refine a05 rfl 80 (.tmp 2) (.tmp 31) rfl w.heap.size Zl rfl rfl (a06.there hR.out 0 9 (Nat.le_refl 9)) a0n (a0z _ _ _ _ _ _ _ _ _ (a03 _ _ _) (a03 _ _ _)) ?_; intro w9 hr9 hs9)
 have e0 := a01 hr9.out 0 _ rfl
 have e1 := a01 hr9.out 1 _ rfl
 have e2 := a01 hr9.out 2 _ rfl
 have e3 := a01 hr9.out 3 _ rfl
 have e4 := a01 hr9.out 4 _ rfl
 have e5 := a01 hr9.out 5 _ rfl
 have e6 := a01 hr9.out 6 _ rfl
 have e7 := a01 hr9.out 7 _ rfl
 have e8 := a01 hr9.out 8 _ rfl
 refine bodyPost_ret (v := .tuple #[.agg Zl, .int .i64 8]) (by simp [results, Try.results33, go_sem, e0, e1, e2, e3, e4, e5, e6, e7, e8]) rfl ⟨⟨_, by rw [hg'.out], by rw [hg'.out]; exact LsaF.zero _ _⟩, hk.out.trans' hs9.out (fun i e => .inr (by omega))⟩
set_option maxRecDepth 100000 in
set_option maxHeartbeats 4000000 in
theorem p0v (g o c : Nat) (x : List UInt8) (hx : 20 ≤ x.length) (hx2 : x.length ≤ 1000000) (hc : x.length ≤ c) (w : World) (hr : Hid (w.rangeAt g o (x.map bv))) (hri : Hid (b0h (x.drop 2) = true)) (h16 : x[16]'(by omega) = 255) :
 Calls Try.prog 33 #[.slice (some ⟨g, o, none⟩) x.length c] w (c05 x w) := by
 have hg : getL x = (d0d, 8) := by unfold getL; rw [if_neg (by omega), if_pos (.inr (.inl (by rw [List.getD_eq_getElem?_getD, List.getElem?_eq_getElem (by omega)]; exact h16)))]
 have hg' := Hi hg; clear hg
 have hR : Hid (a06 (w.alloc (.cells Zl 80)) w.heap.size 80 Zm) := Hi (a06.new w _ _)
 have hk : Hid (a02 (fun _ => False) w (w.alloc (.cells Zl 80))) := Hi ((a02.refl _ _).alloc _)
 go_enter Try.func33, Try.ntmps33
 go_upto_region 1 with fail
 generalize w.alloc (.cells Zl 80) = w0 at hR hk ⊢
 have hr0 := Hi (hk.out.rangeAt hr.out id)
 have hb0 := Hi (a0w hr0.out hc 2 (by omega))
 rw [if_neg (by omega)] at hb0
 have c16 := a0i hr0.out 16 (by omega)
 have e16 : (((x[16]'(by omega)).toNat : Int) == 255) = true := by rw [h16]; rfl
 have h16' := Hi h16; clear h16
 go_wp2_with fail
 refine (c0w _ (x.drop 2) true (by simp; omega) _ hb0 hri).mono ?_
 rintro e w' ⟨rfl, rfl⟩
 go_wp2_with ((with_reducible refine a08 2 ?_); refine a05 rfl 80 (.tmp 2) (.tmp 31) rfl w.heap.size Zl rfl rfl (a06.there hR.out 0 9 (Nat.le_refl 9)) a0n (a0z _ _ _ _ _ _ _ _ _ (a03 _ _ _) (a03 _ _ _)) ?_; intro w9 hr9 hs9)
 have e0 := a01 hr9.out 0 _ rfl
 have e1 := a01 hr9.out 1 _ rfl
 have e2 := a01 hr9.out 2 _ rfl
 have e3 := a01 hr9.out 3 _ rfl
 have e4 := a01 hr9.out 4 _ rfl
 have e5 := a01 hr9.out 5 _ rfl
 have e6 := a01 hr9.out 6 _ rfl
 have e7 := a01 hr9.out 7 _ rfl
 have e8 := a01 hr9.out 8 _ rfl
 refine bodyPost_ret (v := .tuple #[.agg Zl, .int .i64 8]) (by simp [results, Try.results33, go_sem, e0, e1, e2, e3, e4, e5, e6, e7, e8]) rfl ⟨⟨_, by rw [hg'.out], by rw [hg'.out]; exact LsaF.zero _ _⟩, hk.out.trans' hs9.out (fun i e => .inr (by omega))⟩
set_option maxRecDepth 100000 in
set_option maxHeartbeats 4000000 in
theorem p0u (g o c : Nat) (x : List UInt8) (hx : 20 ≤ x.length) (hx2 : x.length ≤ 1000000) (hc : x.length ≤ c) (w : World) (hr : Hid (w.rangeAt g o (x.map bv))) (hri : Hid (b0h (x.drop 2) = true)) (h16 : x[16]'(by omega) ≠ 255) (h17 : x[17]'(by omega) = 255) :
 Calls Try.prog 33 #[.slice (some ⟨g, o, none⟩) x.length c] w (c05 x w) := by
 have hg : getL x = (d0d, 8) := by unfold getL; rw [if_neg (by omega), if_pos (.inr (.inr (by rw [List.getD_eq_getElem?_getD, List.getElem?_eq_getElem (by omega)]; exact h17)))]
 have hg' := Hi hg; clear hg
 have hR : Hid (a06 (w.alloc (.cells Zl 80)) w.heap.size 80 Zm) := Hi (a06.new w _ _)
 have hk : Hid (a02 (fun _ => False) w (w.alloc (.cells Zl 80))) := Hi ((a02.refl _ _).alloc _)
 go_enter Try.func33, Try.ntmps33
 go_upto_region 1 with fail
 generalize w.alloc (.cells Zl 80) = w0 at hR hk ⊢
 have hr0 := Hi (hk.out.rangeAt hr.out id)
 have hb0 := Hi (a0w hr0.out hc 2 (by omega))
 rw [if_neg (by omega)] at hb0
 have c16 := a0i hr0.out 16 (by omega)
 have c17 := a0i hr0.out 17 (by omega)
 have e16 : (((x[16]'(by omega)).toNat : Int) == 255) = false := by rw [beq_eq_false_iff_ne]; intro e; exact h16 (UInt8.toNat_inj.1 (by have : ((x[16]'(by omega)).toNat : Int) = 255 := e; have h5 : (255 : UInt8).toNat = 255 := rfl; omega))
 have h16' := Hi h16; clear h16
 have e17 : (((x[17]'(by omega)).toNat : Int) == 255) = true := by rw [h17]; rfl
 have h17' := Hi h17; clear h17
 go_wp2_with fail
 refine (c0w _ (x.drop 2) true (by simp; omega) _ hb0 hri).mono ?_
 rintro e w' ⟨rfl, rfl⟩
 go_wp2_with ((with_reducible refine a08 2 ?_); refine a05 rfl 80 (.tmp 2) (.tmp 31) rfl w.heap.size Zl rfl rfl (a06.there hR.out 0 9 (Nat.le_refl 9)) a0n (a0z _ _ _ _ _ _ _ _ _ (a03 _ _ _) (a03 _ _ _)) ?_; intro w9 hr9 hs9)
 have e0 := a01 hr9.out 0 _ rfl
 have e1 := a01 hr9.out 1 _ rfl
 have e2 := a01 hr9.out 2 _ rfl
 have e3 := a01 hr9.out 3 _ rfl
 have e4 := a01 hr9.out 4 _ rfl
 have e5 := a01 hr9.out 5 _ rfl
 have e6 := a01 hr9.out 6 _ rfl
 have e7 := a01 hr9.out 7 _ rfl
 have e8 := a01 hr9.out 8 _ rfl
 refine bodyPost_ret (v := .tuple #[.agg Zl, .int .i64 8]) (by simp [results, Try.results33, go_sem, e0, e1, e2, e3, e4, e5, e6, e7, e8]) rfl ⟨⟨_, by rw [hg'.out], by rw [hg'.out]; exact LsaF.zero _ _⟩, hk.out.trans' hs9.out (fun i e => .inr (by omega))⟩
set_option maxRecDepth 100000 in
set_option maxHeartbeats 4000000 in
theorem p0s (g o c : Nat) (x : List UInt8) (hx : 20 ≤ x.length) (hx2 : x.length ≤ 1000000) (hc : x.length ≤ c) (age seq len : Int) (lid adv sum : Nat) (w : World) (hr : Hid (w.rangeAt g o (x.map bv))) (hh : Hid (a0h x = ⟨age, 1, lid, adv, seq, sum, len⟩)) (hri : Hid (b0h (x.drop 2) = true)) (h16 : x[16]'(by omega) ≠ 255) (h17 : x[17]'(by omega) ≠ 255) (hsh : x.length < 24) :
 Calls Try.prog 33 #[.slice (some ⟨g, o, none⟩) x.length c] w (c05 x w) := by
 have hnb : ¬ (b0h (x.drop 2) = false ∨ x.getD 16 0 = 255 ∨ x.getD 17 0 = 255) := by
  rw [List.getD_eq_getElem?_getD, List.getElem?_eq_getElem (by omega), List.getD_eq_getElem?_getD, List.getElem?_eq_getElem (by omega), hri.out]
  rintro (h | h | h)
  ·cases h
  ·exact h16 h
  ·exact h17 h
 have hg : getL x = (d0d, 3) := i08 x (by omega) hnb (.inl ⟨by rw [hh.out], by rw [List.length_drop]; omega⟩)
 clear hnb
 have hg' := Hi hg; clear hg
 have hR : Hid (a06 (w.alloc (.cells Zl 80)) w.heap.size 80 Zm) := Hi (a06.new w _ _)
 have hk : Hid (a02 (fun _ => False) w (w.alloc (.cells Zl 80))) := Hi ((a02.refl _ _).alloc _)
 go_enter Try.func33, Try.ntmps33
 go_upto_region 1 with fail
 generalize w.alloc (.cells Zl 80) = w0 at hR hk ⊢
 have hr0 := Hi (hk.out.rangeAt hr.out id)
 have hb0 := Hi (a0w hr0.out hc 2 (by omega))
 rw [if_neg (by omega)] at hb0
 have c16 := a0i hr0.out 16 (by omega)
 have c17 := a0i hr0.out 17 (by omega)
 have e16 : (((x[16]'(by omega)).toNat : Int) == 255) = false := by rw [beq_eq_false_iff_ne]; intro e; exact h16 (UInt8.toNat_inj.1 (by have : ((x[16]'(by omega)).toNat : Int) = 255 := e; have h5 : (255 : UInt8).toNat = 255 := rfl; omega))
 have h16' := Hi h16; clear h16
 have e17 : (((x[17]'(by omega)).toNat : Int) == 255) = false := by rw [beq_eq_false_iff_ne]; intro e; exact h17 (UInt8.toNat_inj.1 (by have : ((x[17]'(by omega)).toNat : Int) = 255 := e; have h5 : (255 : UInt8).toNat = 255 := rfl; omega))
 have h17' := Hi h17; clear h17
 go_wp2_with fail
 refine (c0w _ (x.drop 2) true (by simp; omega) _ hb0 hri).mono ?_
 rintro e w' ⟨rfl, rfl⟩
 go_wp2_with fail
 refine (d0x g o c x hx (by omega) hc age 1 seq len lid adv sum _ hr0 hh).mono ?_
 rintro e w1 ⟨rfl, k1⟩
 clear c16 c17 e16 e17
 obtain ⟨W1, hW1⟩ : ∃ W1, W1 = w1.alloc (.cells (Ha age 1 lid adv seq sum len) 73) := ⟨_, rfl⟩
 have k1' : a02 (fun _ => False) w0 W1 := by rw [hW1]; exact k1.alloc _
 have hH1 : Hid (a06 W1 w1.heap.size 73 (Ha' age 1 lid adv seq sum len)) := Hi (by rw [hW1]; exact a06.new w1 73 (Ha' age 1 lid adv seq sum len))
 have hR1 := Hi (hR.out.keep k1' (fun f => f)); have hk1 := Hi (hk.out.trans k1'); have hr1 := Hi (k1'.rangeAt hr0.out (fun f => f))
 have hW1' := Hi hW1
 clear hW1 k1 k1' hR hk hr0 hb0
 go_upto_region 6 with ((with_reducible refine a08 4 ?_); refine a07 rfl 73 (.tmp 4) (.tmp 33) rfl _ (Ha age 1 lid adv seq sum len) rfl rfl c0m rfl (b0i _ _ _ _ _ _ _) ?_)
 rw [← hW1'.out]
 clear hW1'
 have b0 := hH1.out.cell 0 (.int .i64 age) rfl
 have b4 := hH1.out.cell 4 (.int .i64 seq) rfl
 obtain ⟨W2, hW2⟩ : ∃ W2, W2 = W1.alloc (.cells (La age 1 lid adv seq Sn 0 Sn 0) 80) := ⟨_, rfl⟩
 have k2' : a02 (fun _ => False) W1 W2 := by rw [hW2]; exact (a02.refl _ _).alloc _
 have hB2 : Hid (a06 W2 W1.heap.size 80 (La' age 1 lid adv seq Sn 0 Sn 0)) := Hi (by rw [hW2]; exact a06.new W1 80 (La' age 1 lid adv seq Sn 0 Sn 0))
 have hH2 := Hi (hH1.out.keep k2' (fun f => f)); have hR2 := Hi (hR1.out.keep k2' (fun f => f)); have hk2 := Hi (hk1.out.trans k2'); have hr2 := Hi (k2'.rangeAt hr1.out (fun f => f))
 have hlt : Hid (w.heap.size < W1.heap.size) := Hi (lt_of_block hR1.out)
 have hW2' := Hi hW2
 clear hW2 k2' hR1 hk1 hr1
 go_upto_region 7 with (first | ((with_reducible refine a09 37 ?_); refine wpList_load_mid rfl 71 (.tmp 36) rfl w1.heap.size 1 rfl _ _ (c02 hH1.out) Try.underlying71 rfl b0d ?_) | ((with_reducible refine a08 5 ?_); refine a07 rfl 80 (.tmp 5) (.tmp 40) rfl _ _ rfl rfl a0n rfl (a0z _ _ _ _ _ _ _ _ _ (a03 _ _ _) (a03 _ _ _)) ?_))
 rw [← hW2'.out]
 clear hW2' b0 b4 hH1
 have b1 := hH2.out.cell 1 (.int .i64 1) rfl
 obtain ⟨B, hB⟩ : ∃ B, B = W1.heap.size := ⟨_, rfl⟩
 rw [← hB] at hB2 hlt ⊢
 obtain ⟨HB, hHB⟩ : ∃ HB, HB = w1.heap.size := ⟨_, rfl⟩
 rw [← hHB] at hH2 b1 ⊢
 clear hB hHB
 go_wp2_with ((with_reducible refine a08 2 ?_); refine a05 rfl 80 (.tmp 2) (.tmp 51) rfl w.heap.size Zl rfl rfl (a06.there hR2.out 0 9 (Nat.le_refl 9)) a0n (a0z _ _ _ _ _ _ _ _ _ (a03 _ _ _) (a03 _ _ _)) ?_; intro w9 hr9 hs9)
 all_goals (
  have e0 := a01 hr9.out 0 _ rfl
  have e1 := a01 hr9.out 1 _ rfl
  have e2 := a01 hr9.out 2 _ rfl
  have e3 := a01 hr9.out 3 _ rfl
  have e4 := a01 hr9.out 4 _ rfl
  have e5 := a01 hr9.out 5 _ rfl
  have e6 := a01 hr9.out 6 _ rfl
  have e7 := a01 hr9.out 7 _ rfl
  have e8 := a01 hr9.out 8 _ rfl
  refine bodyPost_ret (v := .tuple #[.agg Zl, .int .i64 3]) (by simp [results, Try.results33, go_sem, e0, e1, e2, e3, e4, e5, e6, e7, e8]) rfl ⟨⟨_, by rw [hg'.out], by rw [hg'.out]; exact LsaF.zero _ _⟩, hk2.out.trans' hs9.out (fun i e => .inr (by omega))⟩)
set_option maxRecDepth 100000 in
set_option maxHeartbeats 4000000 in
theorem p0r (g o c : Nat) (x : List UInt8) (hx : 20 ≤ x.length) (hx2 : x.length ≤ 1000000) (hc : x.length ≤ c) (age seq len : Int) (lid adv sum : Nat) (w : World) (hr : Hid (w.rangeAt g o (x.map bv))) (hh : Hid (a0h x = ⟨age, 2, lid, adv, seq, sum, len⟩)) (hri : Hid (b0h (x.drop 2) = true)) (h16 : x[16]'(by omega) ≠ 255) (h17 : x[17]'(by omega) ≠ 255) (hsh : x.length < 24) :
 Calls Try.prog 33 #[.slice (some ⟨g, o, none⟩) x.length c] w (c05 x w) := by
 have hnb : ¬ (b0h (x.drop 2) = false ∨ x.getD 16 0 = 255 ∨ x.getD 17 0 = 255) := by
  rw [List.getD_eq_getElem?_getD, List.getElem?_eq_getElem (by omega), List.getD_eq_getElem?_getD, List.getElem?_eq_getElem (by omega), hri.out]
  rintro (h | h | h)
  ·cases h
  ·exact h16 h
  ·exact h17 h
 have hg : getL x = (d0d, 3) := i08 x (by omega) hnb (.inr (.inl ⟨by rw [hh.out], by rw [List.length_drop]; omega⟩))
 clear hnb
 have hg' := Hi hg; clear hg
 have hR : Hid (a06 (w.alloc (.cells Zl 80)) w.heap.size 80 Zm) := Hi (a06.new w _ _)
 have hk : Hid (a02 (fun _ => False) w (w.alloc (.cells Zl 80))) := Hi ((a02.refl _ _).alloc _)
 go_enter Try.func33, Try.ntmps33
 go_upto_region 1 with fail
 generalize w.alloc (.cells Zl 80) = w0 at hR hk ⊢
 have hr0 := Hi (hk.out.rangeAt hr.out id)
 have hb0 := Hi (a0w hr0.out hc 2 (by omega))
 rw [if_neg (by omega)] at hb0
 have c16 := a0i hr0.out 16 (by omega)
 have c17 := a0i hr0.out 17 (by omega)
 have e16 : (((x[16]'(by omega)).toNat : Int) == 255) = false := by rw [beq_eq_false_iff_ne]; intro e; exact h16 (UInt8.toNat_inj.1 (by have : ((x[16]'(by omega)).toNat : Int) = 255 := e; have h5 : (255 : UInt8).toNat = 255 := rfl; omega))
 have h16' := Hi h16; clear h16
 have e17 : (((x[17]'(by omega)).toNat : Int) == 255) = false := by rw [beq_eq_false_iff_ne]; intro e; exact h17 (UInt8.toNat_inj.1 (by have : ((x[17]'(by omega)).toNat : Int) = 255 := e; have h5 : (255 : UInt8).toNat = 255 := rfl; omega))
 have h17' := Hi h17; clear h17
 go_wp2_with fail
 refine (c0w _ (x.drop 2) true (by simp; omega) _ hb0 hri).mono ?_
 rintro e w' ⟨rfl, rfl⟩
 go_wp2_with fail
 refine (d0x g o c x hx (by omega) hc age 2 seq len lid adv sum _ hr0 hh).mono ?_
 rintro e w1 ⟨rfl, k1⟩
 clear c16 c17 e16 e17
 obtain ⟨W1, hW1⟩ : ∃ W1, W1 = w1.alloc (.cells (Ha age 2 lid adv seq sum len) 73) := ⟨_, rfl⟩
 have k1' : a02 (fun _ => False) w0 W1 := by rw [hW1]; exact k1.alloc _
 have hH1 : Hid (a06 W1 w1.heap.size 73 (Ha' age 2 lid adv seq sum len)) := Hi (by rw [hW1]; exact a06.new w1 73 (Ha' age 2 lid adv seq sum len))
 have hR1 := Hi (hR.out.keep k1' (fun f => f)); have hk1 := Hi (hk.out.trans k1'); have hr1 := Hi (k1'.rangeAt hr0.out (fun f => f))
 have hW1' := Hi hW1
 clear hW1 k1 k1' hR hk hr0 hb0
 go_upto_region 6 with ((with_reducible refine a08 4 ?_); refine a07 rfl 73 (.tmp 4) (.tmp 33) rfl _ (Ha age 2 lid adv seq sum len) rfl rfl c0m rfl (b0i _ _ _ _ _ _ _) ?_)
 rw [← hW1'.out]
 clear hW1'
 have b0 := hH1.out.cell 0 (.int .i64 age) rfl
 have b4 := hH1.out.cell 4 (.int .i64 seq) rfl
 obtain ⟨W2, hW2⟩ : ∃ W2, W2 = W1.alloc (.cells (La age 2 lid adv seq Sn 0 Sn 0) 80) := ⟨_, rfl⟩
 have k2' : a02 (fun _ => False) W1 W2 := by rw [hW2]; exact (a02.refl _ _).alloc _
 have hB2 : Hid (a06 W2 W1.heap.size 80 (La' age 2 lid adv seq Sn 0 Sn 0)) := Hi (by rw [hW2]; exact a06.new W1 80 (La' age 2 lid adv seq Sn 0 Sn 0))
 have hH2 := Hi (hH1.out.keep k2' (fun f => f)); have hR2 := Hi (hR1.out.keep k2' (fun f => f)); have hk2 := Hi (hk1.out.trans k2'); have hr2 := Hi (k2'.rangeAt hr1.out (fun f => f))
 have hlt : Hid (w.heap.size < W1.heap.size) := Hi (lt_of_block hR1.out)
 have hW2' := Hi hW2
 clear hW2 k2' hR1 hk1 hr1
 go_upto_region 7 with (first | ((with_reducible refine a09 37 ?_); refine wpList_load_mid rfl 71 (.tmp 36) rfl w1.heap.size 1 rfl _ _ (c02 hH1.out) Try.underlying71 rfl b0d ?_) | ((with_reducible refine a08 5 ?_); refine a07 rfl 80 (.tmp 5) (.tmp 40) rfl _ _ rfl rfl a0n rfl (a0z _ _ _ _ _ _ _ _ _ (a03 _ _ _) (a03 _ _ _)) ?_))
 rw [← hW2'.out]
 clear hW2' b0 b4 hH1
 have b1 := hH2.out.cell 1 (.int .i64 2) rfl
 obtain ⟨B, hB⟩ : ∃ B, B = W1.heap.size := ⟨_, rfl⟩
 rw [← hB] at hB2 hlt ⊢
 obtain ⟨HB, hHB⟩ : ∃ HB, HB = w1.heap.size := ⟨_, rfl⟩
 rw [← hHB] at hH2 b1 ⊢
 clear hB hHB
 go_wp2_with ((with_reducible refine a08 2 ?_); refine a05 rfl 80 (.tmp 2) (.tmp 98) rfl w.heap.size Zl rfl rfl (a06.there hR2.out 0 9 (Nat.le_refl 9)) a0n (a0z _ _ _ _ _ _ _ _ _ (a03 _ _ _) (a03 _ _ _)) ?_; intro w9 hr9 hs9)
 all_goals (
  have e0 := a01 hr9.out 0 _ rfl
  have e1 := a01 hr9.out 1 _ rfl
  have e2 := a01 hr9.out 2 _ rfl
  have e3 := a01 hr9.out 3 _ rfl
  have e4 := a01 hr9.out 4 _ rfl
  have e5 := a01 hr9.out 5 _ rfl
  have e6 := a01 hr9.out 6 _ rfl
  have e7 := a01 hr9.out 7 _ rfl
  have e8 := a01 hr9.out 8 _ rfl
  refine bodyPost_ret (v := .tuple #[.agg Zl, .int .i64 3]) (by simp [results, Try.results33, go_sem, e0, e1, e2, e3, e4, e5, e6, e7, e8]) rfl ⟨⟨_, by rw [hg'.out], by rw [hg'.out]; exact LsaF.zero _ _⟩, hk2.out.trans' hs9.out (fun i e => .inr (by omega))⟩)
set_option maxRecDepth 100000 in
set_option maxHeartbeats 4000000 in
theorem p0q (g o c : Nat) (x : List UInt8) (hx : 20 ≤ x.length) (hx2 : x.length ≤ 1000000) (hc : x.length ≤ c) (age seq len : Int) (lid adv sum : Nat) (w : World) (hr : Hid (w.rangeAt g o (x.map bv))) (hh : Hid (a0h x = ⟨age, 3, lid, adv, seq, sum, len⟩)) (hri : Hid (b0h (x.drop 2) = true)) (h16 : x[16]'(by omega) ≠ 255) (h17 : x[17]'(by omega) ≠ 255) (hsh : x.length < 28) :
 Calls Try.prog 33 #[.slice (some ⟨g, o, none⟩) x.length c] w (c05 x w) := by
 have hnb : ¬ (b0h (x.drop 2) = false ∨ x.getD 16 0 = 255 ∨ x.getD 17 0 = 255) := by
  rw [List.getD_eq_getElem?_getD, List.getElem?_eq_getElem (by omega), List.getD_eq_getElem?_getD, List.getElem?_eq_getElem (by omega), hri.out]
  rintro (h | h | h)
  ·cases h
  ·exact h16 h
  ·exact h17 h
 have hg : getL x = (d0d, 3) := i08 x (by omega) hnb (.inr (.inr ⟨by rw [hh.out], by rw [List.length_drop]; omega⟩))
 clear hnb
 have hg' := Hi hg; clear hg
 have hR : Hid (a06 (w.alloc (.cells Zl 80)) w.heap.size 80 Zm) := Hi (a06.new w _ _)
 have hk : Hid (a02 (fun _ => False) w (w.alloc (.cells Zl 80))) := Hi ((a02.refl _ _).alloc _)
 go_enter Try.func33, Try.ntmps33
 go_upto_region 1 with fail
 generalize w.alloc (.cells Zl 80) = w0 at hR hk ⊢
 have hr0 := Hi (hk.out.rangeAt hr.out id)
 have hb0 := Hi (a0w hr0.out hc 2 (by omega))
 rw [if_neg (by omega)] at hb0
 have c16 := a0i hr0.out 16 (by omega)
 have c17 := a0i hr0.out 17 (by omega)
 have e16 : (((x[16]'(by omega)).toNat : Int) == 255) = false := by rw [beq_eq_false_iff_ne]; intro e; exact h16 (UInt8.toNat_inj.1 (by have : ((x[16]'(by omega)).toNat : Int) = 255 := e; have h5 : (255 : UInt8).toNat = 255 := rfl; omega))
 have h16' := Hi h16; clear h16
 have e17 : (((x[17]'(by omega)).toNat : Int) == 255) = false := by rw [beq_eq_false_iff_ne]; intro e; exact h17 (UInt8.toNat_inj.1 (by have : ((x[17]'(by omega)).toNat : Int) = 255 := e; have h5 : (255 : UInt8).toNat = 255 := rfl; omega))
 have h17' := Hi h17; clear h17
 go_wp2_with fail
 refine (c0w _ (x.drop 2) true (by simp; omega) _ hb0 hri).mono ?_
 rintro e w' ⟨rfl, rfl⟩
 go_wp2_with fail
 refine (d0x g o c x hx (by omega) hc age 3 seq len lid adv sum _ hr0 hh).mono ?_
 rintro e w1 ⟨rfl, k1⟩
 clear c16 c17 e16 e17
 obtain ⟨W1, hW1⟩ : ∃ W1, W1 = w1.alloc (.cells (Ha age 3 lid adv seq sum len) 73) := ⟨_, rfl⟩
 have k1' : a02 (fun _ => False) w0 W1 := by rw [hW1]; exact k1.alloc _
 have hH1 : Hid (a06 W1 w1.heap.size 73 (Ha' age 3 lid adv seq sum len)) := Hi (by rw [hW1]; exact a06.new w1 73 (Ha' age 3 lid adv seq sum len))
 have hR1 := Hi (hR.out.keep k1' (fun f => f)); have hk1 := Hi (hk.out.trans k1'); have hr1 := Hi (k1'.rangeAt hr0.out (fun f => f))
 have hW1' := Hi hW1
 clear hW1 k1 k1' hR hk hr0 hb0
 go_upto_region 6 with ((with_reducible refine a08 4 ?_); refine a07 rfl 73 (.tmp 4) (.tmp 33) rfl _ (Ha age 3 lid adv seq sum len) rfl rfl c0m rfl (b0i _ _ _ _ _ _ _) ?_)
 rw [← hW1'.out]
 clear hW1'
 have b0 := hH1.out.cell 0 (.int .i64 age) rfl
 have b4 := hH1.out.cell 4 (.int .i64 seq) rfl
 obtain ⟨W2, hW2⟩ : ∃ W2, W2 = W1.alloc (.cells (La age 3 lid adv seq Sn 0 Sn 0) 80) := ⟨_, rfl⟩
 have k2' : a02 (fun _ => False) W1 W2 := by rw [hW2]; exact (a02.refl _ _).alloc _
 have hB2 : Hid (a06 W2 W1.heap.size 80 (La' age 3 lid adv seq Sn 0 Sn 0)) := Hi (by rw [hW2]; exact a06.new W1 80 (La' age 3 lid adv seq Sn 0 Sn 0))
 have hH2 := Hi (hH1.out.keep k2' (fun f => f)); have hR2 := Hi (hR1.out.keep k2' (fun f => f)); have hk2 := Hi (hk1.out.trans k2'); have hr2 := Hi (k2'.rangeAt hr1.out (fun f => f))
 have hlt : Hid (w.heap.size < W1.heap.size) := Hi (lt_of_block hR1.out)
 have hW2' := Hi hW2
 clear hW2 k2' hR1 hk1 hr1
 go_upto_region 7 with (first | ((with_reducible refine a09 37 ?_); refine wpList_load_mid rfl 71 (.tmp 36) rfl w1.heap.size 1 rfl _ _ (c02 hH1.out) Try.underlying71 rfl b0d ?_) | ((with_reducible refine a08 5 ?_); refine a07 rfl 80 (.tmp 5) (.tmp 40) rfl _ _ rfl rfl a0n rfl (a0z _ _ _ _ _ _ _ _ _ (a03 _ _ _) (a03 _ _ _)) ?_))
 rw [← hW2'.out]
 clear hW2' b0 b4 hH1
 have b1 := hH2.out.cell 1 (.int .i64 3) rfl
 obtain ⟨B, hB⟩ : ∃ B, B = W1.heap.size := ⟨_, rfl⟩
 rw [← hB] at hB2 hlt ⊢
 obtain ⟨HB, hHB⟩ : ∃ HB, HB = w1.heap.size := ⟨_, rfl⟩
 rw [← hHB] at hH2 b1 ⊢
 clear hB hHB
 go_wp2_with ((with_reducible refine a08 2 ?_); refine a05 rfl 80 (.tmp 2) (.tmp 128) rfl w.heap.size Zl rfl rfl (a06.there hR2.out 0 9 (Nat.le_refl 9)) a0n (a0z _ _ _ _ _ _ _ _ _ (a03 _ _ _) (a03 _ _ _)) ?_; intro w9 hr9 hs9)
 all_goals (
  have e0 := a01 hr9.out 0 _ rfl
  have e1 := a01 hr9.out 1 _ rfl
  have e2 := a01 hr9.out 2 _ rfl
  have e3 := a01 hr9.out 3 _ rfl
  have e4 := a01 hr9.out 4 _ rfl
  have e5 := a01 hr9.out 5 _ rfl
  have e6 := a01 hr9.out 6 _ rfl
  have e7 := a01 hr9.out 7 _ rfl
  have e8 := a01 hr9.out 8 _ rfl
  refine bodyPost_ret (v := .tuple #[.agg Zl, .int .i64 3]) (by simp [results, Try.results33, go_sem, e0, e1, e2, e3, e4, e5, e6, e7, e8]) rfl ⟨⟨_, by rw [hg'.out], by rw [hg'.out]; exact LsaF.zero _ _⟩, hk2.out.trans' hs9.out (fun i e => .inr (by omega))⟩)
theorem a0y (sl : Value) (l : List UInt8) (n : Nat) (hl : l.length ≤ 4) (w : World) (h : Hid (a0a w sl l)) (hn : Hid (a0d l = n)) :
 Calls Try.prog 32 #[sl] w fun e w' => e = .returned (.int .i64 n) ∧ w = w' :=
 (k0a sl l hl w h).mono fun e w' ⟨he, hw⟩ => ⟨by rw [he, hn.out], hw⟩
set_option maxRecDepth 100000 in
set_option maxHeartbeats 4000000 in
theorem r10Get_o (g o c : Nat) (x : List UInt8) (hx : 20 ≤ x.length) (hx2 : x.length ≤ 1000000) (hc : x.length ≤ c) (age type seq len : Int) (lid adv sum : Nat) (w : World) (hr : Hid (w.rangeAt g o (x.map bv))) (hh : Hid (a0h x = ⟨age, type, lid, adv, seq, sum, len⟩)) (hri : Hid (b0h (x.drop 2) = true)) (h16 : x[16]'(by omega) ≠ 255) (h17 : x[17]'(by omega) ≠ 255) (t1 : type ≠ 1) (t2 : type ≠ 2) (t3 : type ≠ 3) :
 Calls Try.prog 33 #[.slice (some ⟨g, o, none⟩) x.length c] w (c05 x w) := by
 have hnb : ¬ (b0h (x.drop 2) = false ∨ x.getD 16 0 = 255 ∨ x.getD 17 0 = 255) := by
  rw [List.getD_eq_getElem?_getD, List.getElem?_eq_getElem (by omega), List.getD_eq_getElem?_getD, List.getElem?_eq_getElem (by omega), hri.out]
  rintro (h | h | h)
  ·cases h
  ·exact h16 h
  ·exact h17 h
 have hgl0 : getL x = f07 (b0x (a0h x) (x.drop 20)) x := h0r x (by omega) hnb (by rintro (⟨h, _⟩ | ⟨h, _⟩ | ⟨h, _⟩) <;> rw [hh.out] at h <;> first | exact t1 h | exact t2 h | exact t3 h)
 clear hnb
 have hd : b0x (a0h x) (x.drop 20) = ⟨age, type, lid, adv, seq, [], 0, [], 0⟩ := by rw [hh.out]; unfold b0x; simp only; rw [if_neg t1, if_neg t2, if_neg t3]
 have hcan' : Hid (canB ⟨age, type, lid, adv, seq, [], 0, [], 0⟩ = false) := Hi (by
  cases hcan : canB ⟨age, type, lid, adv, seq, [], 0, [], 0⟩ with
  | false => rfl
  | true =>
   have := j0p hcan
   unfold k0q at this
   simp only at this
   rw [if_neg t1, if_neg t2, if_neg t3] at this
   cases this)
 rw [hd] at hgl0
 have hgl := Hi hgl0
 have hg : True := trivial
 have n1 : (type == 1) = false := by rw [beq_eq_false_iff_ne]; exact t1
 have n2 : (type == 2) = false := by rw [beq_eq_false_iff_ne]; exact t2
 have n3 : (type == 3) = false := by rw [beq_eq_false_iff_ne]; exact t3
 clear hgl0 hd t1 t2 t3
 have hR : Hid (a06 (w.alloc (.cells Zl 80)) w.heap.size 80 Zm) := Hi (a06.new w _ _)
 have hk : Hid (a02 (fun _ => False) w (w.alloc (.cells Zl 80))) := Hi ((a02.refl _ _).alloc _)
 go_enter Try.func33, Try.ntmps33
 go_upto_region 1 with fail
 generalize w.alloc (.cells Zl 80) = w0 at hR hk ⊢
 have hr0 := Hi (hk.out.rangeAt hr.out id)
 have hb0 := Hi (a0w hr0.out hc 2 (by omega))
 rw [if_neg (by omega)] at hb0
 have c16 := a0i hr0.out 16 (by omega)
 have c17 := a0i hr0.out 17 (by omega)
 have e16 : (((x[16]'(by omega)).toNat : Int) == 255) = false := by rw [beq_eq_false_iff_ne]; intro e; exact h16 (UInt8.toNat_inj.1 (by have : ((x[16]'(by omega)).toNat : Int) = 255 := e; have h5 : (255 : UInt8).toNat = 255 := rfl; omega))
 have h16' := Hi h16; clear h16
 have e17 : (((x[17]'(by omega)).toNat : Int) == 255) = false := by rw [beq_eq_false_iff_ne]; intro e; exact h17 (UInt8.toNat_inj.1 (by have : ((x[17]'(by omega)).toNat : Int) = 255 := e; have h5 : (255 : UInt8).toNat = 255 := rfl; omega))
 have h17' := Hi h17; clear h17
 go_wp2_with fail
 refine (c0w _ (x.drop 2) true (by simp; omega) _ hb0 hri).mono ?_
 rintro e w' ⟨rfl, rfl⟩
 go_wp2_with fail
 refine (d0x g o c x hx (by omega) hc age type seq len lid adv sum _ hr0 hh).mono ?_
 rintro e w1 ⟨rfl, k1⟩
 clear c16 c17 e16 e17
 obtain ⟨W1, hW1⟩ : ∃ W1, W1 = w1.alloc (.cells (Ha age type lid adv seq sum len) 73) := ⟨_, rfl⟩
 have k1' : a02 (fun _ => False) w0 W1 := by rw [hW1]; exact k1.alloc _
 have hH1 : Hid (a06 W1 w1.heap.size 73 (Ha' age type lid adv seq sum len)) := Hi (by rw [hW1]; exact a06.new w1 73 (Ha' age type lid adv seq sum len))
 have hR1 := Hi (hR.out.keep k1' (fun f => f)); have hk1 := Hi (hk.out.trans k1'); have hr1 := Hi (k1'.rangeAt hr0.out (fun f => f))
 have hW1' := Hi hW1
 clear hW1 k1 k1' hR hk hr0 hb0
 go_upto_region 6 with ((with_reducible refine a08 4 ?_); refine a07 rfl 73 (.tmp 4) (.tmp 33) rfl _ (Ha age type lid adv seq sum len) rfl rfl c0m rfl (b0i _ _ _ _ _ _ _) ?_)
 rw [← hW1'.out]
 clear hW1'
 have b0 := hH1.out.cell 0 (.int .i64 age) rfl
 have b4 := hH1.out.cell 4 (.int .i64 seq) rfl
 obtain ⟨W2, hW2⟩ : ∃ W2, W2 = W1.alloc (.cells (La age type lid adv seq Sn 0 Sn 0) 80) := ⟨_, rfl⟩
 have k2' : a02 (fun _ => False) W1 W2 := by rw [hW2]; exact (a02.refl _ _).alloc _
 have hB2 : Hid (a06 W2 W1.heap.size 80 (La' age type lid adv seq Sn 0 Sn 0)) := Hi (by rw [hW2]; exact a06.new W1 80 (La' age type lid adv seq Sn 0 Sn 0))
 have hH2 := Hi (hH1.out.keep k2' (fun f => f)); have hR2 := Hi (hR1.out.keep k2' (fun f => f)); have hk2 := Hi (hk1.out.trans k2'); have hr2 := Hi (k2'.rangeAt hr1.out (fun f => f))
 have hlt : Hid (w.heap.size < W1.heap.size) := Hi (lt_of_block hR1.out)
 have hW2' := Hi hW2
 clear hW2 k2' hR1 hk1 hr1
 go_upto_region 7 with (first | ((with_reducible refine a09 37 ?_); refine wpList_load_mid rfl 71 (.tmp 36) rfl w1.heap.size 1 rfl _ _ (c02 hH1.out) Try.underlying71 rfl b0d ?_) | ((with_reducible refine a08 5 ?_); refine a07 rfl 80 (.tmp 5) (.tmp 40) rfl _ _ rfl rfl a0n rfl (a0z _ _ _ _ _ _ _ _ _ (a03 _ _ _) (a03 _ _ _)) ?_))
 rw [← hW2'.out]
 clear hW2' b0 b4 hH1
 have b1 := hH2.out.cell 1 (.int .i64 type) rfl
 obtain ⟨B, hB⟩ : ∃ B, B = W1.heap.size := ⟨_, rfl⟩
 rw [← hB] at hB2 hlt ⊢
 obtain ⟨HB, hHB⟩ : ∃ HB, HB = w1.heap.size := ⟨_, rfl⟩
 rw [← hHB] at hH2 b1 ⊢
 clear hB hHB
 have hB3 := hB2; have hR3 := hR2; have hk3 := hk2; have hr3 := hr2
 have hL3 : Hid (b02 W2 (.slice none 0 0) []) := Hi (b02.nil _)
 have hN3 : Hid (a0u W2 (.slice none 0 0) []) := Hi (a0u.nil _)
 have hlb : ([] : List b09).length ≤ 9223372036854775807 := by simp
 have hrb2 : ([] : List Nat).length ≤ 9223372036854775807 := by simp
 by_cases hck : c = 20
 ·skip
  go_wp2_with ((with_reducible refine a09 139 ?_); refine wpList_load_mid rfl 80 (.tmp 5) rfl B 0 rfl (La' age type lid adv seq Sn 0 Sn 0) _ hB3.out.range Try.underlying80 rfl a0n ?_)
  have hg' : Hid (getL x = (d0d, 3)) := Hi (by rw [hgl.out]; unfold f07; rw [if_neg (fun h => by rw [hcan'.out] at h; cases h.1)])
  refine (f0v age type seq 0 lid adv 0 [] [] none none 0 0 _ hL3 hlb hrb2 hcan').mono ?_
  rintro e w4 ⟨rfl, k4⟩
  have hR4 := Hi (hR3.out.keep k4 (fun f => f)); have hk4 := Hi (hk3.out.trans k4)
  clear k4 hR3 hk3 hB3 hr3 hL3 hN3 hcan'
  go_wp2_with ((with_reducible refine a08 2 ?_); refine a05 rfl 80 (.tmp 2) (.tmp 152) rfl w.heap.size Zl rfl rfl (a06.there hR4.out 0 9 (Nat.le_refl 9)) a0n (a0z _ _ _ _ _ _ _ _ _ (a03 _ _ _) (a03 _ _ _)) ?_; intro w9 hr9 hs9)
  have e0 := a01 hr9.out 0 _ rfl
  have e1 := a01 hr9.out 1 _ rfl
  have e2 := a01 hr9.out 2 _ rfl
  have e3 := a01 hr9.out 3 _ rfl
  have e4 := a01 hr9.out 4 _ rfl
  have e5 := a01 hr9.out 5 _ rfl
  have e6 := a01 hr9.out 6 _ rfl
  have e7 := a01 hr9.out 7 _ rfl
  have e8 := a01 hr9.out 8 _ rfl
  refine bodyPost_ret (v := .tuple #[.agg Zl, .int .i64 3]) (by simp [results, Try.results33, go_sem, e0, e1, e2, e3, e4, e5, e6, e7, e8]) rfl ⟨⟨_, by rw [hg'.out], by rw [hg'.out]; exact LsaF.zero _ _⟩, hk4.out.trans' hs9.out (fun i e => .inr (by omega))⟩
 ·skip
  go_wp2_with ((with_reducible refine a09 139 ?_); refine wpList_load_mid rfl 80 (.tmp 5) rfl B 0 rfl (La' age type lid adv seq Sn 0 Sn 0) _ hB3.out.range Try.underlying80 rfl a0n ?_)
  have hg' : Hid (getL x = (d0d, 3)) := Hi (by rw [hgl.out]; unfold f07; rw [if_neg (fun h => by rw [hcan'.out] at h; cases h.1)])
  refine (f0v age type seq 0 lid adv 0 [] [] none none 0 0 _ hL3 hlb hrb2 hcan').mono ?_
  rintro e w4 ⟨rfl, k4⟩
  have hR4 := Hi (hR3.out.keep k4 (fun f => f)); have hk4 := Hi (hk3.out.trans k4)
  clear k4 hR3 hk3 hB3 hr3 hL3 hN3 hcan'
  go_wp2_with ((with_reducible refine a08 2 ?_); refine a05 rfl 80 (.tmp 2) (.tmp 152) rfl w.heap.size Zl rfl rfl (a06.there hR4.out 0 9 (Nat.le_refl 9)) a0n (a0z _ _ _ _ _ _ _ _ _ (a03 _ _ _) (a03 _ _ _)) ?_; intro w9 hr9 hs9)
  have e0 := a01 hr9.out 0 _ rfl
  have e1 := a01 hr9.out 1 _ rfl
  have e2 := a01 hr9.out 2 _ rfl
  have e3 := a01 hr9.out 3 _ rfl
  have e4 := a01 hr9.out 4 _ rfl
  have e5 := a01 hr9.out 5 _ rfl
  have e6 := a01 hr9.out 6 _ rfl
  have e7 := a01 hr9.out 7 _ rfl
  have e8 := a01 hr9.out 8 _ rfl
  refine bodyPost_ret (v := .tuple #[.agg Zl, .int .i64 3]) (by simp [results, Try.results33, go_sem, e0, e1, e2, e3, e4, e5, e6, e7, e8]) rfl ⟨⟨_, by rw [hg'.out], by rw [hg'.out]; exact LsaF.zero _ _⟩, hk4.out.trans' hs9.out (fun i e => .inr (by omega))⟩
end Go.Proofs.Ytmggbljkehclpaa
