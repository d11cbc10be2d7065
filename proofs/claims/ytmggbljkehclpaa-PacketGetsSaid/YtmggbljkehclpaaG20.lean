/- PT RH -/
import Derived.Test.YtmggbljkehclpaaG13
import Derived.Test.YtmggbljkehclpaaG19
set_option linter.unusedVariables false
set_option linter.unusedSimpArgs false
namespace Go.Proofs.Ytmggbljkehclpaa
open Go.RowKit
set_option maxRecDepth 100000 in
set_option maxHeartbeats 1000000 in
theorem i03 (n k : Nat) (hn : n < 18446744073709551616) (hk : k ≤ 8) (w : World) :
 Calls Try.prog 25 #[.int .u64 n, .int .i64 k] w (h0x (be k n) w) := by
 obtain ⟨i0, hi0, hz0, hz1, hz2⟩ := info_parts b0g
 have hbl := Hi (a0b k n)
 go_enter Try.func25, Try.ntmps25
 go_wp2
 go_loopw [5, 6] (fun v iv wr => ∃ j : Nat, j ≤ k ∧ iv = .int .i64 ((j : Int) - 1) ∧ Hid (OwnB w wr v ((be k n).take (k - j)) ∧ a02 (fun _ => False) w wr)) (fun _ iv _ => (intOf iv + 1).toNat)
 case atStart => exact ⟨k, by omega, rfl, Hi ⟨by rw [Nat.sub_self]; exact OwnB.nil _ _ (Nat.le_refl _), a02.refl _ _⟩⟩
 case round =>
  obtain ⟨j, hj, rfl, hO⟩ := hrel
  have hlen : ((be k n).take (k - j)).length = k - j := by rw [List.length_take, hbl.out]; omega
  obtain ⟨q, d, hq⟩ := hO.out.1.slice
  rw [hlen] at hq
  subst hq
  cases j with
  | succ j =>
   have hp := pow256 j
   obtain ⟨m, hm⟩ : ∃ m, m = n / 256 ^ j := ⟨_, rfl⟩
   have hdiv : (n : Int) / 2 ^ (8 * j) = (m : Int) := by rw [hp, hm]; exact (Int.natCast_ediv _ _).symm
   have hsh : IntKind.i64.wrap (8 * (j : Int)) = 8 * (j : Int) := IntWalk.i64_in _ (by omega)
   have hsrc : Hid (a0a (wr.alloc (.cells #[.int .u8 ((m : Int) % 256)] 5)) (.slice (some ⟨wr.heap.size, 0, none⟩) 1 1) [UInt8.ofNat m]) := Hi (by
    have := (OwnB.new wr wr (Nat.le_refl _) [UInt8.ofNat m] (n := 1) rfl (by unfold maxLen; omega)).bytes
    rw [List.map_cons, List.map_nil, d0y] at this
    exact this)
   have hO2 := Hi (hO.out.1.keep ((a02.refl (fun _ => False) _).alloc (.cells #[.int .u8 ((m : Int) % 256)] 5)) (fun _ _ f => f))
   have hK2 := Hi (hO.out.2.alloc (.cells #[.int .u8 ((m : Int) % 256)] 5))
   have hbt := Hi (q0o k n j (by omega))
   rw [← hm] at hbt
   have hlen' := Hi hlen
   clear hp hm hlen hO
   go_wp2_with ((with_reducible refine a09 20 ?_); refine a0f rfl (.tmp 13) (.tmp 19) 31 rfl i0 Try.underlying31 hi0 hz0 hz1 hz2 w _ ((be k n).take (k - (j + 1))) rfl hO2.out _ rfl [UInt8.ofNat m] hsrc.out (by rw [hlen'.out]; simp; omega) ?_; intro q2 d2 w2 hO3 hG3)
   refine ⟨⟨j, by omega, rfl, Hi ⟨?_, hK2.out.trans' hG3.out.k (fun i e => .inr (hO2.out.2.1 i e))⟩⟩, by simp [intOf]⟩
   have h3 := hO3.out
   rw [hbt.out] at h3
   simpa using h3
  | zero =>
   have hO' := hO.out
   rw [List.take_of_length_le (by rw [hbl.out]; omega)] at hO'
   have hO2 := Hi hO'
   clear hO hO' hlen
   go_wp2
   go_ret
   exact ⟨q, d, by rw [hbl.out]; rfl, by rw [hbl.out]; exact hO2.out.1, hO2.out.2⟩
theorem p0n (x : List UInt8) (i : Nat) : a0d (sub x i 2) < 65536 := by
 have h1 := f0i (sub x i 2)
 have h2 : (sub x i 2).length ≤ 2 := by unfold sub; simp; omega
 have h3 : 256 ^ (sub x i 2).length ≤ 256 ^ 2 := Nat.pow_le_pow_right (by omega) h2
 omega
theorem p06 (x : List UInt8) : (a0h x).ok := by
 obtain ⟨h1, h2⟩ := h0p x _ rfl
 exact ⟨h1, h2, p0n x 16⟩
theorem k0v (x : List UInt8) (j : Nat) : ∀ h ∈ d0j x j, h.ok := by
 intro h hh
 unfold d0j at hh
 obtain ⟨i, _, rfl⟩ := List.mem_map.1 hh
 exact p06 _
theorem readK_ok (x : List UInt8) (j : Nat) : ∀ h ∈ e08 x j, h.ok := by
 intro h hh
 unfold e08 at hh
 obtain ⟨i, _, rfl⟩ := List.mem_map.1 hh
 exact ⟨b0c x _ 4 (by omega), b0c x _ 4 (by omega)⟩
theorem i0s : m0m d0d := ⟨n05, c0h, (by show (0 : Nat) < 4294967296; omega), (by show (0 : Nat) < 4294967296; omega), (by show (0 : Nat) < 4294967296; omega), (by show (0 : Nat) ≤ 9223372036854775807; omega), (by show (0 : Nat) ≤ 9223372036854775807; omega)⟩
theorem getL_okD (x : List UInt8) (hx : x.length ≤ 1000000) : m0m (getL x).1 := by
 unfold getL
 split
 ·exact i0s
 ·split
  ·exact i0s
  ·split
   ·exact i0s
   ·split
    ·have hp := j0k (a0h x).age (a0h x).type (a0h x).seq (a0h x).id (a0h x).adv (x.drop 20)
     have hl := k0h (a0h x).age (a0h x).type (a0h x).seq (a0h x).id (a0h x).adv (x.drop 20)
     rw [List.length_drop] at hl
     obtain ⟨h1, h2⟩ := h0p x _ rfl
     obtain ⟨q1, q2, q3, q4, q5⟩ := hp
     exact ⟨q5, q4, (by show (c0p _ _ _ _ _ _).id < _; rw [q1]; exact h1), (by show (c0p _ _ _ _ _ _).adv < _; rw [q2]; exact h2), q3, Nat.le_trans hl.1 (by omega), Nat.le_trans hl.2 (by omega)⟩
    ·exact i0s
theorem l0o : ∀ (n : Nat) (x : List UInt8), x.length ≤ 1000000 → ∀ l ∈ (d0m n x).1, m0m l
 | 0, x, _, l, h => by simp [d0m] at h
 | n + 1, x, hx, l, h => by
  rw [d0m] at h
  split at h
  ·simp at h
  ·split at h
   ·simp at h
   ·split at h
    ·simp at h
    ·rcases List.mem_cons.1 h with h | h
     ·rw [h]; exact getL_okD _ (by rw [List.length_take]; omega)
     ·exact l0o n _ (by rw [List.length_drop]; omega) l h
theorem l0p : ∀ (n : Nat) (x : List UInt8), (d0m n x).1.length ≤ n
 | 0, x => by simp [d0m]
 | n + 1, x => by
  rw [d0m]
  split
  ·exact Nat.zero_le _
  ·split
   ·exact Nat.zero_le _
   ·split
    ·exact Nat.zero_le _
    ·have := l0p n (x.drop (a0h x).len.toNat)
     simp only [List.length_cons]; omega
theorem k0c (x : List UInt8) (hx : x.length ≤ 1000000) : (∀ l ∈ (c0t x).1, m0m l) ∧ (c0t x).1.length ≤ 20 := by
 unfold c0t
 split
 ·exact ⟨fun _ h => by simp at h, Nat.zero_le _⟩
 ·rename_i h
  refine ⟨l0o _ _ (by rw [List.length_drop]; omega), ?_⟩
  have := l0p (a0d (sub x 0 4)) (x.drop 4)
  omega
theorem z32 : (0 : Nat) < 4294967296 := by omega
theorem z63 : (0 : Nat) ≤ 9223372036854775807 := by omega
theorem g0g : ∀ h ∈ ([] : List c0i), h.ok := fun _ h => by cases h
theorem g0x : ∀ h ∈ ([] : List KeyD), h.ok := fun _ h => by cases h
theorem g0w : ∀ h ∈ ([] : List LsaD), m0m h := fun _ h => by cases h
theorem hearP_ok (type : Int) (router area : Nat) (auth x : List UInt8) (hr : router < 4294967296) (ha : area < 4294967296) (hx : x.length ≤ 1000000) : (b0p type router area auth x).1.ok := by
 unfold b0p
 split
 ·exact ⟨hr, ha, b0c x _ 4 (by omega), b0c x _ 4 (by omega), b0c x _ 4 (by omega), z32, g0u _ _, g0g, g0x, g0w, (by show (c09 _ _).length ≤ _; rw [c06]; omega), z63, z63, z63⟩
 ·split
  ·exact ⟨hr, ha, z32, z32, z32, b0c x _ 4 (by omega), c0h, k0v _ _, g0x, g0w, z63, (by show (d0j _ _).length ≤ _; rw [c0v]; omega), z63, z63⟩
  ·split
   ·exact ⟨hr, ha, z32, z32, z32, z32, c0h, g0g, readK_ok _ _, g0w, z63, z63, (by show (e08 _ _).length ≤ _; rw [f05]; omega), z63⟩
   ·split
    ·exact ⟨hr, ha, z32, z32, z32, z32, c0h, g0g, g0x, (k0c x hx).1, z63, z63, z63, (by have := (k0c x hx).2; show (c0t x).1.length ≤ _; omega)⟩
    ·split
     ·exact ⟨hr, ha, z32, z32, z32, z32, c0h, k0v _ _, g0x, g0w, z63, (by show (d0j _ _).length ≤ _; rw [c0v]; omega), z63, z63⟩
     ·exact ⟨hr, ha, z32, z32, z32, z32, c0h, g0g, g0x, g0w, z63, z63, z63, z63⟩
theorem h0o (x a : List UInt8) (hx : x.length ≤ 900000) : ∀ P : a0x, P = (b0p ((x.getD 1 0).toNat : Int) (a0d (sub x 4 4)) (a0d (sub x 8 4)) a (x.drop 24)).1 → P.ok := by
 rintro P rfl
 exact hearP_ok _ _ _ _ _ (b0c x _ 4 (by omega)) (b0c x _ 4 (by omega)) (by rw [List.length_drop]; omega)
theorem l08 (A : Act) (ds : List Nat) (f : Nat → Value) (d : Nat) (u : Value) (hd : Nat.blt d A.tmps.size = true) (hc : ds.contains d = false) (hu : A.tmps.getD d undef = u) : (a0r A ds f).eval (.tmp d) = u := by
 rw [o06 A ds f d hd]; unfold tvOf; rw [hc]; exact hu
theorem p09 (xs : Array Value) (w : World) : (callFunc 25 xs).run Try.prog w = .ok (.enter 25 xs) w := ent_fn Try.func25 (by kernel_rfl) rfl xs w
theorem o0i (W : World) (x y : Int) : (Instr.buildSlice 31 2 #[(0, .int .u8 x), (1, .int .u8 y)]).run Try.prog W = .ok (.slice (some ⟨W.heap.size, 0, none⟩) 2 2) (W.alloc (.cells #[.int .u8 x, .int .u8 y] 5)) := by go_simp
theorem o0h (W : World) (x y z u : Int) : (Instr.buildSlice 31 4 #[(0, .int .u8 x), (1, .int .u8 y), (2, .int .u8 z), (3, .int .u8 u)]).run Try.prog W = .ok (.slice (some ⟨W.heap.size, 0, none⟩) 4 4) (W.alloc (.cells #[.int .u8 x, .int .u8 y, .int .u8 z, .int .u8 u] 5)) := by go_simp
section
variable {ops : Array Oper} {Q : Exit → Act → World → Prop} {w0 : World} {pcs : List (Pc × Rs w0)} {A : Act} {ds : List Nat} {ins : List Nat} {r d : Nat} {o : Oper}
theorem f0l {a : Nat} {ts : Array TypeId} {n k : Nat} (ho : o.op = .call { callee := .value (.func 25), args := #[.tmp a, .const (.int .i64 k)], argTypes := ts }) (hd : o.dst = some d) (hm : d ∈ ds)
 (ha : Nat.blt a A.tmps.size = true) (hc : ds.contains a = false) (hu : A.tmps.getD a undef = .int .u64 n) (l : List UInt8) (hl : be k n = l) (cc : Option Nat) (hq : j0x pcs r = some (⟨some r, cc, d⟩, rsB w0 l)) (hn : n < 18446744073709551616) (hk : k ≤ 8) :
 ∀ f W, a02 (fun _ => False) w0 W → hasR pcs A ds ins f W → ∀ K' : Act → World → Prop, Shut (∀ v W', f0z pcs A ds ins r f (updF f d v) W W' → K' ((a0r A ds f).put (some d) v) W') → Oper.wp Try.prog o (a0r A ds f) W K' Q :=
 st_newB (args := [.tmp a, .const (.int .i64 k)]) ho p09 hd hm [.int .u64 n, .int .i64 k] (fun f => by rw [List.map_cons, List.map_cons, List.map_nil, l08 A ds f a _ ha hc hu]; rfl) l cc hq (fun W _ => by rw [← hl]; exact i03 n k hn hk W)
theorem l0h {b : Nat} {t : TypeId} (x y : UInt8) (ht : t = 31) (ho : o.op = .buildSlice t 2 #[(0, .const (bv x)), (1, .tmp b)]) (hd : o.dst = some d) (hm : d ∈ ds)
 (hb : Nat.blt b A.tmps.size = true) (hc : ds.contains b = false) (hu : A.tmps.getD b undef = bv y) (cc : Option Nat) (hq : j0x pcs r = some (⟨some r, cc, d⟩, rsB w0 [x, y])) :
 ∀ f W, a02 (fun _ => False) w0 W → hasR pcs A ds ins f W → ∀ K' : Act → World → Prop, Shut (∀ v W', f0z pcs A ds ins r f (updF f d v) W W' → K' ((a0r A ds f).put (some d) v) W') → Oper.wp Try.prog o (a0r A ds f) W K' Q := by
 subst ht
 refine n0r ho hd hm [x, y] rfl (by omega) cc hq (fun f W => ?_)
 have e := l08 A ds f b _ hb hc hu
 unfold execOp
 simp only [ho, List.map_toArray, List.map_cons, List.map_nil, e]
 have := o0i W x.toNat y.toNat
 simp only [Act.eval, bv, Sem.run_bind, this, Result.andThen_ok]; rfl
theorem l0g {b : Nat} {t : TypeId} (x y z u : UInt8) (ht : t = 31) (ho : o.op = .buildSlice t 4 #[(0, .const (bv x)), (1, .const (bv y)), (2, .const (bv z)), (3, .tmp b)]) (hd : o.dst = some d) (hm : d ∈ ds)
 (hb : Nat.blt b A.tmps.size = true) (hc : ds.contains b = false) (hu : A.tmps.getD b undef = bv u) (cc : Option Nat) (hq : j0x pcs r = some (⟨some r, cc, d⟩, rsB w0 [x, y, z, u])) :
 ∀ f W, a02 (fun _ => False) w0 W → hasR pcs A ds ins f W → ∀ K' : Act → World → Prop, Shut (∀ v W', f0z pcs A ds ins r f (updF f d v) W W' → K' ((a0r A ds f).put (some d) v) W') → Oper.wp Try.prog o (a0r A ds f) W K' Q := by
 subst ht
 refine n0r ho hd hm [x, y, z, u] rfl (by omega) cc hq (fun f W => ?_)
 have e := l08 A ds f b _ hb hc hu
 unfold execOp
 simp only [ho, List.map_toArray, List.map_cons, List.map_nil, e]
 have := o0h W x.toNat y.toNat z.toNat u.toNat
 simp only [Act.eval, bv, Sem.run_bind, this, Result.andThen_ok]; rfl
end
end Go.Proofs.Ytmggbljkehclpaa
