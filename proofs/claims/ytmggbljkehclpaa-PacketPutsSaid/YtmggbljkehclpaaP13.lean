/- PC PD PE PF -/
import Derived.Test.YtmggbljkehclpaaP12
import Derived.Laws.Externs
import Derived.Lib.Bytealg
set_option linter.unusedVariables false
set_option linter.unusedSimpArgs false
namespace Go.Proofs.Ytmggbljkehclpaa
open Go.RowKit
theorem g0k (s : ByteArray) (a : List UInt8) (hs : s.data.toList = a) (w : World) : Calls Try.prog 19 #[.string s] w fun e w' => e = .returned (.int .u16 (d03 a)) ∧ w = w' := by
 have h0 : s.toList.isEmpty = a.isEmpty := by rw [Lib.toList_data, hs]
 clear hs
 cases a with
 | nil =>
  have h : s.toList.isEmpty = true := h0
  clear h0
  go_enter Try.func19, Try.ntmps19
  go_wp2
  go_ret
  exact ⟨rfl, rfl⟩
 | cons b l =>
  have h : s.toList.isEmpty = false := h0
  have hk : Hid (d03 (b :: l) = 1) := Hi rfl
  clear h0
  go_enter Try.func19, Try.ntmps19
  go_wp2
  go_ret
  exact ⟨by rw [hk.out]; rfl, rfl⟩
theorem j0i {P : Program} (w : World) (dT sT ty elem : TypeId) (b o dLen dCap : Nat) (s : ByteArray) (l : List UInt8)
 (hu : P.underlying dT = some (.slice elem)) (hs : (P.info? elem).map (·.size) = some 1) (hl : s.data.toList.take dLen = l) (hth : w.there b o l.length) :
 (Builtin.copy_ #[dT, sT] ty #[.slice (some ⟨b, o, none⟩) dLen dCap, .string s]).run P w = .ok (goInt l.length) (w.setCells b o (l.map bv)) := by
 have hst := run_storeCells_cells (P := P) b o (l.map bv) 0 w (fun j hj => by simpa using (hth j (by simpa using hj)).1) (fun j hj => by simpa using (hth j (by simpa using hj)).2) (p0c l)
 have hsz : s.size = s.data.toList.length := rfl
 have hmin : s.size.min dLen = l.length := by rw [← hl, List.length_take, hsz]; exact Nat.min_comm _ _
 have hcs : List.take l.length (List.map (fun b : UInt8 => Value.int .u8 b.toNat) s.data.toList) = l.map bv := by
  rw [← List.map_take, ← hl]
  congr 1
  rw [List.length_take, List.take_eq_take_iff]; omega
 cases hq : P.info? elem with
 | none => simp [hq] at hs
 | some i =>
  have hst' : Sem.run P (storeCells { block := b, off := o } (l.map bv)) w = .ok () (w.setCells b o (l.map bv)) := by simpa using hst
  simp [Builtin.copy_, run_underlying hu, Builtin.lenOf, Builtin.firstCells, sizeOf, typeInfo, hq, hmin, hcs, hst']
theorem d0l {P : Program} {w : World} {ops : Array Oper} {rest : List Oper} {o : Oper} {a : Act} {Q : Exit → Act → World → Prop} (hgd : o.guard = none) (d s : Operand) (dT sT : TypeId)
 (ho : o.op = .call { callee := .builtin .copy, args := #[d, s], argTypes := #[dT, sT] }) (elem : TypeId) (hu : P.underlying dT = some (.slice elem)) (hsz : (P.info? elem).map (·.size) = some 1)
 (g off dLen dCap : Nat) (st : ByteArray) (hd : a.eval d = .slice (some ⟨g, off, none⟩) dLen dCap) (hs : a.eval s = .string st) (x l : List UInt8) (hl : st.data.toList.take dLen = l)
 (hb : f0w w g x) (hx : off + l.length ≤ x.length)
 (h : ∀ w1, Hid (Laid g off x l w w1) → wpList P ops Q rest (a.put o.dst (goInt l.length)) w1) : wpList P ops Q (o :: rest) a w := by
 refine wpList_plain hgd fun K hK => ?_
 have hrun := j0i (P := P) w dT sT o.type elem g off dLen dCap st l hu hsz hl (hb.there off _ hx)
 have h' := h _ (Hi ⟨hb.sets l off x w hx, a03.setCells (F := fun k => k = g) (.inl rfl) _ _ _ (a03.refl _ _)⟩)
 unfold Oper.wp
 simp [execOp, ho, resolve, invoke, builtin, hd, hs, hrun, Result.andThen]
 exact hK _ _ h'
set_option maxRecDepth 100000 in
theorem h0n (s : ByteArray) (a : List UInt8) (hs : s.data.toList = a) (w : World) : Calls Try.prog 20 #[.string s] w fun e w' => ∃ g, e = .returned (.slice (some ⟨g, 0, none⟩) 8 8) ∧ w.heap.size ≤ g ∧ f0w w' g (key8 a) ∧ a03 (fun _ => False) w w' := by
 obtain ⟨i0, hi0, hz0, hz1, hz2⟩ := info_parts b0v
 have hz2' := Hi hz2; clear hz2
 have ht : Hid (s.data.toList.take 8 = a.take 8) := Hi (by rw [hs])
 have hl8 : Hid ((a.take 8).length ≤ 8) := Hi (by rw [List.length_take]; omega)
 clear hs
 obtain ⟨y, hy⟩ : ∃ y, y = a.take 8 := ⟨_, rfl⟩
 have hk : Hid (key8 a = h0u (e01 8) 0 y) := Hi (by rw [hy]; rfl)
 rw [← hy] at ht hl8
 clear hy
 go_enter Try.func20, Try.ntmps20
 go_wp2_with (first | (at_make; refine wpList_make_full _ rfl (.const (.int .i64 8)) (.const (.int .i64 8)) 31 rfl 0 5 i0 (.int .u8 0) 1 Try.underlying31 hi0 hz0 hz1 .i64 .i64 8 8 8 rfl rfl rfl rfl ?c1 ?c2 ?c3 ?_; rotate_right; intro w1 ho1 hg1; have hB1 := Hi (g0o ho1); clear ho1; have hK1 := Hi (a03.grown (a03.refl (fun _ => False) _) hg1 (fun k e => by cases e)); clear hg1) | ((with_reducible refine a0a 7 ?_); refine d0l rfl (.tmp 5) (.tmp 6) 31 9 rfl 5 Try.underlying31 o0p w.heap.size 0 8 8 _ rfl rfl (e01 8) y ht.out hB1.out (by have := hl8.out; rw [f04]; omega) ?_; intro w2 hL2))
 case c1 => have := hz2'.out; omega
 case c2 => decide
 case c3 => exact Nat.zero_le _
 go_ret
 exact ⟨w.heap.size, rfl, Nat.le_refl _, by rw [hk.out]; exact hL2.out.1, hK1.out.laid hL2.out (Nat.le_refl _)⟩
theorem b0t (n lo hi : Int) (r : Bool) (w : World) (hr : Hid (a0e n lo hi = r)) :
 Calls Try.prog 37 #[.int .i64 n, .int .i64 lo, .int .i64 hi] w fun e w' => e = .returned (.bool r) ∧ w = w' := by
 have h := hr.out
 unfold a0e at h
 by_cases h1 : lo ≤ n
 ·by_cases h2 : n ≤ hi
  ·rw [decide_eq_true ⟨h1, h2⟩] at h
   subst h
   go_enter Try.func37, Try.ntmps37
   go_wp2
   go_ret
   exact ⟨rfl, rfl⟩
  ·rw [decide_eq_false (fun h => h2 h.2)] at h
   subst h
   go_enter Try.func37, Try.ntmps37
   go_wp2
   go_ret
   exact ⟨rfl, rfl⟩
 ·rw [decide_eq_false (fun h => h1 h.1)] at h
  subst h
  go_enter Try.func37, Try.ntmps37
  go_wp2
  go_ret
  exact ⟨rfl, rfl⟩
theorem h0o (k : KeyD) (r : Bool) (w : World) (hr : Hid (b0n k = r)) :
 Calls Try.prog 44 #[.agg #[.int .i64 k.type, .int .u32 k.id, .int .u32 k.adv]] w (fun e w' => e = .returned (.bool r) ∧ a03 (fun _ => False) w w') := by
 have h := hr.out
 unfold b0n at h
 obtain ⟨a, ha⟩ : ∃ a, a0e k.type 0 255 = a := ⟨_, rfl⟩
 rw [ha] at h
 subst h
 have ha' := Hi ha
 clear ha hr
 go_enter Try.func44, Try.ntmps44
 go_wp2_with fail
 refine (b0t _ _ _ a _ ha').mono ?_
 rintro e w' ⟨rfl, rfl⟩
 go_wp2_with fail
 go_ret
 exact ⟨rfl, (a03.refl _ _).alloc _⟩
set_option maxRecDepth 100000 in
set_option maxHeartbeats 1000000 in
theorem k02 (h : c0p) (r : Bool) (w : World) (hr : Hid (b0e h = r)) :
 Calls Try.prog 42 #[.agg (Ha h.age h.type h.id h.adv h.seq h.sum h.len)] w (fun e w' => e = .returned (.bool r) ∧ a03 (fun _ => False) w w') := by
 have hq := hr.out
 unfold b0e at hq
 obtain ⟨a, ha⟩ : ∃ a, a0e h.age 0 65535 = a := ⟨_, rfl⟩
 obtain ⟨b, hb⟩ : ∃ b, a0e h.len 0 65535 = b := ⟨_, rfl⟩
 obtain ⟨c, hc⟩ : ∃ c, a0e h.seq (-2147483648) 2147483647 = c := ⟨_, rfl⟩
 obtain ⟨d, hd⟩ : ∃ d, a0e h.type 0 255 = d := ⟨_, rfl⟩
 rw [ha, hb, hc, hd] at hq
 have ha' := Hi ha; have hb' := Hi hb; have hc' := Hi hc
 have hd' : Hid (b0n ⟨h.type, h.id, h.adv⟩ = !d) := Hi (by unfold b0n; rw [hd])
 have hkey : Hid ((w.alloc (.cells (Ha h.age h.type h.id h.adv h.seq h.sum h.len) 69)).rangeAt w.heap.size 1 [.int .i64 h.type, .int .u32 h.id, .int .u32 h.adv]) := Hi (c0d (a06.new w 69 (Ha' h.age h.type h.id h.adv h.seq h.sum h.len)))
 clear ha hb hc hd hr
 cases a with
 | false =>
  subst hq
  go_enter Try.func42, Try.ntmps42
  go_wp2_with fail
  refine (b0t _ _ _ false _ ha').mono ?_
  rintro e w' ⟨rfl, rfl⟩
  go_wp2_with fail
  go_ret
  exact ⟨rfl, (a03.refl _ _).alloc _⟩
 | true =>
 cases b with
 | false =>
  subst hq
  go_enter Try.func42, Try.ntmps42
  go_wp2_with fail
  refine (b0t _ _ _ true _ ha').mono ?_
  rintro e w' ⟨rfl, rfl⟩
  go_wp2_with fail
  refine (b0t _ _ _ false _ hb').mono ?_
  rintro e w' ⟨rfl, rfl⟩
  go_wp2_with fail
  go_ret
  exact ⟨rfl, (a03.refl _ _).alloc _⟩
 | true =>
 cases c with
 | false =>
  subst hq
  go_enter Try.func42, Try.ntmps42
  go_wp2_with fail
  refine (b0t _ _ _ true _ ha').mono ?_
  rintro e w' ⟨rfl, rfl⟩
  go_wp2_with fail
  refine (b0t _ _ _ true _ hb').mono ?_
  rintro e w' ⟨rfl, rfl⟩
  go_wp2_with fail
  refine (b0t _ _ _ false _ hc').mono ?_
  rintro e w' ⟨rfl, rfl⟩
  go_wp2_with fail
  go_ret
  exact ⟨rfl, (a03.refl _ _).alloc _⟩
 | true =>
  have hq' : (!d) = r := hq
  rw [hq'] at hd'
  clear hq hq'
  go_enter Try.func42, Try.ntmps42
  go_wp2_with fail
  refine (b0t _ _ _ true _ ha').mono ?_
  rintro e w' ⟨rfl, rfl⟩
  go_wp2_with fail
  refine (b0t _ _ _ true _ hb').mono ?_
  rintro e w' ⟨rfl, rfl⟩
  go_wp2_with fail
  refine (b0t _ _ _ true _ hc').mono ?_
  rintro e w' ⟨rfl, rfl⟩
  go_wp2_with ((with_reducible refine a0a 21 ?_); refine b0s (by rfl) 67 (.tmp 20) rfl w.heap.size 1 rfl _ _ hkey.out Try.underlying67 rfl f05 ?_)
  refine (h0o ⟨h.type, h.id, h.adv⟩ r _ hd').mono ?_
  rintro e w2 ⟨rfl, k2⟩
  have k2' := Hi k2; clear k2
  go_wp2_with fail
  go_ret
  exact ⟨rfl, ((a03.refl _ _).alloc _).trans k2'.out⟩
def g06 (ls : List c0p) (k : Nat) : Bool := (ls.drop k).any b0e
theorem m09 (ls : List c0p) (k : Nat) (l : c0p) (h : ls[k]? = some l) : g06 ls k = (b0e l || g06 ls (k + 1)) := by
 obtain ⟨hk, rfl⟩ := List.getElem?_eq_some_iff.1 h
 unfold g06
 rw [List.drop_eq_getElem_cons hk, List.any_cons]
theorem n0i (ls : List c0p) : g06 ls ls.length = false := by unfold g06; simp
set_option maxRecDepth 100000 in
theorem l0n (sl : Value) (ls : List c0p) (hl : ls.length ≤ 9223372036854775807) (z : Bool) (w : World) (h : Hid (a0s 7 b0d w sl ls)) (hz : Hid (ls.any b0e = z)) :
 Calls Try.prog 63 #[sl, .func (.func 42) #[] #[]] w (fun e w' => (∃ r : Int, e = .returned (.int .i64 r) ∧ decide (0 ≤ r) = z) ∧ a03 (fun _ => False) w w') := by
 obtain ⟨p, c, rfl, -, -, hb⟩ := h.out
 have hb' := Hi hb; clear hb h
 go_enter Try.func63, Try.ntmps63
 go_wp2_with fail
 go_loopw [8] (fun iv wr => ∃ k : Nat, k ≤ ls.length ∧ iv = .int .i64 k ∧ Hid (g06 ls k = z) ∧ Hid (a03 (fun _ => False) w wr)) (fun iv _ => ls.length - (intOf iv).toNat)
 case atStart => exact ⟨0, by omega, rfl, Hi hz.out, Hi (a03.refl _ _)⟩
 case round =>
  obtain ⟨k, hk, rfl, hany, hkr⟩ := hrel
  by_cases hlk : k < ls.length
  ·obtain ⟨g, o, rfl, hrows⟩ := hb'.out (by omega)
   obtain ⟨l, hll⟩ : ∃ l, ls[k]? = some l := ⟨_, List.getElem?_eq_getElem hlk⟩
   have hrow : Hid (wr.rangeAt g (o + k * 7) (Ha' l.age l.type l.id l.adv l.seq l.sum l.len)) := Hi (hkr.out.rangeAt (hrows k l hll) id)
   have hst := m09 ls k l hll
   rw [hany.out] at hst
   obtain ⟨x, hx⟩ : ∃ x, b0e l = x := ⟨_, rfl⟩
   rw [hx] at hst
   have hx' := Hi hx; have hst' := Hi hst
   clear hx hst hrows hll hany
   go_wp2_with ((with_reducible refine a0a 15 ?_); refine wpList_load_mid rfl 69 (.tmp 14) rfl g (o + k * 7) rfl _ _ hrow.out Try.underlying69 rfl c04 ?_)
   refine (k02 l x _ hx').mono ?_
   rintro e w2 ⟨rfl, k2⟩
   have k2' := Hi (hkr.out.trans k2); clear k2
   cases x with
   | true =>
    have hz1 : Hid (z = true) := Hi hst'.out
    clear hst'
    go_wp2_with fail
    go_ret
    exact ⟨⟨_, rfl, by rw [hz1.out]; simp⟩, k2'.out⟩
   | false =>
    have hz1 : Hid (g06 ls (k + 1) = z) := Hi hst'.out.symm
    clear hst'
    go_wp2_with fail
    exact ⟨⟨k + 1, by omega, by go_num, hz1, k2'⟩, by simp [intOf]; omega⟩
  ·obtain rfl : k = ls.length := by omega
   have hz1 : Hid (z = false) := Hi (by rw [← hany.out, n0i])
   clear hany
   go_wp2_with fail
   go_ret
   exact ⟨⟨_, rfl, by rw [hz1.out]; rfl⟩, hkr.out⟩
theorem i06 (sl : Value) (ls : List c0p) (hl : ls.length ≤ 9223372036854775807) (z : Bool) (w : World) (h : Hid (a0s 7 b0d w sl ls)) (hz : Hid (ls.any b0e = z)) :
 Calls Try.prog 41 #[sl, .func (.func 42) #[] #[]] w (fun e w' => e = .returned (.bool z) ∧ a03 (fun _ => False) w w') := by
 go_enter Try.func41, Try.ntmps41
 go_wp2_with fail
 refine (l0n sl ls hl z _ h hz).mono ?_
 rintro e w2 ⟨⟨r, rfl, hr⟩, k2⟩
 have hr' := Hi hr; have k2' := Hi k2
 clear hr k2
 go_wp2_with fail
 go_ret
 exact ⟨by rw [← hr'.out]; rfl, k2'.out⟩
def i01 (ls : List KeyD) (k : Nat) : Bool := (ls.drop k).any b0n
theorem n0h (ls : List KeyD) (k : Nat) (l : KeyD) (h : ls[k]? = some l) : i01 ls k = (b0n l || i01 ls (k + 1)) := by
 obtain ⟨hk, rfl⟩ := List.getElem?_eq_some_iff.1 h
 unfold i01
 rw [List.drop_eq_getElem_cons hk, List.any_cons]
theorem o0k (ls : List KeyD) : i01 ls ls.length = false := by unfold i01; simp
set_option maxRecDepth 100000 in
theorem m0i (sl : Value) (ls : List KeyD) (hl : ls.length ≤ 9223372036854775807) (z : Bool) (w : World) (h : Hid (a0s 3 b0m w sl ls)) (hz : Hid (ls.any b0n = z)) :
 Calls Try.prog 64 #[sl, .func (.func 44) #[] #[]] w (fun e w' => (∃ r : Int, e = .returned (.int .i64 r) ∧ decide (0 ≤ r) = z) ∧ a03 (fun _ => False) w w') := by
 obtain ⟨p, c, rfl, -, -, hb⟩ := h.out
 have hb' := Hi hb; clear hb h
 go_enter Try.func64, Try.ntmps64
 go_wp2_with fail
 go_loopw [8] (fun iv wr => ∃ k : Nat, k ≤ ls.length ∧ iv = .int .i64 k ∧ Hid (i01 ls k = z) ∧ Hid (a03 (fun _ => False) w wr)) (fun iv _ => ls.length - (intOf iv).toNat)
 case atStart => exact ⟨0, by omega, rfl, Hi hz.out, Hi (a03.refl _ _)⟩
 case round =>
  obtain ⟨k, hk, rfl, hany, hkr⟩ := hrel
  by_cases hlk : k < ls.length
  ·obtain ⟨g, o, rfl, hrows⟩ := hb'.out (by omega)
   obtain ⟨l, hll⟩ : ∃ l, ls[k]? = some l := ⟨_, List.getElem?_eq_getElem hlk⟩
   have hrow : Hid (wr.rangeAt g (o + k * 3) [.int .i64 l.type, .int .u32 l.id, .int .u32 l.adv]) := Hi (hkr.out.rangeAt (hrows k l hll) id)
   have hst := n0h ls k l hll
   rw [hany.out] at hst
   obtain ⟨x, hx⟩ : ∃ x, b0n l = x := ⟨_, rfl⟩
   rw [hx] at hst
   have hx' := Hi hx; have hst' := Hi hst
   clear hx hst hrows hll hany
   go_wp2_with ((with_reducible refine a0a 15 ?_); refine wpList_load_mid rfl 67 (.tmp 14) rfl g (o + k * 3) rfl _ _ hrow.out Try.underlying67 rfl f05 ?_)
   refine (h0o l x _ hx').mono ?_
   rintro e w2 ⟨rfl, k2⟩
   have k2' := Hi (hkr.out.trans k2); clear k2
   cases x with
   | true =>
    have hz1 : Hid (z = true) := Hi hst'.out
    clear hst'
    go_wp2_with fail
    go_ret
    exact ⟨⟨_, rfl, by rw [hz1.out]; simp⟩, k2'.out⟩
   | false =>
    have hz1 : Hid (i01 ls (k + 1) = z) := Hi hst'.out.symm
    clear hst'
    go_wp2_with fail
    exact ⟨⟨k + 1, by omega, by go_num, hz1, k2'⟩, by simp [intOf]; omega⟩
  ·obtain rfl : k = ls.length := by omega
   have hz1 : Hid (z = false) := Hi (by rw [← hany.out, o0k])
   clear hany
   go_wp2_with fail
   go_ret
   exact ⟨⟨_, rfl, by rw [hz1.out]; rfl⟩, hkr.out⟩
theorem j0a (sl : Value) (ls : List KeyD) (hl : ls.length ≤ 9223372036854775807) (z : Bool) (w : World) (h : Hid (a0s 3 b0m w sl ls)) (hz : Hid (ls.any b0n = z)) :
 Calls Try.prog 43 #[sl, .func (.func 44) #[] #[]] w (fun e w' => e = .returned (.bool z) ∧ a03 (fun _ => False) w w') := by
 go_enter Try.func43, Try.ntmps43
 go_wp2_with fail
 refine (m0i sl ls hl z _ h hz).mono ?_
 rintro e w2 ⟨⟨r, rfl, hr⟩, k2⟩
 have hr' := Hi hr; have k2' := Hi k2
 clear hr k2
 go_wp2_with fail
 go_ret
 exact ⟨by rw [← hr'.out]; rfl, k2'.out⟩
theorem d09.keep {w w1 w2 : World} {v : Value} {p : Option Addr} {n c : Nat} (g : d09 w v p n c w1) (k : a03 (fun _ => False) w1 w2) : d09 w v p n c w2 :=
 ⟨g.k.trans' k (fun _ f => f.elim), g.s⟩
def c0p.ok (h : c0p) : Prop := h.id < 4294967296 ∧ h.adv < 4294967296 ∧ h.sum < 65536
def KeyD.ok (h : KeyD) : Prop := h.id < 4294967296 ∧ h.adv < 4294967296
theorem hXn {w0 W : World} {q : Option Addr} {n d : Nat} {X : List UInt8} (h1 : X.length = n) (h : Hid (OwnB w0 W (.slice q n d) X)) : Hid (OwnB w0 W (.slice q n d) X) := h
theorem c0e {w0 W : World} {q : Option Addr} {d n m N : Nat} {X l Y : List UInt8} (hX : X.length = n) (hl : l.length = m) (hN : n + m = N) (hY : X ++ l = Y) (h : Hid (OwnB w0 W (.slice q (X.length + l.length) d) (X ++ l))) : Hid (OwnB w0 W (.slice q N d) Y) := by
 have := h.out
 rw [hY, hX, hl, hN] at this
 exact Hi this
set_option maxRecDepth 100000 in
set_option maxHeartbeats 4000000 in
theorem h0m (w0 : World) (v : Value) (xs : List UInt8) (sv : Value) (hs : List c0p) (hok : Hid (∀ h ∈ hs, h.ok)) (hx : xs.length + 20 * hs.length ≤ 1000000) (w : World) (h : Hid (OwnB w0 w v xs)) (hn : Hid (g07 w sv hs)) (hsep : Hid (0 < hs.length → ∀ k, sv.ownBlock = some k → v.ownBlock ≠ some k ∧ k < w.heap.size)) :
 Calls Try.prog 46 #[v, sv] w (m0a w0 v xs (c03 hs) w) := by
 obtain ⟨i0, hi0, hz0, hz1, hz2⟩ := info_parts b0v
 obtain ⟨pv, cv, rfl⟩ := h.out.slice
 obtain ⟨p, c, rfl, -, -, hb⟩ := hn.out
 have hb' := Hi hb; clear hb hn
 go_enter Try.func46, Try.ntmps46
 go_wp2
 go_loopw [0, 9] (fun bw iv wr => ∃ k : Nat, k ≤ hs.length ∧ iv = .int .i64 k ∧ Hid (∃ q d, bw = .slice q (xs.length + 20 * k) d ∧ OwnB w0 wr bw (xs ++ c03 (hs.take k)) ∧ d09 w (.slice pv xs.length cv) q (xs.length + 20 * k) d wr)) (fun _ iv _ => hs.length - (intOf iv).toNat)
 case atStart => exact ⟨0, by omega, rfl, Hi ⟨pv, cv, rfl, by simpa [c03] using h.out, a03.refl _ _, fun k e => .inl e⟩⟩
 case round =>
  obtain ⟨k, hk, rfl, hrow⟩ := hrel
  obtain ⟨q, d, rfl, hO, hG⟩ := hrow.out
  have hO' := Hi hO; have hG' := Hi hG
  clear hO hG hrow
  obtain ⟨X, hX⟩ : ∃ X, X = xs ++ c03 (hs.take k) := ⟨_, rfl⟩
  have hXl : X.length = xs.length + 20 * k := by rw [hX, List.length_append, e0c, List.length_take]; omega
  rw [← hX] at hO'
  by_cases hlk : k < hs.length
  ·obtain ⟨g, o, rfl, hrows⟩ := hb'.out (by omega)
   obtain ⟨l, hll⟩ : ∃ l, hs[k]? = some l := ⟨_, List.getElem?_eq_getElem hlk⟩
   have hrow : Hid (wr.rangeAt g (o + k * 7) (Ha' l.age l.type l.id l.adv l.seq l.sum l.len)) := Hi (hG'.out.k.rangeAt (hrows k l hll) (fun e => (hsep.out (by omega) g rfl).1 e))
   have hlok := hok.out l (List.mem_of_getElem? hll)
   have hsn := k0e (hs.take k) l
   have htk : hs.take (k + 1) = hs.take k ++ [l] := by
    rw [List.take_succ_eq_append_getElem hlk]
    rw [List.getElem?_eq_getElem hlk] at hll; injection hll with hll; rw [hll]
   rw [← htk] at hsn
   have hnext : Hid (xs ++ c03 (hs.take (k + 1)) = X ++ d0d l) := Hi (by rw [hsn, hX, List.append_assoc])
   have hXl' := Hi hXl
   obtain ⟨l1, l2, l3⟩ := hlok
   clear hsn htk hX hll hrows hXl
   obtain ⟨age, type, lid, adv, seq, sum, len⟩ := l
   simp only at l1 l2 l3 hrow
   have hBx : Hid ((wr.alloc (.cells (Ha age type lid adv seq sum len) 69)).rangeAt wr.heap.size 0 (Ha' age type lid adv seq sum len)) := Hi (a0i wr _ 69)
   have hOb := Hi (hO'.out.keep ((a03.refl (fun _ => False) _).alloc (.cells (Ha age type lid adv seq sum len) 69)) (fun _ _ f => f))
   have hGb := Hi (hG'.out.keep ((a03.refl (fun _ => False) _).alloc (.cells (Ha age type lid adv seq sum len) 69)))
   go_wp2_with (first | ((with_reducible refine a0a 12 ?_); refine wpList_load_mid rfl 69 (.tmp 11) rfl g (o + k * 7) rfl _ _ hrow.out Try.underlying69 rfl c04 ?_) | ((with_reducible refine a09 6 ?_); refine a07 rfl 69 (.tmp 6) (.tmp 12) rfl _ (Ha age type lid adv seq sum len) rfl rfl c04 rfl (b0o _ _ _ _ _ _ _) ?_) | ((with_reducible refine a0a 14 ?_); refine wpList_load_mid rfl 69 (.tmp 6) rfl wr.heap.size 0 rfl _ _ hBx.out Try.underlying69 rfl c04 ?_))
   refine (g0q age type seq len lid adv sum l1 l2 l3 _).mono ?_
   rintro e w2 ⟨p2, c2, rfl, hO2, k2⟩
   have hhl := d04 ⟨age, type, lid, adv, seq, sum, len⟩
   rw [hhl] at hO2
   rw [hhl]
   have hOc := Hi (hOb.out.keep k2 (fun _ _ f => f))
   have hGc := Hi (hGb.out.keep k2)
   have hsrc := Hi hO2.bytes
   have hhl' := Hi hhl
   clear hO2 k2 hOb hGb hBx hrow hO' hhl
   go_wp2_with ((with_reducible refine a0a 16 ?_); go_must (refine a0h rfl (.tmp 13) (.tmp 15) 31 rfl i0 Try.underlying31 hi0 hz0 hz1 hz2 w0 _ X rfl (hXn hXl'.out hOc).out _ rfl (d0d ⟨age, type, lid, adv, seq, sum, len⟩) hsrc.out (by rw [hXl'.out, hhl'.out]; omega) ?_; intro q3 d3 w3 hO3 hg3; have hO4 := c0e hXl'.out hhl'.out (show xs.length + 20 * k + 20 = xs.length + 20 * (k + 1) by omega) hnext.out.symm hO3; have hee : X.length + (d0d ⟨age, type, lid, adv, seq, sum, len⟩).length = xs.length + 20 * (k + 1) := (by have := hXl'.out; have := hhl'.out; omega); rw [hee] at hg3 ⊢; have hg4 := Hi (hGc.out.trans hg3.out); clear hO3 hg3 hOc hGc hee))
   exact ⟨⟨k + 1, by omega, by go_num, Hi ⟨q3, d3, rfl, hO4.out, hg4.out⟩⟩, by simp [intOf]; omega⟩
  ·obtain rfl : k = hs.length := by omega
   rw [List.take_length] at hX
   have hX' := Hi hX
   clear hX hXl
   go_wp2
   go_ret
   have hn2 := e0c hs
   exact ⟨q, d, by rw [hn2]; rfl, by rw [hn2, ← hX'.out]; exact hO'.out, by rw [hn2]; exact hG'.out⟩
set_option maxRecDepth 100000 in
set_option maxHeartbeats 4000000 in
theorem l0s (sv : Value) (hs : List KeyD) (hok : Hid (∀ h ∈ hs, h.ok)) (hx : hs.length ≤ 1000) (w : World) (hn : Hid (h0p w sv hs)) :
 Calls Try.prog 48 #[sv] w (i0s (e0b hs) w) := by
 obtain ⟨p, c, rfl, -, -, hb⟩ := hn.out
 have hb' := Hi hb; clear hb hn
 go_enter Try.func48, Try.ntmps48
 go_wp2
 go_loopw [3, 8] (fun bw iv wr => ∃ k : Nat, k ≤ hs.length ∧ iv = .int .i64 k ∧ Hid (∃ q d, bw = .slice q (12 * k) d ∧ OwnB w wr bw (e0b (hs.take k)) ∧ a03 (fun _ => False) w wr)) (fun _ iv _ => hs.length - (intOf iv).toNat)
 case atStart => exact ⟨0, by omega, rfl, Hi ⟨none, 0, rfl, by simpa [e0b] using OwnB.nil w w (Nat.le_refl _), a03.refl _ _⟩⟩
 case round =>
  obtain ⟨k, hk, rfl, hrow⟩ := hrel
  obtain ⟨q, d, rfl, hO, hG⟩ := hrow.out
  have hO' := Hi hO; have hG' := Hi hG
  clear hO hG hrow
  obtain ⟨X, hX⟩ : ∃ X, X = e0b (hs.take k) := ⟨_, rfl⟩
  have hXl : X.length = 12 * k := by rw [hX, f0t, List.length_take]; omega
  rw [← hX] at hO'
  by_cases hlk : k < hs.length
  ·obtain ⟨g, o, rfl, hrows⟩ := hb'.out (by omega)
   obtain ⟨l, hll⟩ : ∃ l, hs[k]? = some l := ⟨_, List.getElem?_eq_getElem hlk⟩
   have hrow : Hid (wr.rangeAt g (o + k * 3) [.int .i64 l.type, .int .u32 l.id, .int .u32 l.adv]) := Hi (hG'.out.rangeAt (hrows k l hll) id)
   have hlok := hok.out l (List.mem_of_getElem? hll)
   have hsn := l0a (hs.take k) l
   have htk : hs.take (k + 1) = hs.take k ++ [l] := by
    rw [List.take_succ_eq_append_getElem hlk]
    rw [List.getElem?_eq_getElem hlk] at hll; injection hll with hll; rw [hll]
   rw [← htk] at hsn
   have hnext : Hid (e0b (hs.take (k + 1)) = X ++ keyB l) := Hi (by rw [hsn, hX])
   have hXl' := Hi hXl
   obtain ⟨l1, l2⟩ := hlok
   clear hsn htk hX hll hrows hXl
   obtain ⟨type, lid, adv⟩ := l
   simp only at l1 l2 hrow
   obtain ⟨T, hT, lT, hTl⟩ := l0k type
   have hBx : Hid ((wr.alloc (.cells #[.int .i64 type, .int .u32 lid, .int .u32 adv] 67)).rangeAt wr.heap.size 0 [.int .i64 type, .int .u32 lid, .int .u32 adv]) := Hi (a0i wr _ 67)
   have hOb := Hi (hO'.out.keep ((a03.refl (fun _ => False) _).alloc (.cells #[.int .i64 type, .int .u32 lid, .int .u32 adv] 67)) (fun _ _ f => f))
   have hkb := Hi (hG'.out.alloc (.cells #[.int .i64 type, .int .u32 lid, .int .u32 adv] 67))
   go_upto_region 5 with (first | ((with_reducible refine a0a 11 ?_); refine wpList_load_mid rfl 67 (.tmp 10) rfl g (o + k * 3) rfl _ _ hrow.out Try.underlying67 rfl f05 ?_) | ((with_reducible refine a09 5 ?_); refine a07 rfl 67 (.tmp 5) (.tmp 11) rfl _ #[.int .i64 type, .int .u32 lid, .int .u32 adv] rfl rfl f05 rfl rfl ?_))
   generalize wr.alloc (.cells #[.int .i64 type, .int .u32 lid, .int .u32 adv] 67) = wb at hBx hOb hkb ⊢
   have b0 := a01 hBx.out 0 (.int .i64 type) rfl
   have b1 := a01 hBx.out 1 (.int .u32 lid) rfl
   have b2 := a01 hBx.out 2 (.int .u32 adv) rfl
   go_wp2_with fail
   have hN : Hid (a0x (wb.alloc (.cells #[.int .u32 T, .int .u32 lid, .int .u32 adv] 22)) (.slice (some ⟨wb.heap.size, 0, none⟩) 3 3) [T, lid, adv]) := Hi (a0x.new wb [T, lid, adv] rfl)
   have hOc := Hi (hOb.out.keep ((a03.refl (fun _ => False) _).alloc (.cells #[.int .u32 T, .int .u32 lid, .int .u32 adv] 22)) (fun _ _ f => f))
   have hkc := Hi (hkb.out.alloc (.cells #[.int .u32 T, .int .u32 lid, .int .u32 adv] 22))
   refine (c0w w _ X _ [T, lid, adv] (Hi (by intro n hn; simp at hn; rcases hn with rfl | rfl | rfl <;> assumption)) (by rw [hXl'.out]; simp; omega) _ (hXv hXl'.out hOc) hN (Hi (fun _ j e => by
    simp only [Value.ownBlock, Option.some.injEq] at e
    subst e
    refine ⟨fun e => ?_, by simp⟩
    have := l05 hOb.out _ e; omega))).mono ?_
   rintro e w2 ⟨q2, d2, rfl, hO2, hg2⟩
   have hn2 : X.length + (bes [T, lid, adv]).length = 12 * (k + 1) := by rw [hXl'.out, e04]; simp; omega
   have hkeyb : bes [T, lid, adv] = keyB ⟨type, lid, adv⟩ := by unfold keyB; simp only [← hTl.out, bes, List.flatMap_cons, List.flatMap_nil, List.append_nil, List.append_assoc]
   rw [hn2, hkeyb, ← hnext.out] at hO2
   rw [hn2] at hg2 ⊢
   have hk2 := Hi (hOc.out.keeps hkc.out hg2)
   have hO2' := Hi hO2
   clear hO2 hg2 hn2 hkeyb hN hOc hkc b0 b1 b2
   go_wp2_with fail
   exact ⟨⟨k + 1, by omega, by go_num, Hi ⟨q2, d2, rfl, hO2'.out, hk2.out⟩⟩, by simp [intOf]; omega⟩
  ·obtain rfl : k = hs.length := by omega
   rw [List.take_length] at hX
   have hX' := Hi hX
   clear hX hXl
   go_wp2
   go_ret
   have hn2 := f0t hs
   exact ⟨q, d, by rw [hn2]; rfl, by rw [hn2, ← hX'.out]; exact hO'.out, hG'.out⟩
theorem e02 : (Try.prog.info? 35).map (·.size) = some 7 := by kernel_rfl
set_option maxRecDepth 100000 in
set_option maxHeartbeats 4000000 in
theorem i0z (mask dr bdr : Nat) (interval dead priority : Int) (nbs : List Nat) (pn : Option Addr) (cn : Nat) (B : List UInt8) (hm : mask < 4294967296) (hdr : dr < 4294967296) (hbdr : bdr < 4294967296) (hl : nbs.length ≤ 1000) (hs : Hid (h0g nbs)) (w : World) (hn : Hid (a0x w (.slice pn nbs.length cn) nbs))
 (hB : Hid (be 4 mask ++ be 2 (lo16 interval) ++ [2, UInt8.ofNat (lo8 priority)] ++ be 4 (lo32 dead) ++ be 4 dr ++ be 4 bdr ++ bes nbs = B)) :
 Calls Try.prog 45 #[.agg (Ga mask interval dead priority dr bdr (.slice pn nbs.length cn))] w (i0s B w) := by
 obtain ⟨i0, hi0, hz0, hz1, hz2⟩ := info_parts b0v
 obtain ⟨cs, hcs⟩ : ∃ cs : List Value, cs = (Ga' mask interval dead priority dr bdr (.slice pn nbs.length cn)) := ⟨_, rfl⟩
 have hBx : Hid (c02 w.heap.size cs (w.alloc (.cells (Ga mask interval dead priority dr bdr (.slice pn nbs.length cn)) 35)) (w.alloc (.cells (Ga mask interval dead priority dr bdr (.slice pn nbs.length cn)) 35))) := Hi (by rw [hcs]; exact c0s w _ _)
 have hsz : Hid (w.heap.size < (w.alloc (.cells (Ga mask interval dead priority dr bdr (.slice pn nbs.length cn)) 35)).heap.size) := Hi (by simp)
 have hwB : Hid (a03 (fun _ => False) w (w.alloc (.cells (Ga mask interval dead priority dr bdr (.slice pn nbs.length cn)) 35))) := Hi ((a03.refl _ _).alloc _)
 have hcs' := Hi hcs; clear hcs
 obtain ⟨I, hI, lI, hIl⟩ := l0l interval
 obtain ⟨D, hD, lD, hDl⟩ := l0k dead
 obtain ⟨T, hT, lT, hTl⟩ := h0i priority
 go_enter Try.func45, Try.ntmps45
 go_upto_region 1 with fail
 generalize w.alloc (.cells (Ga mask interval dead priority dr bdr (.slice pn nbs.length cn)) 35) = wB at hBx hsz hwB ⊢
 refine wp_region_noPanic ?_
 refine wp_region_held_drew (S := (fun W => c02 w.heap.size cs wB W)) (by kernel_rfl) (hBx.out.next ((a03.refl _ _).drew)) (fun hHeld => ?_)
 refine tk 0 rfl ?_
 refine tkL 1 rfl (a02 (by rfl) 22 (.tmp 4) rfl w.heap.size 0 rfl _ (fun _ s => s.cell 0 (.int .u32 mask) (by rw [hcs'.out]; rfl)) (fun w s => b04 w _ _ _ s)) ?_
 refine tk 3 rfl ?_
 refine tkL 4 rfl (a02 (by rfl) 3 (.tmp 7) rfl w.heap.size 1 rfl _ (fun _ s => s.cell 1 (.int .i64 interval) (by rw [hcs'.out]; rfl)) (fun w s => a0j w _ _ _ s)) ?_
 refine tk 5 rfl ?_
 refine sL 2 rfl fun K hK => ?_
 go_simp
 (refine (f0y wB mask hm _ hHeld.k.size).mono ?_; rintro e W1 ⟨p1, d1, rfl, hO1, hg1⟩)
 go_wp2_with fail
 refine hK.out _ _ (hHeld.next hg1) (fun hHeld => ?_)
 clear hK K
 try simp only [Act.put, sA, sZ, sS]
 have hO1' := Hi hO1
 clear hO1 hg1
 refine sL 6 rfl fun K hK => ?_
 go_simp
 (refine (c0n wB _ (be 4 mask) I lI (by rw [a08]; omega) _ (hO4 hO1')).mono ?_; rintro e W2 ⟨p2, d2, rfl, hO2, hg2⟩)
 go_wp2_with fail
 refine hK.out _ _ (hHeld.grow hsz.out hg2 hO1'.out.2.1) (fun hHeld => ?_)
 clear hK K
 try simp only [Act.put, sA, sZ, sS]
 refine tk 7 rfl ?_
 refine wpAnyH_done (by kernel_rfl) (NoPanic.normal ?_) _
 have hO2' := c0e (a08 4 mask) (a08 2 I) (show 4 + 2 = 6 from rfl) (rfl : be 4 mask ++ be 2 I = be 4 mask ++ be 2 I) (Hi hO2)
 have hn2 : (be 4 mask).length + (be 2 I).length = 6 := by rw [a08, a08]
 rw [hn2]
 obtain ⟨X2, hX2⟩ : ∃ X, be 4 mask ++ be 2 I = X := ⟨_, rfl⟩
 have hX2l : X2.length = 6 := by rw [← hX2, List.length_append, hn2]
 rw [hX2] at hO2'
 have hX2' := Hi hX2; have hX2l' := Hi hX2l; have hS2 := Hi hHeld
 clear hO2 hg2 hn2 hX2 hX2l hHeld hO1'
 have b3 := hS2.out.cell 3 (.int .i64 priority) (by rw [hcs'.out]; rfl)
 have hO3 := Hi (hO2'.out.keep ((a03.refl (fun _ => False) _).alloc (.cells #[.int .u8 2, .int .u8 T] 5)) (fun _ _ f => f))
 have hS3 := Hi (hS2.out.next ((a03.refl (fun _ => False) _).alloc (.cells #[.int .u8 2, .int .u8 T] 5)))
 have hsrc : Hid (a0b (W2.alloc (.cells #[.int .u8 2, .int .u8 T] 5)) (.slice (some ⟨W2.heap.size, 0, none⟩) 2 2) [2, UInt8.ofNat T]) := Hi (by
  have := (OwnB.new W2 W2 (Nat.le_refl _) [2, UInt8.ofNat T] (n := 2) rfl (by unfold maxLen; omega)).bytes
  rw [List.map_cons, List.map_cons, List.map_nil, h0f T lT] at this
  exact this)
 go_upto_region 3 with ((with_reducible refine a0a 16 ?_); refine a0h rfl (.tmp 11) (.tmp 15) 31 rfl i0 Try.underlying31 hi0 hz0 hz1 hz2 wB _ X2 rfl (hXn hX2l'.out hO3).out _ rfl [2, UInt8.ofNat T] hsrc.out (by rw [hX2l'.out]; simp) ?_; intro q4 d4 w4 hO4 hg4)
 obtain ⟨X4, hX4⟩ : ∃ X, X2 ++ [2, UInt8.ofNat T] = X := ⟨_, rfl⟩
 have hO4' := c0e hX2l'.out (show ([2, UInt8.ofNat T] : List UInt8).length = 2 from rfl) (show 6 + 2 = 8 from rfl) hX4 hO4
 have hn4 : X2.length + ([2, UInt8.ofNat T] : List UInt8).length = 8 := by rw [hX2l'.out]; rfl
 have hX4l : X4.length = 8 := by rw [← hX4, List.length_append, hn4]
 have hS4 := Hi (hS3.out.grow hsz.out hg4.out hO3.out.2.1)
 rw [show X2.length + 2 = 8 by rw [hX2l'.out]]
 have hX4' := Hi hX4; have hX4l' := Hi hX4l
 clear hO4 hg4 hn4 hX4 hX4l hO3 hS3 hsrc hS2 b3 hO2'
 have c2 := hS4.out.cell 2 (.int .i64 dead) (by rw [hcs'.out]; rfl)
 have c4 := hS4.out.cell 4 (.int .u32 dr) (by rw [hcs'.out]; rfl)
 have c5 := hS4.out.cell 5 (.int .u32 bdr) (by rw [hcs'.out]; rfl)
 go_wp2_with fail
 have hN : Hid (a0x (w4.alloc (.cells #[.int .u32 D, .int .u32 dr, .int .u32 bdr] 22)) (.slice (some ⟨w4.heap.size, 0, none⟩) 3 3) [D, dr, bdr]) := Hi (a0x.new w4 [D, dr, bdr] rfl)
 refine (c0w wB _ X4 _ [D, dr, bdr] (Hi (by intro n hn; simp at hn; rcases hn with rfl | rfl | rfl <;> assumption)) (by rw [hX4l'.out]; simp) _ (hXn hX4l'.out (Hi (hO4'.out.keep ((a03.refl (fun _ => False) _).alloc _) (fun _ _ f => f)))) hN (Hi (fun _ j e => by
  simp only [Value.ownBlock, Option.some.injEq] at e
  subst e
  refine ⟨fun e => ?_, by simp⟩
  have := l05 hO4'.out _ e; omega))).mono ?_
 rintro e w5 ⟨q5, d5, rfl, hO5, hg5⟩
 have hS5 := Hi ((hS4.out.next ((a03.refl (fun _ => False) _).alloc (.cells #[.int .u32 D, .int .u32 dr, .int .u32 bdr] 22))).grow hsz.out hg5 hO4'.out.2.1)
 obtain ⟨X5, hX5⟩ : ∃ X, X4 ++ bes [D, dr, bdr] = X := ⟨_, rfl⟩
 have hb3 : (bes [D, dr, bdr]).length = 12 := by rw [e04]; rfl
 have hO5' := c0e hX4l'.out hb3 (show 8 + 12 = 20 from rfl) hX5 (Hi hO5)
 have hn5 : X4.length + (bes [D, dr, bdr]).length = 20 := by rw [hX4l'.out, hb3]
 have hX5l : X5.length = 20 := by rw [← hX5, List.length_append, hn5]
 rw [hn5]
 have hX5' := Hi hX5; have hX5l' := Hi hX5l
 clear hO5 hg5 hX5 hX5l hb3 hn5 hS4 hN c2 c4 c5 hO4'
 have e6 := hS5.out.cell 6 (.slice pn nbs.length cn) (by rw [hcs'.out]; rfl)
 go_wp2_with fail
 refine (c0w wB _ X5 _ nbs hs (by rw [hX5l'.out]; omega) _ (hXn hX5l'.out hO5') (Hi (hn.out.keep (hwB.out.trans hS5.out.k))) (Hi (fun h0 j e => by obtain ⟨h1, h2⟩ := m0y hn.out h0 j e; exact ⟨fun e2 => by have := hO5'.out.2.1 j e2; have := hsz.out; omega, Nat.lt_of_lt_of_le h1 (hwB.out.trans hS5.out.k).size⟩))).mono ?_
 rintro e w6 ⟨q6, d6, rfl, hO6, hg6⟩
 have hfin : X5 ++ bes nbs = B := by
  rw [← hB.out, ← hX5'.out, ← hX4'.out, ← hX2'.out]
  simp only [← hIl.out, ← hTl.out, ← hDl.out, bes, List.flatMap_cons, List.flatMap_nil, List.append_nil, List.append_assoc]
 have hn6 : X5.length + (bes nbs).length = B.length := by rw [← hfin, List.length_append]
 rw [hfin, hn6] at hO6
 rw [hn6]
 have hS6 := Hi (hS5.out.grow hsz.out hg6 hO5'.out.2.1)
 have hO6' := Hi hO6
 clear hO6 hg6 hfin hn6 hS5 hO5' e6
 go_wp2_with fail
 go_ret
 exact ⟨q6, d6, rfl, hO6'.out.older (by have := hsz.out; omega), hwB.out.trans hS6.out.k⟩
structure n0m (l : LsaD) : Prop where
 links : ∀ x ∈ l.links, x.ok
 small : h0g l.routers
 id : l.id < 4294967296
 adv : l.adv < 4294967296
 mask : l.mask < 4294967296
 ll : l.links.length ≤ 9223372036854775807
 rl : l.routers.length ≤ 9223372036854775807
theorem l08 (ls : List LsaD) (h : ∀ l ∈ ls, canB l = true) (n : Nat) (hn : ls.length ≤ n) : (c0k ls).length ≤ 504 * n := by
 have := o0y ls h
 have : 504 * ls.length ≤ 504 * n := Nat.mul_le_mul_left _ hn
 omega
set_option maxRecDepth 100000 in
set_option maxHeartbeats 4000000 in
theorem l0r (sv : Value) (ls : List LsaD) (hok : Hid (∀ l ∈ ls, n0m l)) (hx : ls.length ≤ 20) (z : Bool) (w : World) (hn : Hid (i0t w sv ls)) (hz : Hid (ls.all canB = z)) :
 Calls Try.prog 49 #[sv] w fun e w' => ((z = true → ∃ q d, e = .returned (.tuple #[.slice q (be 4 ls.length ++ c0k ls).length d, .bool true]) ∧ OwnB w w' (.slice q (be 4 ls.length ++ c0k ls).length d) (be 4 ls.length ++ c0k ls)) ∧ (z = false → e = .returned (.tuple #[.slice none 0 0, .bool false]))) ∧ a03 (fun _ => False) w w' := by
 obtain ⟨i0, hi0, hz0, hz1, hz2⟩ := info_parts b0v
 obtain ⟨ms, hms, hrows, hins⟩ := hn.out
 have hml : ms.length = ls.length := by rw [← hms, List.length_map]
 obtain ⟨p, c, rfl, -, -, hb⟩ := hrows
 have hb' := Hi hb; have hins' := Hi hins; have hms' := Hi hms
 clear hb hins hms hn
 obtain ⟨N, hN⟩ : ∃ N, N = ls.length := ⟨_, rfl⟩
 rw [← hN] at hx hml ⊢
 rw [hml] at hb' ⊢
 have hN' := Hi hN; have hml' := Hi hml
 clear hN hml
 go_enter Try.func49, Try.ntmps49
 go_wp2_with fail
 refine (f0y w N (by omega) _ (Nat.le_refl _)).mono ?_
 rintro e w1 ⟨p1, c1, rfl, hO1, k1⟩
 have hO1' := Hi hO1; have k1' := Hi k1
 clear hO1 k1
 go_wp2_with fail
 go_loopw [4, 15] (fun bw iv wr => ∃ k : Nat, k ≤ N ∧ iv = .int .i64 k ∧ Hid (∃ q d X, bw = .slice q X.length d ∧ X = be 4 N ++ c0k (ls.take k) ∧ OwnB w wr bw X ∧ a03 (fun _ => False) w wr ∧ (∀ l ∈ ls.take k, canB l = true))) (fun _ iv _ => N - (intOf iv).toNat)
 case atStart => exact ⟨0, by omega, rfl, Hi ⟨p1, c1, be 4 N, by rw [a08], by simp [c0k], hO1'.out, k1'.out, by simp⟩⟩
 case round =>
  obtain ⟨k, hk, rfl, hrow⟩ := hrel
  obtain ⟨q, d, X, rfl, hX, hO, hG, hcan⟩ := hrow.out
  have hO' := Hi hO; have hG' := Hi hG; have hcan' := Hi hcan; have hX' := Hi hX
  have hXl : X.length ≤ 4 + 504 * 20 := by
   rw [hX, List.length_append, a08]
   have := l08 _ hcan 20 (by rw [List.length_take]; omega)
   omega
  clear hO hG hrow hcan hX
  by_cases hlk : k < N
  ·obtain ⟨g, o, rfl, hrows⟩ := hb'.out (by omega)
   obtain ⟨m, hll⟩ : ∃ m, ms[k]? = some m := ⟨_, List.getElem?_eq_getElem (by rw [hml'.out]; exact hlk)⟩
   have hmem := List.mem_of_getElem? hll
   have hin := hins'.out m hmem
   have hdl : ls[k]? = some m.d := by rw [← hms'.out, List.getElem?_map, hll]; rfl
   have hlok := hok.out m.d (List.mem_of_getElem? hdl)
   have hrow : Hid (wr.rangeAt g (o + k * 9) (d0t m)) := Hi (hG'.out.rangeAt (hrows k m hll) id)
   have htk : ls.take (k + 1) = ls.take k ++ [m.d] := by
    have hlk2 : k < ls.length := (List.getElem?_eq_some_iff.1 hdl).1
    rw [List.take_succ_eq_append_getElem hlk2]
    rw [List.getElem?_eq_getElem hlk2] at hdl; injection hdl with hdl; rw [hdl]
   have hsn := l07 (ls.take k) m.d
   rw [← htk] at hsn
   have hnext : Hid (be 4 N ++ c0k (ls.take (k + 1)) = X ++ putB m.d) := Hi (by rw [hsn, hX'.out, List.append_assoc])
   have htk' := Hi htk
   have hzk : Hid (canB m.d = false → z = false) := Hi (fun e => by
    rw [← hz.out, List.all_eq_false]
    exact ⟨m.d, List.mem_of_getElem? hdl, by rw [e]; decide⟩)
   clear hmem hrows hll hdl htk hsn
   obtain ⟨⟨age, type, lid, adv, seq, links, mask, routers, cost⟩, p5, c5, p7, c7⟩ := m
   obtain ⟨o1, o2, o3, o4, o5, o6, o7⟩ := hlok
   obtain ⟨hl1, hl2⟩ := hin
   simp only at o1 o2 o3 o4 o5 o6 o7 hl1 hl2
   have o1' := Hi o1; have o2' := Hi o2
   have hl1' := Hi (hl1.keep hG'.out); have hl2' := Hi (hl2.keep hG'.out)
   clear hl1 hl2 o1 o2
   have hrow : Hid (wr.rangeAt g (o + k * 9) (La' age type lid adv seq (.slice p5 links.length c5) mask (.slice p7 routers.length c7) cost)) := hrow
   have hBx : Hid ((wr.alloc (.cells (La age type lid adv seq (.slice p5 links.length c5) mask (.slice p7 routers.length c7) cost) 76)).rangeAt wr.heap.size 0 (La' age type lid adv seq (.slice p5 links.length c5) mask (.slice p7 routers.length c7) cost)) := Hi (a0i wr _ 76)
   have hOb := Hi (hO'.out.keep ((a03.refl (fun _ => False) _).alloc (.cells (La age type lid adv seq (.slice p5 links.length c5) mask (.slice p7 routers.length c7) cost) 76)) (fun _ _ f => f))
   have hkb := Hi (hG'.out.alloc (.cells (La age type lid adv seq (.slice p5 links.length c5) mask (.slice p7 routers.length c7) cost) 76))
   have hl1b := Hi (hl1'.out.keep ((a03.refl (fun _ => False) _).alloc (.cells (La age type lid adv seq (.slice p5 links.length c5) mask (.slice p7 routers.length c7) cost) 76)))
   have hl2b := Hi (hl2'.out.keep ((a03.refl (fun _ => False) _).alloc (.cells (La age type lid adv seq (.slice p5 links.length c5) mask (.slice p7 routers.length c7) cost) 76)))
   clear hO' hl1' hl2'
   obtain ⟨y, hy⟩ : ∃ y, canB ⟨age, type, lid, adv, seq, links, mask, routers, cost⟩ = y := ⟨_, rfl⟩
   rw [hy] at hzk
   have hy' := Hi hy; clear hy
   go_wp2_with (first | ((with_reducible refine a0a 18 ?_); refine wpList_load_mid rfl 76 (.tmp 17) rfl g (o + k * 9) rfl _ _ hrow.out Try.underlying76 rfl b05 ?_) | ((with_reducible refine a09 6 ?_); refine a07 rfl 76 (.tmp 6) (.tmp 18) rfl _ (La age type lid adv seq (.slice p5 links.length c5) mask (.slice p7 routers.length c7) cost) rfl rfl b05 rfl (a0y _ _ _ _ _ _ _ _ _ (a04 _ _ _) (a04 _ _ _)) ?_) | ((with_reducible refine a0a 20 ?_); refine wpList_load_mid rfl 76 (.tmp 6) rfl wr.heap.size 0 rfl _ _ hBx.out Try.underlying76 rfl b05 ?_))
   cases y with
   | false =>
    have hz1 := Hi (hzk.out rfl)
    refine (l0u age type seq cost lid adv mask links routers p5 p7 c5 c7 _ hl1b o6 o7 hy').mono ?_
    rintro e w2 ⟨rfl, k2⟩
    have k2' := Hi (hkb.out.trans k2); clear k2
    go_wp2_with fail
    go_ret2
    exact ⟨⟨fun e => (by rw [hz1.out] at e; cases e), fun _ => rfl⟩, k2'.out⟩
   | true =>
    have hpl := o01 hy'.out
    refine (g0p age type seq cost lid adv mask links routers p5 p7 c5 c7 _ hl1b hl2b o1' o2' o3 o4 o5 hy').mono ?_
    rintro e w2 ⟨p2, c2, rfl, hO2, k2⟩
    obtain ⟨Y, hY⟩ : ∃ Y, putB ⟨age, type, lid, adv, seq, links, mask, routers, cost⟩ = Y := ⟨_, rfl⟩
    rw [hY] at hO2 hpl hnext
    rw [hY]
    have hsrc := Hi hO2.bytes
    have hOc := Hi (hOb.out.keep k2 (fun _ _ f => f))
    have hkc := Hi (hkb.out.trans k2)
    have hcan2 : Hid (∀ l ∈ ls.take (k + 1), canB l = true) := Hi (fun l hl => by
     rw [htk'.out] at hl
     rcases List.mem_append.1 hl with h | h
     ·exact hcan'.out l h
     ·simp at h; subst h; exact hy'.out)
    clear hO2 k2 hY hOb hkb hl1b hl2b hBx hrow
    go_wp2_with ((with_reducible refine a0a 28 ?_); refine a0h rfl (.tmp 26) (.tmp 27) 31 rfl i0 Try.underlying31 hi0 hz0 hz1 hz2 w _ X rfl hOc.out _ rfl Y hsrc.out (by omega) ?_; intro q3 d3 w3 hO3 hg3; have hk3 := Hi (hOc.out.keeps hkc.out hg3.out); clear hg3)
    exact ⟨⟨k + 1, by omega, by go_num, Hi ⟨q3, d3, X ++ Y, by rw [List.length_append], hnext.out.symm, by have := hO3.out; exact this, hk3.out, hcan2.out⟩⟩, by simp [intOf]; omega⟩
  ·obtain rfl : k = N := by omega
   have hz1 : Hid (z = true) := Hi (by
    rw [← hz.out, List.all_eq_true]
    have := hcan'.out
    rw [hN'.out, List.take_length] at this
    exact this)
   have hXe : Hid (X = be 4 k ++ c0k ls) := Hi (by rw [hX'.out, hN'.out, List.take_length])
   go_wp2_with fail
   go_ret2
   exact ⟨⟨fun _ => ⟨q, d, by rw [← hXe.out]; rfl, by rw [← hXe.out]; exact hO'.out⟩, fun e => (by rw [hz1.out] at e; cases e)⟩, hG'.out⟩
structure a0m.ok (p : a0m) : Prop where
 router : p.router < 4294967296
 area : p.area < 4294967296
 mask : p.mask < 4294967296
 dr : p.dr < 4294967296
 bdr : p.bdr < 4294967296
 seq : p.seq < 4294967296
 nbs : h0g p.nbs
 heads : ∀ h ∈ p.heads, h.ok
 keys : ∀ k ∈ p.keys, k.ok
 lsas : ∀ l ∈ p.lsas, n0m l
 nl : p.nbs.length ≤ 9223372036854775807
 hl : p.heads.length ≤ 9223372036854775807
 kl : p.keys.length ≤ 9223372036854775807
 ll : p.lsas.length ≤ 9223372036854775807
theorem c0c {w : World} {g : Nat} {cs : List Value} (h : w.rangeAt g 0 cs) (i n : Nat) {l : List Value} (e : (cs.drop i).take n = l) : w.rangeAt g i l := fun j u hu => by
 rw [← e, List.getElem?_take] at hu
 split at hu
 ·rw [List.getElem?_drop] at hu
  have := h (i + j) u hu
  rwa [Nat.zero_add] at this
 ·cases hu
theorem a0n : (Try.prog.info? 40).map (·.size) = some 16 := by kernel_rfl
theorem q06 (w : World) (b o : Nat) (v : Value) (h : w.cell? ⟨b, o, none⟩ = some v) : (loadVar 36 ⟨b, o, none⟩).run Try.prog w = .ok v w := by simp [go_sem, h]
theorem a0s.own_lt {α : Type} {sz : Nat} {cv : α → List Value} {w : World} {v : Value} {xs : List α} (h : a0s sz cv w v xs) (hcv : ∀ x, 0 < (cv x).length) (h0 : 0 < xs.length) (k : Nat) (e : v.ownBlock = some k) : k < w.heap.size := h.lt h0 hcv k e
theorem c02.older {B : Nat} {cs : List Value} {w0 w1 W : World} (s : c02 B cs w1 W) (k : a03 (fun _ => False) w0 w1) : c02 B cs w0 W := ⟨s.r, k.trans s.k⟩
def TellPost (B : List UInt8) (z : Bool) (w : World) (e : Ending) (w' : World) : Prop :=
 ((z = true → ∃ q d, e = .returned (.tuple #[.slice q B.length d, .bool true]) ∧ OwnB w w' (.slice q B.length d) B) ∧ (z = false → e = .returned (.tuple #[.slice none 0 0, .bool false]))) ∧ a03 (fun _ => False) w w'
set_option maxRecDepth 100000 in
set_option maxHeartbeats 4000000 in
theorem p0s (p : a0m) (pn ph pk pl : Option Addr) (cn ch ck cl : Nat) (cs : List Value) (z : Bool) (B : List UInt8) (w : World)
 (hcs : Hid (cs = a0w p (.slice pn p.nbs.length cn) (.slice ph p.heads.length ch) (.slice pk p.keys.length ck) (.slice pl p.lsas.length cl)))
 (hin : Hid (d0f w p (.slice pn p.nbs.length cn) (.slice ph p.heads.length ch) (.slice pk p.keys.length ck) (.slice pl p.lsas.length cl))) (hok : Hid p.ok) (hcan : Hid (canP p = true)) (hz : Hid (p.lsas.all canB = z)) (hB : Hid (b0x p = B)) :
 Calls Try.prog 16 #[.agg cs.toArray] w (TellPost B z w) := by
 obtain ⟨i0, hi0, hz0, hz1, hz2⟩ := info_parts b0v
 have hBx : Hid (c02 w.heap.size cs (w.alloc (.cells cs.toArray 40)) (w.alloc (.cells cs.toArray 40))) := Hi (c0s w cs _)
 have hsz : Hid (w.heap.size < (w.alloc (.cells cs.toArray 40)).heap.size) := Hi (by simp)
 have hwB : Hid (a03 (fun _ => False) w (w.alloc (.cells cs.toArray 40))) := Hi ((a03.refl _ _).alloc _)
 obtain ⟨a1, a2, a3, a4, a5, a6⟩ := c0l hcan.out
 obtain ⟨b1, b2, b3, b4, b5⟩ := e0n a6
 have hg1 := Hi a3
 have hother := Hi a2
 clear a1 a2 a3 a4 a5 a6 b2 b4
 have hq := hB.out
 unfold b0x at hq
 obtain ⟨type, router, area, auth, mask, interval, dead, priority, dr, bdr, nbs, flags, seq, heads, keys, lsas⟩ := p
 simp only at *
 have l0 := Hi (show cs[0]? = some (.int .i64 type) by rw [hcs.out]; rfl)
 by_cases t1 : type = 1
 ·subst t1
  rw [if_pos rfl] at hq
  have hq' := Hi hq
  have hzt : Hid (z = true) := Hi (by
   have h := hother.out
   unfold e0k at h
   simp at h
   rw [← hz.out]; have : lsas = [] := by simpa using h.2.2.2; 
   rw [this]; rfl)
  have hnl : nbs.length ≤ 1000 := by
   have := hg1.out rfl
   unfold g0w at this
   simp only [Bool.and_eq_true, decide_eq_true_eq] at this; omega
  clear hq
  go_enter Try.func16, Try.ntmps16
  go_upto_region 1 with fail
  generalize w.alloc (.cells cs.toArray 40) = wB at hBx hsz hwB ⊢
  have b0 := hBx.out.cell 0 _ l0.out
  have hgr := Hi (c0c (l := (Ga' mask interval dead priority dr bdr (.slice pn nbs.length cn))) hBx.out.r 4 7 (by rw [hcs.out]; rfl))
  go_wp2_with ((with_reducible refine a0a 10 ?_); refine wpList_load_mid rfl 35 (.tmp 9) rfl w.heap.size 4 rfl _ _ hgr.out Try.underlying35 rfl e02 ?_)
  refine (i0z mask dr bdr interval dead priority nbs pn cn B hok.out.mask hok.out.dr hok.out.bdr hnl (Hi hok.out.nbs) _ (Hi (hin.out.n.keep hwB.out)) hq').mono ?_
  rintro e w2 ⟨q, d, rfl, hO, hk⟩
  have hO' := Hi hO; have hk' := Hi hk
  clear hO hk
  go_wp2_with fail
  go_ret2
  exact ⟨⟨fun _ => ⟨q, d, rfl, hO'.out.older (by have := hsz.out; omega)⟩, fun e => (by rw [hzt.out] at e; cases e)⟩, hwB.out.trans hk'.out⟩
 ·rw [if_neg t1] at hq
  have d1 : (type == 1) = false := by rw [beq_eq_false_iff_ne]; exact t1
  by_cases t2 : type = 2
  ·subst t2
   rw [if_pos rfl] at hq
   have hq' := Hi hq
   have hzt : Hid (z = true) := Hi (by
    have h := hother.out
    unfold e0k at h
    simp at h
    rw [← hz.out]; have : lsas = [] := by simpa using h.2.2
    rw [this]; rfl)
   clear hq t1 d1
   obtain ⟨T, hT, lT, hTl⟩ := h0i flags
   go_enter Try.func16, Try.ntmps16
   go_upto_region 1 with fail
   generalize w.alloc (.cells cs.toArray 40) = wB at hBx hsz hwB ⊢
   have b0 := hBx.out.cell 0 _ l0.out
   go_upto_region 5 with fail
   clear b0
   refine wp_region_noPanic ?_
   refine wp_region_held_drew (S := (fun W => c02 w.heap.size cs wB W)) (by kernel_rfl) (hBx.out.next ((a03.refl _ _).drew)) (fun hHeld => ?_)
   refine tk 1 rfl ?_
   refine tkL 2 rfl (a02 (by rfl) 3 (.tmp 15) rfl w.heap.size 11 rfl _ (fun _ s => s.cell 11 (.int .i64 flags) (by rw [hcs.out]; rfl)) (fun w s => a0j w _ _ _ s)) ?_
   refine tk 3 rfl ?_
   refine b0a [14, 18, 19, 4] [0, 4, 5, 6] (fun L f W =>
    (L 0 = true → L 5 = false → ∃ p c, f 14 = .slice p (be 2 1500).length c ∧ OwnB wB W (f 14) (be 2 1500)) ∧
    (L 4 = true → L 5 = false → ∃ g, f 18 = .slice (some ⟨g, 0, none⟩) 2 2 ∧ a0b W (f 18) [2, UInt8.ofNat T]) ∧
    (L 5 = true → ∃ p c, f 19 = .slice p ((be 2 1500).length + 2) c ∧ OwnB wB W (f 19) (be 2 1500 ++ [2, UInt8.ofNat T])) ∧
    (L 6 = true → L 5 = true ∧ f 4 = f 19)) (by kernel_rfl) (by kernel_rfl) (by kernel_rfl) (by kernel_rfl) (Nat.le_of_ble_eq_true (by kernel_rfl)) hHeld
    (fun L f h => ⟨fun e => absurd (h 0 (by decide)) (by rw [e]; decide), fun e => absurd (h 4 (by decide)) (by rw [e]; decide), fun e => absurd (h 5 (by decide)) (by rw [e]; decide), fun e => absurd (h 6 (by decide)) (by rw [e]; decide)⟩) ?_ ?_
   ·refine a0p.cons (d := 14) rfl rfl (by decide) ?_ (a0p.cons (d := 18) rfl rfl (by decide) ?_ (a0p.cons (d := 19) rfl rfl (by decide) ?_ (a0p.cons (d := 4) rfl rfl (by decide) ?_ a0p.nil)))
    ·intro L f W hG hS hL hdep K hK
     simp only [a0q, List.foldl_cons, List.foldl_nil, Act.put, sA, sZ, sS] at hK ⊢
     rw [if_pos (by rfl)]
     go_simp
     refine (c0n wB _ [] 1500 (by omega) (by simp) _ (Hi (OwnB.nil wB W hS.k.size))).mono ?_
     rintro e W' ⟨p, c, rfl, hO, hg⟩
     have hk := hg.nil
     rw [List.nil_append, show ([] : List UInt8).length + (be 2 1500).length = (be 2 1500).length by simp] at hO
     rw [show ([] : List UInt8).length + (be 2 1500).length = (be 2 1500).length by simp]
     go_wp2_with fail
     refine hK.out _ _ (hS.next hk) ⟨fun _ _ => ⟨p, c, rfl, hO⟩, fun e8 e9 => ?_, fun e9 => ?_, fun e10 => hG.2.2.2 e10⟩
     ·obtain ⟨g, h1, h2⟩ := hG.2.1 e8 e9
      exact ⟨g, h1, h2.keep hk⟩
     ·obtain ⟨p, c, h1, h2⟩ := hG.2.2.1 e9
      exact ⟨p, c, h1, h2.keep hk (fun _ _ f => f)⟩
    ·intro L f W hG hS hL hdep K hK
     simp only [a0q, List.foldl_cons, List.foldl_nil, Act.put, sA, sZ, sS] at hK ⊢
     rw [if_pos (by rfl)]
     go_simp
     have hk : a03 (fun _ => False) W (W.alloc (.cells #[.int .u8 2, .int .u8 T] 5)) := (a03.refl _ _).alloc _
     refine hK.out _ _ (hS.next hk) ⟨fun e3 e9 => ?_, fun _ _ => ⟨W.heap.size, rfl, ?_⟩, fun e9 => ?_, fun e10 => hG.2.2.2 e10⟩
     ·obtain ⟨p, c, h1, h2⟩ := hG.1 e3 e9
      exact ⟨p, c, h1, h2.keep hk (fun _ _ f => f)⟩
     ·have := (OwnB.new W W (Nat.le_refl _) [2, UInt8.ofNat T] (n := 2) rfl (by unfold maxLen; omega)).bytes
      rw [List.map_cons, List.map_cons, List.map_nil, h0f T lT] at this
      exact this
     ·obtain ⟨p, c, h1, h2⟩ := hG.2.2.1 e9
      exact ⟨p, c, h1, h2.keep hk (fun _ _ f => f)⟩
    ·intro L f W hG hS hL hdep K hK
     simp only [a0q, List.foldl_cons, List.foldl_nil, Act.put, sA, sZ, sS] at hK ⊢
     rw [if_pos (by rfl)]
     have d3 := hdep ⟨0, .data⟩ (by simp) rfl (by decide)
     have d8 := hdep ⟨4, .data⟩ (by simp) rfl (by decide)
     obtain ⟨p7, c7, h7, hO⟩ := hG.1 d3 hL
     obtain ⟨g, h12, hB12⟩ := hG.2.1 d8 hL
     refine a0v (.tmp 14) (.tmp 18) 31 rfl i0 Try.underlying31 hi0 hz0 hz1 hz2 wB (f 14) (be 2 1500) rfl hO (f 18) rfl [2, UInt8.ofNat T] hB12 (by rw [a08]; simp) ?_
     intro p c W' hO' hG'
     exact hK.out _ _ (hS.grow hsz.out hG' hO.2.1) ⟨fun _ e => absurd (show true = false from e) (by decide), fun _ e => absurd (show true = false from e) (by decide), fun _ => ⟨p, c, rfl, hO'⟩, fun e10 => absurd ((hG.2.2.2 e10).1.symm.trans hL) (by decide)⟩
    ·intro L f W hG hS hL hdep K hK
     simp only [a0q, List.foldl_cons, List.foldl_nil, Act.put, sA, sZ, sS] at hK ⊢
     rw [if_pos (by rfl)]
     go_simp
     have d9 := hdep ⟨5, .data⟩ (by simp) rfl (by decide)
     exact hK.out _ _ hS ⟨fun e3 e9 => hG.1 e3 e9, fun e8 e9 => hG.2.1 e8 e9, fun e9 => hG.2.2.1 e9, fun _ => ⟨d9, rfl⟩⟩
   ·intro f W hG hS
    obtain ⟨p13, c13, h13, hO13⟩ := hG.2.2.1 rfl
    have h3 := (hG.2.2.2 rfl).2
    simp only [a0q, List.foldl_cons, List.foldl_nil, Act.put, sA, sZ, sS]
    rw [h13] at hO13 h3
    rw [h3]
    have hO' := Hi hO13; have hS' := Hi hS
    generalize f 14 = f7
    generalize f 18 = f12
    generalize f 19 = f13
    clear hG h13 h3 hO13 hS f
    refine NoPanic.normal ?_
    obtain ⟨X1, hX1⟩ : ∃ X, X = be 2 1500 ++ [2, UInt8.ofNat T] := ⟨_, rfl⟩
    have hX1l : X1.length = 4 := by rw [hX1, List.length_append, a08]; rfl
    rw [← hX1, show (be 2 1500).length + 2 = X1.length by rw [hX1l, a08]] at hO'
    rw [show (be 2 1500).length + 2 = X1.length by rw [hX1l, a08]]
    have hX1' := Hi hX1; have hX1l' := Hi hX1l
    clear hX1 hX1l
    go_upto_region 6 with fail
    refine wp_region_noPanic ?_
    refine wp_region_held_drew (S := (fun W => c02 w.heap.size cs wB W)) (by kernel_rfl) (hS'.out.next ((a03.refl _ _).drew)) (fun hHeld => ?_)
    refine tk 0 rfl ?_
    refine tk 1 rfl ?_
    refine tkL 2 rfl (a02 (by rfl) 22 (.tmp 21) rfl w.heap.size 12 rfl _ (fun _ s => s.cell 12 (.int .u32 seq) (by rw [hcs.out]; rfl)) (fun w s => b04 w _ _ _ s)) ?_
    refine tk 4 rfl ?_
    refine tkL 5 rfl (a02 (by rfl) 36 (.tmp 24) rfl w.heap.size 13 rfl _ (fun _ s => s.cell 13 (.slice ph heads.length ch) (by rw [hcs.out]; rfl)) (fun w s => q06 w _ _ _ s)) ?_
    have hO3 := Hi (hO'.out.keep ((a03.refl (fun _ => False) _).drew) (fun _ _ f => f))
    refine sL 3 rfl fun K hK => ?_
    go_simp
    (refine (e0y wB _ X1 seq hok.out.seq (by rw [hX1l'.out]; omega) _ hO3).mono ?_; rintro e W4 ⟨p4, d4, rfl, hO4, hg4⟩)
    go_wp2_with fail
    refine hK.out _ _ (hHeld.grow hsz.out hg4 hO3.out.2.1) (fun hHeld => ?_)
    clear hK K
    try simp only [Act.put, sA, sZ, sS]
    obtain ⟨X3, hX3⟩ : ∃ X, X = X1 ++ be 4 seq := ⟨_, rfl⟩
    have hX3l : X3.length = 8 := by rw [hX3, List.length_append, hX1l'.out, a08]
    rw [← hX3, show X1.length + (be 4 seq).length = X3.length by rw [hX3, List.length_append]] at hO4
    rw [show X1.length + (be 4 seq).length = X3.length by rw [hX3, List.length_append]]
    have hX3' := Hi hX3; have hX3l' := Hi hX3l; have hO4' := Hi hO4
    clear hX3 hX3l hO4 hg4 hO3
    refine sL 6 rfl fun K hK => ?_
    go_simp
    (refine (h0m wB _ X3 _ heads (Hi hok.out.heads) (by rw [hX3l'.out]; omega) _ hO4' (Hi (a0s.keep hin.out.h (hwB.out.trans hHeld.k))) (Hi (fun h0 j e => by have h1 := a0s.own_lt hin.out.h (fun x => by rw [b0r]; omega) h0 j e; exact ⟨fun e2 => by have := hO4'.out.2.1 j e2; have := hsz.out; omega, Nat.lt_of_lt_of_le h1 (hwB.out.trans hHeld.k).size⟩))).mono ?_; rintro e W5 ⟨p5, d5, rfl, hO5, hg5⟩)
    go_wp2_with fail
    refine hK.out _ _ (hHeld.grow hsz.out hg5 hO4'.out.2.1) (fun hHeld => ?_)
    clear hK K
    try simp only [Act.put, sA, sZ, sS]
    refine tk 7 rfl ?_
    refine tk 8 rfl ?_
    refine wpAnyH_done (by kernel_rfl) (NoPanic.normal ?_) _
    have hfin : X3 ++ c03 heads = B := by
     rw [← hq'.out, hX3'.out, hX1'.out, ← hTl.out]; rfl
    have hn : X3.length + (c03 heads).length = B.length := by rw [← hfin, List.length_append]
    rw [hfin, hn] at hO5
    rw [hn]
    have hO6 := Hi hO5; have hS6 := Hi hHeld
    clear hO5 hHeld hfin hn hg5
    go_wp2_with fail
    go_ret2
    exact ⟨⟨fun _ => ⟨p5, d5, rfl, hO6.out.older (by have := hsz.out; omega)⟩, fun e => (by rw [hzt.out] at e; cases e)⟩, hwB.out.trans hS6.out.k⟩
  ·rw [if_neg t2] at hq
   have d2 : (type == 2) = false := by rw [beq_eq_false_iff_ne]; exact t2
   by_cases t3 : type = 3
   ·subst t3
    rw [if_pos rfl] at hq
    have hq' := Hi hq
    have hzt : Hid (z = true) := Hi (by
     have h := hother.out
     unfold e0k at h
     simp at h
     rw [← hz.out]; have : lsas = [] := by simpa using h.2.2.2
     rw [this]; rfl)
    clear hq t1 d1 t2 d2
    go_enter Try.func16, Try.ntmps16
    go_upto_region 1 with fail
    generalize w.alloc (.cells cs.toArray 40) = wB at hBx hsz hwB ⊢
    have b0 := hBx.out.cell 0 _ l0.out
    have b14 := hBx.out.cell 14 (.slice pk keys.length ck) (by rw [hcs.out]; rfl)
    go_wp2_with fail
    refine (l0s _ keys (Hi hok.out.keys) (by omega) _ (Hi (a0s.keep hin.out.k hwB.out))).mono ?_
    rintro e w2 ⟨q, d, rfl, hO, hk⟩
    rw [hq'.out] at hO ⊢
    have hO' := Hi hO; have hk' := Hi hk
    clear hO hk
    go_wp2_with fail
    go_ret2
    exact ⟨⟨fun _ => ⟨q, d, rfl, hO'.out.older (by have := hsz.out; omega)⟩, fun e => (by rw [hzt.out] at e; cases e)⟩, hwB.out.trans hk'.out⟩
   ·rw [if_neg t3] at hq
    have d3 : (type == 3) = false := by rw [beq_eq_false_iff_ne]; exact t3
    by_cases t4 : type = 4
    ·subst t4
     rw [if_pos rfl] at hq
     have hq' := Hi hq
     clear hq t1 d1 t2 d2 t3 d3
     go_enter Try.func16, Try.ntmps16
     go_upto_region 1 with fail
     generalize w.alloc (.cells cs.toArray 40) = wB at hBx hsz hwB ⊢
     have b0 := hBx.out.cell 0 _ l0.out
     have b15 := hBx.out.cell 15 (.slice pl lsas.length cl) (by rw [hcs.out]; rfl)
     go_wp2_with fail
     refine (l0r _ lsas (Hi hok.out.lsas) (by omega) z _ (Hi (hin.out.l.keep hwB.out)) hz).mono ?_
     rintro e w2 ⟨⟨hyes, hno⟩, hk⟩
     have hk' := Hi hk
     clear hk
     cases z with
     | true =>
      obtain ⟨q, d, rfl, hO⟩ := hyes rfl
      rw [hq'.out] at hO ⊢
      have hO' := Hi hO
      clear hO hyes hno
      go_wp2_with fail
      go_ret2
      exact ⟨⟨fun _ => ⟨q, d, rfl, hO'.out.older (by have := hsz.out; omega)⟩, fun e => (by cases e)⟩, hwB.out.trans hk'.out⟩
     | false =>
      obtain rfl := hno rfl
      clear hyes hno
      go_wp2_with fail
      go_ret2
      exact ⟨⟨fun e => (by cases e), fun _ => rfl⟩, hwB.out.trans hk'.out⟩
    ·rw [if_neg t4] at hq
     have d4 : (type == 4) = false := by rw [beq_eq_false_iff_ne]; exact t4
     have hq' := Hi hq
     have hzt : Hid (z = true) := Hi (by
      have h := hother.out
      unfold e0k at h
      simp [t4] at h
      rw [← hz.out]; have : lsas = [] := by simpa using h.2.2.2.2
      rw [this]; rfl)
     clear hq t1 t2 t3 t4
     go_enter Try.func16, Try.ntmps16
     go_upto_region 1 with fail
     generalize w.alloc (.cells cs.toArray 40) = wB at hBx hsz hwB ⊢
     have b0 := hBx.out.cell 0 _ l0.out
     have b13 := hBx.out.cell 13 (.slice ph heads.length ch) (by rw [hcs.out]; rfl)
     go_wp2_with fail
     refine (h0m wB _ [] _ heads (Hi hok.out.heads) (by simp; omega) _ (Hi (OwnB.nil wB wB (Nat.le_refl _))) (Hi (a0s.keep hin.out.h hwB.out)) (Hi (fun h0 j e => by have h1 := a0s.own_lt hin.out.h (fun x => by rw [b0r]; omega) h0 j e; exact ⟨fun e2 => (by simp [Value.ownBlock] at e2), Nat.lt_of_lt_of_le h1 hwB.out.size⟩))).mono ?_
     rintro e w2 ⟨q, d, rfl, hO, hg⟩
     rw [List.nil_append, hq'.out, show ([] : List UInt8).length + B.length = B.length by simp] at hO
     rw [hq'.out, show ([] : List UInt8).length + B.length = B.length by simp]
     have hk' := Hi hg.nil
     have hO' := Hi hO
     clear hO hg
     go_wp2_with fail
     go_ret2
     exact ⟨⟨fun _ => ⟨q, d, rfl, hO'.out.older (by have := hsz.out; omega)⟩, fun e => (by rw [hzt.out] at e; cases e)⟩, hwB.out.trans hk'.out⟩
end Go.Proofs.Ytmggbljkehclpaa
