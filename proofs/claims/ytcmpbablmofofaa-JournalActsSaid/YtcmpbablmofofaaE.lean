/- The disk's calls: Read, Write, Flush, Crash, New. -/
import Derived.Test.YtcmpbablmofofaaA
import Derived.Test.YtcmpbablmofofaaD
namespace Go.Proofs.Ytcmpbablmofofaa
open Go.RowKit

theorem arrInfo : (Try.prog.info? 87).map (·.size) = some 64 := by kernel_rfl
theorem intInfo : (Try.prog.info? 3).map (fun i => (i.zero, i.size, i.bytes)) = some (some (.int .i64 0), 1, 8) := by kernel_rfl
theorem has_yes (b n : Nat) (p : Option Addr) (i : Int) (w : World) (h1 : 0 ≤ i) (h2 : i < n) (hc : w.cell? ⟨b, 0, none⟩ = some (.slice p n n)) :
    Calls Try.prog 46 #[.pointer (some ⟨b, 0, none⟩), .int .i64 i] w fun e w' => e = .returned (.bool true) ∧ w = w' :=
  (has_any b n p i w hc).mono fun e w' ⟨he, hw⟩ => ⟨by rw [he, decide_eq_true ⟨h1, h2⟩], hw⟩
theorem has_no (b n : Nat) (p : Option Addr) (i : Int) (w : World) (h : ¬ (0 ≤ i ∧ i < n)) (hc : w.cell? ⟨b, 0, none⟩ = some (.slice p n n)) :
    Calls Try.prog 46 #[.pointer (some ⟨b, 0, none⟩), .int .i64 i] w fun e w' => e = .returned (.bool false) ∧ w = w' :=
  (has_any b n p i w hc).mono fun e w' ⟨he, hw⟩ => ⟨by rw [he, decide_eq_false h], hw⟩

/-- copy, the world behind it under a name -/
theorem wpList_copy_named {P : Program} {w : World} {ops : Array Oper} {rest : List Oper} {o : Oper} {a : Act} {Q : Exit → Act → World → Prop} (hgd : o.guard = none) (d s : Operand) (dT sT : TypeId)
    (ho : o.op = .call { callee := .builtin .copy, args := #[d, s], argTypes := #[dT, sT] }) (elem : TypeId) (hu : P.underlying dT = some (.slice elem)) (hsz : (P.info? elem).map (·.size) = some 1)
    (g off dLen dCap : Nat) (ad : Addr) (sLen sCap : Nat) (hd : a.eval d = .slice (some ⟨g, off, none⟩) dLen dCap) (hs : a.eval s = .slice (some ad) sLen sCap)
    (cs : List Value) (hn : cs.length = Nat.min sLen dLen)
    (hsrc : ∀ j v, cs[j]? = some v → w.cell? (ad.add j) = some v) (hth : w.there g off cs.length) (h1 : ∀ v ∈ cs, v.oneCell' = true)
    (h : ∀ w1, Hid (w1 = w.setCells g off cs) → wpList P ops Q rest (a.put o.dst (goInt cs.length)) w1) : wpList P ops Q (o :: rest) a w :=
  wpList_copy_cells hgd d s dT sT ho elem hu hsz g off dLen dCap ad sLen sCap hd hs cs hn hsrc hth h1 (h _ rfl)

/-- store of a whole array, the world behind it under a name -/
theorem wpList_store_named {P : Program} {ops : Array Oper} {rest : List Oper} {op : Oper} {a : Act} {w : World} {Q : Exit → Act → World → Prop} (hgd : op.guard = none) (ty : TypeId) (x y : Operand) (ho : op.op = .store ty x y)
    (b o : Nat) (cells : Array Value) (hx : a.eval x = .pointer (some ⟨b, o, none⟩)) (hy : a.eval y = .agg cells)
    (ht : w.there b o cells.size) (hi : (P.info? ty).map (·.size) = some cells.size) (h1 : cells.all (·.oneCell') = true)
    (h : ∀ w1, Hid (w1 = w.setCells b o cells.toList) → wpList P ops Q rest (a.put op.dst undef) w1) : wpList P ops Q (op :: rest) a w :=
  wpList_store_mid hgd ty x y ho b o cells hx hy ht hi h1 (h _ rfl)

def Wrote (b bs n i : Nat) (st la : Nat → List UInt8) (order : List Nat) (x : List UInt8) (l : Int) (v : Value) (w : World) (e : Ending) (w' : World) : Prop :=
  e = .returned (.int .i64 0) ∧ ∃ v', DiskMem w' ⟨b, bs, n, st, upd la i x, if i ∈ order then order else order ++ [i], true, l⟩ v' ∧ Keeps (foot ⟨b, bs, n, st, la, order, true, l⟩ v) w w' ∧ (∀ k, v'.ownBlock = some k → v.ownBlock = some k ∨ w.heap.size ≤ k)

theorem old_secs {b bs n i : Nat} {st la : Nat → List UInt8} {order : List Nat} {x : List UInt8} {l : Int} {v : Value} {w w1 : World} (h : DiskMem w ⟨b, bs, n, st, la, order, true, l⟩ v)
    (hi : i < n) (hx : x.length = 64) (hw : Hid (w1 = w.setCells bs (i * 129 + 64) (x.map bv))) : Secs w1 bs n st (upd la i x) (fun i => decide (i ∈ order)) := by
  rw [hw.out]; exact h.secs.putLa i hi x hx
theorem old_wa {b bs n i : Nat} {st la : Nat → List UInt8} {order : List Nat} {x : List UInt8} {l : Int} {v : Value} {w w1 : World} (h : DiskMem w ⟨b, bs, n, st, la, order, true, l⟩ v)
    (hi : i < n) (hm : i ∈ order) (hx : x.length = 64) (hw : Hid (w1 = w.setCells bs (i * 129 + 64) (x.map bv))) : w1.cell? ⟨bs, i * 129 + 128, none⟩ = some (.bool true) := by
  have := (old_secs h hi hx hw).rwa i hi; simpa [hm] using this
theorem old_wrote {b bs n i : Nat} {st la : Nat → List UInt8} {order : List Nat} {x : List UInt8} {l : Int} {v : Value} {w w1 : World} (h : Hid (DiskMem w ⟨b, bs, n, st, la, order, true, l⟩ v))
    (hi : i < n) (hm : i ∈ order) (hx : x.length = 64) (hw : Hid (w1 = w.setCells bs (i * 129 + 64) (x.map bv))) : Wrote b bs n i st la order x l v w (.returned (.int .i64 0)) w1 := by
  have h := h.out
  have hS := old_secs h hi hx hw
  have hk : Keeps (fun k => k = bs) w w1 := by rw [hw.out]; exact Keeps.setCells (F := fun k => k = bs) (.inl rfl) _ _ _ (Keeps.refl _ _)
  refine ⟨rfl, v, ?_, hk.mono (fun k e => .inl (.inr (.inl e))), fun k hk => .inl hk⟩
  rw [if_pos hm]
  exact { h with
    hd := by have := hk.block b (lt_of_block h.hd) h.ne; rw [this]; exact h.hd
    secs := hS
    ow := hk.ownsRow h.ow (fun k hk e => h.vs (by rw [hk, e]))
    sync := fun k hk hn => by show upd la i x k = st k; rw [upd_other _ _ _ _ (fun e => hn (by rw [e]; exact hm))]; exact h.sync k hk hn }

set_option maxRecDepth 100000 in
set_option maxHeartbeats 1000000 in
theorem put_old (b bs n i : Nat) (st la : Nat → List UInt8) (order : List Nat) (x : List UInt8) (l : Int) (v : Value) (ad : Addr) (c : Nat) (w0 w : World) (h00 : w0.cell? ⟨b, 0, none⟩ = some (.slice (some ⟨bs, 0, none⟩) n n)) (h02 : w0.cell? ⟨b, 2, none⟩ = some (.bool true))
    (hf : Hid (Calls Try.prog 47 #[.pointer (some ⟨b, 0, none⟩)] w0 fun e w' => e = .returned (.bool false) ∧ w = w')) (h : Hid (DiskMem w ⟨b, bs, n, st, la, order, true, l⟩ v)) (hi : i < n) (_hn : n ≤ 1024) (hm : i ∈ order) (hx : x.length = 64) (hc0 : w.cell? ⟨b, 0, none⟩ = some (.slice (some ⟨bs, 0, none⟩) n n))
    (hsrc : Hid (∀ j u, (x.map bv)[j]? = some u → w.cell? (ad.add j) = some u)) :
    Calls Try.prog 14 #[.pointer (some ⟨b, 0, none⟩), .int .i64 i, .slice (some ad) 64 c] w0 (Wrote b bs n i st la order x l v w) := by
  go_enter Try.func14, Try.ntmps14
  go_wp2_with (first | (go_at_call 46; refine (has_yes b n _ i _ (by omega) (by omega) h00).mono ?_; rintro e w' ⟨rfl, rfl⟩) | (go_at_call 47; refine hf.out.mono ?_; rintro e w' ⟨rfl, rfl⟩) | ((with_reducible refine at_slot 41 ?_); refine wpList_copy_named rfl (.tmp 39) (.tmp 40) 27 27 rfl 5 Try.underlying27 u8Info bs (i * 129 + 64) 64 64 ad 64 c ?c1 rfl (x.map bv) ?c2 hsrc.out ?c3 (bv_one x) ?_; rotate_right; intro w1 hw1; have hwa : w1.cell? ⟨bs, i * 129 + 128, none⟩ = some (.bool true) := old_wa h.out hi hm hx hw1))
  case c1 => rfl
  case c2 => simp [hx]
  case c3 => exact h.out.secs.blk.there _ _ (by simp [hx]; omega)
  go_ret
  exact old_wrote h hi hm hx hw1

theorem new_keep {bs i : Nat} {x : List UInt8} {w w1 : World} (hw : Hid (w1 = w.setCells bs (i * 129 + 64) (x.map bv))) : Keeps (fun k => k = bs) w w1 := by
  rw [hw.out]; exact Keeps.setCells (F := fun k => k = bs) (.inl rfl) _ _ _ (Keeps.refl _ _)
theorem new_wa {b bs n i : Nat} {st la : Nat → List UInt8} {order : List Nat} {x : List UInt8} {l : Int} {v : Value} {w w1 : World} (h : DiskMem w ⟨b, bs, n, st, la, order, true, l⟩ v)
    (hi : i < n) (hm : i ∉ order) (hx : x.length = 64) (hw : Hid (w1 = w.setCells bs (i * 129 + 64) (x.map bv))) :
    w1.cell? ⟨bs, i * 129 + 128, none⟩ = some (.bool false) ∧ w1.frozen? ⟨bs, i * 129 + 128, none⟩ = false ∧ w1.cell? ⟨b, 1, none⟩ = some v ∧ w1.frozen? ⟨b, 1, none⟩ = false := by
  have hS := old_secs h hi hx hw
  have hk := new_keep hw
  refine ⟨?_, hS.blk.frozen _, ?_, ?_⟩
  · have := hS.rwa i hi; simpa [hm] using this
  · rw [hk.cell (p := ⟨b, 1, none⟩) (lt_of_block h.hd) h.ne]; exact h.c1
  · rw [hk.frozen (p := ⟨b, 1, none⟩) (lt_of_block h.hd) h.ne]; exact h.fr 1
theorem new_own {b bs n i : Nat} {st la : Nat → List UInt8} {order : List Nat} {x : List UInt8} {l : Int} {v : Value} {w w1 : World} (h : DiskMem w ⟨b, bs, n, st, la, order, true, l⟩ v)
    (hw : Hid (w1 = w.setCells bs (i * 129 + 64) (x.map bv))) (ob : Obj) (u : Value) (o : Nat) :
    ((w1.setCell ⟨bs, o, none⟩ u).alloc ob).ownsRow 0 3 1 v order.length (order.map iv) :=
  (((new_keep hw).setCell (p := ⟨bs, o, none⟩) (.inl rfl) u).alloc ob).ownsRow h.ow (fun k hk e => h.vs (by rw [hk, e]))
theorem new_c1 {b bs n i : Nat} {st la : Nat → List UInt8} {order : List Nat} {x : List UInt8} {l : Int} {v : Value} {w w1 w2 : World} {o : Nat} {u : Value} {ob : Obj} (h : DiskMem w ⟨b, bs, n, st, la, order, true, l⟩ v)
    (hw : Hid (w1 = w.setCells bs (i * 129 + 64) (x.map bv))) (hg : ((w1.setCell ⟨bs, o, none⟩ u).alloc ob).grownBy w2 v.ownBlock) :
    w2.cell? ⟨b, 1, none⟩ = some v ∧ w2.frozen? ⟨b, 1, none⟩ = false := by
  have hk : Keeps (fun k => k = bs ∨ v.ownBlock = some k) w w2 := ((((new_keep hw).setCell (p := ⟨bs, o, none⟩) (.inl rfl) u).alloc ob).mono (fun k e => .inl (.inl e))).grown hg (fun k e => .inl (.inr e))
  have hn : ¬ (b = bs ∨ v.ownBlock = some b) := fun e => e.elim h.ne h.vb
  exact ⟨by rw [hk.cell (p := ⟨b, 1, none⟩) (lt_of_block h.hd) hn]; exact h.c1, by rw [hk.frozen (p := ⟨b, 1, none⟩) (lt_of_block h.hd) hn]; exact h.fr 1⟩
theorem new_wrote {b bs n i : Nat} {st la : Nat → List UInt8} {order : List Nat} {x : List UInt8} {l : Int} {v v' : Value} {w w1 w2 : World} {ob : Obj} (h : Hid (DiskMem w ⟨b, bs, n, st, la, order, true, l⟩ v))
    (hi : i < n) (hm : i ∉ order) (hx : x.length = 64) (hw : Hid (w1 = w.setCells bs (i * 129 + 64) (x.map bv)))
    (hg : ((w1.setCell ⟨bs, i * 129 + 128, none⟩ (.bool true)).alloc ob).grownBy w2 v.ownBlock) (ho : w2.ownsRow 0 3 1 v' (order.length + 1) (order.map iv ++ [.int .i64 i]))
    (hs : Hid (∀ k, v'.ownBlock = some k → v.ownBlock = some k ∨ ((w1.setCell ⟨bs, i * 129 + 128, none⟩ (.bool true)).alloc ob).heap.size ≤ k)) :
    Wrote b bs n i st la order x l v w (.returned (.int .i64 0)) (w2.setCell ⟨b, 1, none⟩ v') := by
  have h := h.out
  have hs := hs.out
  have hS1 := (old_secs h hi hx hw).putWa i hi true
  have hk1 := (((new_keep hw).setCell (p := ⟨bs, i * 129 + 128, none⟩) (.inl rfl) (.bool true)).alloc ob)
  have hk2 : Keeps (fun k => k = bs ∨ v.ownBlock = some k) w w2 := (hk1.mono (fun k e => .inl (.inl e))).grown hg (fun k e => .inl (.inr e))
  have hk3 : Keeps (foot ⟨b, bs, n, st, la, order, true, l⟩ v) w (w2.setCell ⟨b, 1, none⟩ v') :=
    (hk2.mono (fun k e => .inl (.inr e))).setCell (p := ⟨b, 1, none⟩) (.inl (.inl rfl)) v'
  have hsz : w.heap.size ≤ ((w1.setCell ⟨bs, i * 129 + 128, none⟩ (.bool true)).alloc ob).heap.size := hk1.size
  have hsep : ∀ k, v'.ownBlock = some k → v.ownBlock = some k ∨ w.heap.size ≤ k := fun k hk => (hs k hk).imp id (fun e => by omega)
  have hb := h.lt b (.inl rfl)
  have hbs := h.lt bs (.inr (.inl rfl))
  have vb' : v'.ownBlock ≠ some b := fun e => by rcases hsep b e with e | e; exact h.vb e; omega
  have vs' : v'.ownBlock ≠ some bs := fun e => by rcases hsep bs e with e | e; exact h.vs e; omega
  have hS2 : Secs w2 bs n st (upd la i x) (upd (fun i => decide (i ∈ order)) i true) :=
    (hS1.keep ((Keeps.refl (fun k => v.ownBlock = some k) _).alloc ob) h.vs).keep (Keeps.grown (Keeps.refl (fun k => v.ownBlock = some k) _) hg (fun k e => .inl e)) h.vs
  have hk4 : Keeps (fun k => k = b) w2 (w2.setCell ⟨b, 1, none⟩ v') := (Keeps.refl (fun k => k = b) _).setCell (p := ⟨b, 1, none⟩) (.inl rfl) v'
  have hd2 : w2.heap[b]? = some (.cells #[.slice (some ⟨bs, 0, none⟩) n n, v, .bool true, .int .i64 l] 84 (0, 0)) := by
    rw [hk2.block b hb (fun e => e.elim h.ne h.vb)]; exact h.hd
  refine ⟨rfl, v', ?_, hk3, hsep⟩
  rw [if_neg hm]
  refine ⟨h.n1, h.n2, h.ne, by simpa using heap_put hd2 1 v', ?_, ?_, vb', vs', ?_, ?_, h.l1, h.l2, ?_⟩
  · have := hS2.keep hk4 (fun e => h.ne e.symm)
    refine cast (congrArg (Secs _ bs n st (upd la i x)) ?_) this
    funext k; by_cases e : k = i
    · subst e; simp [upd]
    · simp [upd, e]
  · have := hk4.ownsRow ho (fun k hk e => vb' (by rw [hk, e]))
    simpa [iv] using this
  · intro k hk
    rcases List.mem_append.1 hk with hk | hk
    · exact h.olt k hk
    · simp at hk; subst hk; exact hi
  · exact List.nodup_append.2 ⟨h.nodup, by simp, by simp; exact fun a ha e => hm (e ▸ ha)⟩
  · intro k hk hn
    simp only [List.mem_append, List.mem_singleton, not_or] at hn
    show upd la i x k = st k
    rw [upd_other _ _ _ _ hn.2]; exact h.sync k hk hn.1

set_option maxRecDepth 100000 in
set_option maxHeartbeats 1000000 in
theorem put_new (b bs n i : Nat) (st la : Nat → List UInt8) (order : List Nat) (x : List UInt8) (l : Int) (v : Value) (ad : Addr) (c : Nat) (w0 w : World) (h00 : w0.cell? ⟨b, 0, none⟩ = some (.slice (some ⟨bs, 0, none⟩) n n)) (h02 : w0.cell? ⟨b, 2, none⟩ = some (.bool true))
    (hf : Hid (Calls Try.prog 47 #[.pointer (some ⟨b, 0, none⟩)] w0 fun e w' => e = .returned (.bool false) ∧ w = w')) (h : Hid (DiskMem w ⟨b, bs, n, st, la, order, true, l⟩ v)) (hi : i < n) (_hn : n ≤ 1024) (hm : Hid (i ∉ order)) (hx : x.length = 64) (hc0 : w.cell? ⟨b, 0, none⟩ = some (.slice (some ⟨bs, 0, none⟩) n n)) (hne : ¬ b = bs) (hne' : ¬ bs = b) (hol : order.length ≤ 1024)
    (hsrc : Hid (∀ j u, (x.map bv)[j]? = some u → w.cell? (ad.add j) = some u)) :
    Calls Try.prog 14 #[.pointer (some ⟨b, 0, none⟩), .int .i64 i, .slice (some ad) 64 c] w0 (Wrote b bs n i st la order x l v w) := by
  obtain ⟨i0, hi0, hz0, hz1, hz2⟩ := info_parts intInfo
  go_enter Try.func14, Try.ntmps14
  go_wp2_with (first | (go_at_call 46; refine (has_yes b n _ i _ (by omega) (by omega) h00).mono ?_; rintro e w' ⟨rfl, rfl⟩) | (go_at_call 47; refine hf.out.mono ?_; rintro e w' ⟨rfl, rfl⟩) | ((with_reducible refine at_slot 41 ?_); refine wpList_copy_named rfl (.tmp 39) (.tmp 40) 27 27 rfl 5 Try.underlying27 u8Info bs (i * 129 + 64) 64 64 ad 64 c ?c1 rfl (x.map bv) ?c2 hsrc.out ?c3 (bv_one x) ?_; rotate_right; intro w1 hw1; obtain ⟨hwa, hwf, h1c, h1f⟩ := new_wa h.out hi hm.out hx hw1) | ((with_reducible refine at_slot 57 ?_); refine wpList_append_sep rfl (.tmp 54) (.tmp 56) 48 rfl 3 i0 (.int .i64 0) 1 8 Try.underlying48 hi0 hz0 hz1 hz2 rfl (by decide) v order.length (order.map iv) rfl (new_own h.out hw1 _ _ _) ⟨w1.heap.size, 0, none⟩ 1 1 [.int .i64 i] rfl rfl (cells_one (by simp) _ _) ?d1 ?d2 ?d3 ?_; rotate_right; intro p' c' w2 ho2 hg2 hs3; obtain ⟨h2c, h2f⟩ := new_c1 h.out hw1 hg2))
  case c1 => rfl
  case c2 => simp [hx]
  case c3 => exact h.out.secs.blk.there _ _ (by simp [hx]; omega)
  case d1 => simp; rfl
  case d2 => unfold maxLen; omega
  case d3 => omega
  go_ret
  exact new_wrote h hi hm.out hx hw1 hg2 ho2 hs3
end Go.Proofs.Ytcmpbablmofofaa
