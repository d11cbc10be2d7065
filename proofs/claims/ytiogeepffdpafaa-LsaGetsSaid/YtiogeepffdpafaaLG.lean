/- lsa.layLinks, tell, walked. -/
import Derived.Test.YtiogeepffdpafaaLF
namespace Go.Proofs.Ytiogeepffdpafaa
open Go.RowKit

def linkB (l : LinkD) : List UInt8 := be 4 l.id ++ be 4 l.data ++ [UInt8.ofNat (lo8 l.type), 0] ++ be 2 (lo16 l.cost)
theorem linkB_len (l : LinkD) : (linkB l).length = 12 := by unfold linkB; simp [be_len]
def linksB (ls : List LinkD) : List UInt8 := ls.flatMap linkB
theorem linksB_len (ls : List LinkD) : (linksB ls).length = 12 * ls.length := by
  induction ls with
  | nil => rfl
  | cons n ns ih => unfold linksB at *; rw [List.flatMap_cons, List.length_append, ih, linkB_len, List.length_cons]; omega
theorem linksB_snoc (ls : List LinkD) (l : LinkD) : linksB (ls ++ [l]) = linksB ls ++ linkB l := by unfold linksB; simp
theorem link_one (a b c d : Int) : (#[.int .u32 a, .int .u32 b, .int .i64 c, .int .i64 d] : Array Value).all (·.oneCell') = true := by simp; exact ⟨rfl, rfl, rfl, rfl⟩
/-- an append, whatever it grows: the row's own block is another one than B -/
theorem Grown.ne {W W' : World} {v : Value} {p : Option Addr} {n c B : Nat} (g : Grown W v p n c W') (h : ∀ k, v.ownBlock = some k → k ≠ B) (hB : B < W.heap.size) : ∀ k, (Value.slice p n c).ownBlock = some k → k ≠ B := fun k e => by
  rcases g.s k e with e | e
  · exact h k e
  · omega
theorem Grown.range {W W' : World} {v : Value} {p : Option Addr} {n c B o : Nat} {cs : List Value} (g : Grown W v p n c W') (h : ∀ k, v.ownBlock = some k → k ≠ B) (hr : W.rangeAt B o cs) : W'.rangeAt B o cs :=
  g.k.rangeAt hr (fun e => h B e rfl)
theorem OwnB.keeps {w0 W W' : World} {v : Value} {xs : List UInt8} (h : OwnB w0 W v xs) (k : Keeps (fun _ => False) w0 W) {p : Option Addr} {n c : Nat} (g : Grown W v p n c W') : Keeps (fun _ => False) w0 W' :=
  k.trans' g.k (fun i e => .inr (h.2.1 i e))
theorem hXv {w0 W : World} {q : Option Addr} {n d : Nat} {X : List UInt8} (_ : X.length = n) (h : Hid (OwnB w0 W (.slice q n d) X)) : Hid (OwnB w0 W (.slice q n d) X) := h
/-- lays X ++ l as a new name -/
theorem new_name (X l : List UInt8) (n m : Nat) (hX : X.length = n) (hl : l.length = m) : ∃ Y, Y = X ++ l ∧ Y.length = n + m := ⟨X ++ l, rfl, by rw [List.length_append, hX, hl]⟩

set_option maxRecDepth 100000 in
set_option maxHeartbeats 4000000 in
theorem lsLayLinks_any (sl : Value) (ls : List LinkD) (hl : ls.length ≤ 1000) (hok : Hid (∀ l ∈ ls, l.ok)) (w : World) (h : Hid (LinksAt w sl ls)) :
    Calls Try.prog 96 #[sl] w (NewOwn (be 4 ls.length ++ linksB ls) w) := by
  obtain ⟨i0, hi0, hz0, hz1, hz2⟩ := info_parts u8InfoAll
  obtain ⟨p, c, rfl, -, -, hb⟩ := h.out
  have hb' := Lib.hid hb; clear hb h
  go_enter Try.func96, Try.ntmps96
  go_wp2_with fail
  refine (wiLay32_any w _ [] ls.length (by omega) (by simp) _ (Lib.hid (OwnB.nil w w (Nat.le_refl _)))).mono ?_
  rintro e w1 ⟨p1, c1, rfl, hO, hg⟩
  rw [List.nil_append, show ([] : List UInt8).length + (be 4 ls.length).length = 4 by simp [be_len]] at hO
  rw [show ([] : List UInt8).length + (be 4 ls.length).length = 4 by simp [be_len]]
  have hO1 := Lib.hid hO; have hk1 := Lib.hid hg.nil
  clear hO hg
  go_wp2_with fail
  go_loopw [3, 12] (fun bw iv wr => ∃ k : Nat, k ≤ ls.length ∧ iv = .int .i64 k ∧ Hid (∃ q d, bw = .slice q (4 + 12 * k) d ∧ OwnB w wr bw (be 4 ls.length ++ linksB (ls.take k)) ∧ Keeps (fun _ => False) w wr)) (fun _ iv _ => ls.length - (intOf iv).toNat)
  case atStart => exact ⟨0, by omega, rfl, Lib.hid ⟨p1, c1, rfl, by simpa [linksB] using hO1.out, hk1.out⟩⟩
  case round =>
    obtain ⟨k, hk, rfl, hrow⟩ := hrel
    obtain ⟨q, d, rfl, hO, hkw⟩ := hrow.out
    have hO' := Lib.hid hO; have hkw' := Lib.hid hkw
    clear hO hkw hrow
    obtain ⟨X, hX⟩ : ∃ X, X = be 4 ls.length ++ linksB (ls.take k) := ⟨_, rfl⟩
    have hXl : X.length = 4 + 12 * k := by rw [hX, List.length_append, linksB_len, be_len, List.length_take]; omega
    rw [← hX] at hO'
    by_cases hlk : k < ls.length
    · obtain ⟨g, o, rfl, hrows⟩ := hb'.out (by omega)
      obtain ⟨l, hll⟩ : ∃ l, ls[k]? = some l := ⟨_, List.getElem?_eq_getElem hlk⟩
      have hrow : Hid (wr.rangeAt g (o + k * 4) [.int .u32 l.id, .int .u32 l.data, .int .i64 l.type, .int .i64 l.cost]) := Lib.hid (hkw'.out.rangeAt (hrows k l hll) id)
      have hlok := hok.out l (List.mem_of_getElem? hll)
      have hsn := linksB_snoc (ls.take k) l
      have htk : ls.take (k + 1) = ls.take k ++ [l] := by
        rw [List.take_succ_eq_append_getElem hlk]
        rw [List.getElem?_eq_getElem hlk] at hll; injection hll with hll; rw [hll]
      rw [← htk] at hsn
      have hnext : Hid (be 4 ls.length ++ linksB (ls.take (k + 1)) = X ++ linkB l) := Lib.hid (by rw [hsn, hX, List.append_assoc])
      have hXl' := Lib.hid hXl
      obtain ⟨l1, l2, l3, l4⟩ := hlok
      clear hsn htk hX hll hrows hXl
      obtain ⟨lid, ldata, ltype, lcost⟩ := l
      simp only at l1 l2 l3 l4 hrow
      obtain ⟨T, hT, lT, hTl⟩ := u8_nat ltype
      obtain ⟨C, hC, lC, hCl⟩ := u16_nat lcost
      have hBx : Hid ((wr.alloc (.cells #[.int .u32 lid, .int .u32 ldata, .int .i64 ltype, .int .i64 lcost] 125)).rangeAt wr.heap.size 0 [.int .u32 lid, .int .u32 ldata, .int .i64 ltype, .int .i64 lcost]) := Lib.hid (new_rangeb wr _ 125)
      have hOb := Lib.hid (hO'.out.keep ((Keeps.refl (fun _ => False) _).alloc (.cells #[.int .u32 lid, .int .u32 ldata, .int .i64 ltype, .int .i64 lcost] 125)) (fun _ _ f => f))
      have hkb := Lib.hid (hkw'.out.alloc (.cells #[.int .u32 lid, .int .u32 ldata, .int .i64 ltype, .int .i64 lcost] 125))
      have hneb : Hid (∀ j, (Value.slice q (4 + 12 * k) d).ownBlock = some j → j ≠ wr.heap.size) := Lib.hid (fun j e => by
        have := lt_own hO'.out j e; omega)
      have hszb : Hid (wr.heap.size < (wr.alloc (.cells #[.int .u32 lid, .int .u32 ldata, .int .i64 ltype, .int .i64 lcost] 125)).heap.size) := Lib.hid (by simp)
      go_upto_region 5 with (first | ((with_reducible refine at_slot 15 ?_); refine wpList_load_mid rfl 125 (.tmp 14) rfl g (o + k * 4) rfl _ _ hrow.out Try.underlying125 rfl linkInfo ?_) | ((with_reducible refine at_store 5 ?_); refine wpList_store_new rfl 125 (.tmp 5) (.tmp 15) rfl _ #[.int .u32 lid, .int .u32 ldata, .int .i64 ltype, .int .i64 lcost] rfl rfl linkInfo rfl (link_one _ _ _ _) ?_))
      generalize wr.alloc (.cells #[.int .u32 lid, .int .u32 ldata, .int .i64 ltype, .int .i64 lcost] 125) = wb at hBx hOb hkb hszb ⊢
      have b0 := rangeAt_cell hBx.out 0 (.int .u32 lid) rfl
      have b1 := rangeAt_cell hBx.out 1 (.int .u32 ldata) rfl
      go_wp2_with fail
      have hN : Hid (NumsAt (wb.alloc (.cells #[.int .u32 lid, .int .u32 ldata] 22)) (.slice (some ⟨wb.heap.size, 0, none⟩) 2 2) [lid, ldata]) := Lib.hid (NumsAt.new wb [lid, ldata] rfl)
      have hOc := Lib.hid (hOb.out.keep ((Keeps.refl (fun _ => False) _).alloc (.cells #[.int .u32 lid, .int .u32 ldata] 22)) (fun _ _ f => f))
      have hkc := Lib.hid (hkb.out.alloc (.cells #[.int .u32 lid, .int .u32 ldata] 22))
      have hBc := Lib.hid (((Keeps.refl (fun _ => False) wb).alloc (.cells #[.int .u32 lid, .int .u32 ldata] 22)).rangeAt hBx.out id)
      have hszc : Hid (wr.heap.size < (wb.alloc (.cells #[.int .u32 lid, .int .u32 ldata] 22)).heap.size) := Lib.hid (by have := hszb.out; simp; omega)
      refine (wiLayAll_any w _ X _ [lid, ldata] (Lib.hid (by intro n hn; simp at hn; rcases hn with rfl | rfl <;> assumption)) (by rw [hXl'.out]; simp; omega) _ (hXv hXl'.out hOc) hN (Lib.hid (fun _ j e => by
        simp only [Value.ownBlock, Option.some.injEq] at e
        subst e
        refine ⟨fun e => ?_, by simp⟩
        have := lt_own hOb.out _ e; omega))).mono ?_
      rintro e w2 ⟨q2, d2, rfl, hO2, hg2⟩
      obtain ⟨X2, hX2, hX2l⟩ := new_name X (bes [lid, ldata]) (4 + 12 * k) 8 hXl'.out (by rw [bes_len]; rfl)
      have hn2 : X.length + (bes [lid, ldata]).length = 4 + 12 * k + 8 := by rw [hXl'.out, bes_len]; rfl
      rw [← hX2, hn2] at hO2
      rw [hn2] at hg2 ⊢
      have hk2 := Lib.hid (hOc.out.keeps hkc.out hg2)
      have hne2 := Lib.hid (hg2.ne hneb.out hszc.out)
      have hB2 := Lib.hid (hg2.range hneb.out hBc.out)
      have hO2' := Lib.hid hO2; have hX2' := Lib.hid hX2; have hX2l' := Lib.hid hX2l
      have hsz2 : Hid (wr.heap.size < w2.heap.size) := Lib.hid (Nat.lt_of_lt_of_le hszc.out hg2.k.size)
      clear hO2 hX2 hX2l hg2 hn2 hN hOc hkc hBc hszc hneb b0 b1
      go_upto_region 6 with fail
      refine wp_region_noPanic ?_
      refine wp_region_held_drew (S := (fun W => W.rangeAt wr.heap.size 0 [.int .u32 lid, .int .u32 ldata, .int .i64 ltype, .int .i64 lcost])) (by kernel_rfl) ((((Keeps.refl (fun _ => False) _).drew).rangeAt hB2.out id)) (fun hHeld => ?_)
      refine takeL 0 (v := ?_) rfl (by kernel_rfl) (by kernel_rfl) (by kernel_rfl) (fun _ _ _ h => h) (Or.inl ⟨by rfl, ?_⟩) (by assumption) ?_
      rotate_left
      · (intro wS hSw; go_simp; try with_reducible rfl)
      try simp only [Act.put, List.setIfInBounds_toArray, List.set_cons_zero, List.set_cons_succ]
      refine takeL 1 (v := ?_) rfl (by kernel_rfl) (by kernel_rfl) (by kernel_rfl) (fun _ _ _ h => h) (Or.inl ⟨by rfl, ?_⟩) (by assumption) ?_
      rotate_left
      · (intro wS hSw; go_simp; try with_reducible rfl)
      try simp only [Act.put, List.setIfInBounds_toArray, List.set_cons_zero, List.set_cons_succ]
      refine takeL 2 rfl (by kernel_rfl) (by kernel_rfl) (by kernel_rfl) (fun _ _ _ h => h) (yieldsIf_load_cell (by rfl) 3 (.tmp 24) rfl wr.heap.size 2 rfl _ (fun _ s => rangeAt_cell s 2 (.int .i64 ltype) rfl) (fun w s => load_int w _ _ _ s)) (by assumption) ?_
      try simp only [Act.put, List.setIfInBounds_toArray, List.set_cons_zero, List.set_cons_succ]
      refine takeL 3 (v := ?_) rfl (by kernel_rfl) (by kernel_rfl) (by kernel_rfl) (fun _ _ _ h => h) (Or.inl ⟨by rfl, ?_⟩) (by assumption) ?_
      rotate_left
      · (intro wS hSw; go_simp; try with_reducible rfl)
      try simp only [Act.put, List.setIfInBounds_toArray, List.set_cons_zero, List.set_cons_succ]
      refine takeL 6 (v := ?_) rfl (by kernel_rfl) (by kernel_rfl) (by kernel_rfl) (fun _ _ _ h => h) (Or.inl ⟨by rfl, ?_⟩) (by assumption) ?_
      rotate_left
      · (intro wS hSw; go_simp; try with_reducible rfl)
      try simp only [Act.put, List.setIfInBounds_toArray, List.set_cons_zero, List.set_cons_succ]
      refine takeL 7 rfl (by kernel_rfl) (by kernel_rfl) (by kernel_rfl) (fun _ _ _ h => h) (yieldsIf_load_cell (by rfl) 3 (.tmp 29) rfl wr.heap.size 3 rfl _ (fun _ s => rangeAt_cell s 3 (.int .i64 lcost) rfl) (fun w s => load_int w _ _ _ s)) (by assumption) ?_
      try simp only [Act.put, List.setIfInBounds_toArray, List.set_cons_zero, List.set_cons_succ]
      refine takeL 8 (v := ?_) rfl (by kernel_rfl) (by kernel_rfl) (by kernel_rfl) (fun _ _ _ h => h) (Or.inl ⟨by rfl, ?_⟩) (by assumption) ?_
      rotate_left
      · (intro wS hSw; go_simp; try with_reducible rfl)
      try simp only [Act.put, List.setIfInBounds_toArray, List.set_cons_zero, List.set_cons_succ]
      have hO3 := Lib.hid ((hO2'.out.keep ((Keeps.refl (fun _ => False) _).drew) (fun _ _ f => f)).keep ((Keeps.refl (fun _ => False) _).alloc (.cells #[.int .u8 T, .int .u8 0] 5)) (fun _ _ f => f))
      have hk3 := Lib.hid ((hk2.out.drew).alloc (.cells #[.int .u8 T, .int .u8 0] 5))
      have hsrc : Hid (BytesAt (w2.drew.alloc (.cells #[.int .u8 T, .int .u8 0] 5)) (.slice (some ⟨w2.drew.heap.size, 0, none⟩) 2 2) [UInt8.ofNat T, 0]) := Lib.hid (by
        have := (OwnB.new w2.drew w2.drew (Nat.le_refl _) [UInt8.ofNat T, 0] (n := 2) rfl (by unfold maxLen; omega)).bytes
        rw [List.map_cons, List.map_cons, List.map_nil, bv_lt T lT] at this
        exact this)
      have hsz3 : Hid (wr.heap.size < (w2.drew.alloc (.cells #[.int .u8 T, .int .u8 0] 5)).heap.size) := Lib.hid (by have := hsz2.out; simp; omega)
      refine stepL 4 rfl (by kernel_rfl) (fun K hK => ?_)
      go_simp
      refine hK.out _ _ (((Keeps.refl (fun _ => False) _).alloc _).rangeAt hHeld id) (fun hHeld => ?_)
      clear hK K
      try simp only [Act.put, List.setIfInBounds_toArray, List.set_cons_zero, List.set_cons_succ]
      refine stepL 5 rfl (by kernel_rfl) (fun K hK => ?_)
      rw [if_pos (by rfl)]
      (refine wp_append_b (.tmp 23) (.tmp 27) 29 rfl i0 Try.underlying29 hi0 hz0 hz1 hz2 w _ X2 rfl hO3.out _ rfl [UInt8.ofNat T, 0] hsrc.out (by rw [hX2l'.out]; simp; omega) ?_; intro q4 d4 w4 hO4 hg4)
      refine hK.out _ _ ((hg4.range hne2.out hHeld)) (fun hHeld => ?_)
      clear hK K
      try simp only [Act.put, List.setIfInBounds_toArray, List.set_cons_zero, List.set_cons_succ]
      obtain ⟨X4, hX4, hX4l⟩ := new_name X2 [UInt8.ofNat T, 0] (4 + 12 * k + 8) 2 hX2l'.out rfl
      have hn4 : X2.length + ([UInt8.ofNat T, 0] : List UInt8).length = 4 + 12 * k + 8 + 2 := by rw [hX2l'.out]; rfl
      rw [← hX4, hn4] at hO4
      rw [hn4] at hg4 ⊢
      have hk4 := Lib.hid (hO3.out.keeps hk3.out hg4)
      have hne4 := Lib.hid (hg4.ne hne2.out hsz3.out)
      have hO4' := Lib.hid hO4; have hX4' := Lib.hid hX4; have hX4l' := Lib.hid hX4l
      clear hO4 hX4 hX4l hg4 hn4 hO3 hk3 hsrc hsz3
      refine stepL 9 rfl (by kernel_rfl) (fun K hK => ?_)
      go_simp
      (refine (wiLay16_any w _ X4 C lC (by rw [hX4l'.out]; omega) _ hO4').mono ?_; rintro e w5 ⟨q5, d5, rfl, hO5, hg5⟩)
      go_wp2_with fail
      refine hK.out _ _ ((hg5.range hne4.out hHeld)) (fun hHeld => ?_)
      clear hK K
      try simp only [Act.put, List.setIfInBounds_toArray, List.set_cons_zero, List.set_cons_succ]
      refine takeL 10 (v := ?_) rfl (by kernel_rfl) (by kernel_rfl) (by kernel_rfl) (fun _ _ _ h => h) (Or.inl ⟨by rfl, ?_⟩) (by assumption) ?_
      rotate_left
      · (intro wS hSw; go_simp; try with_reducible rfl)
      try simp only [Act.put, List.setIfInBounds_toArray, List.set_cons_zero, List.set_cons_succ]
      refine wpAnyH_done (by kernel_rfl) (NoPanic.normal ?_) _
      have hfin : X4 ++ be 2 C = X ++ linkB ⟨lid, ldata, ltype, lcost⟩ := by
        rw [hX4'.out, hX2'.out]
        unfold linkB
        simp only [← hTl.out, ← hCl.out, bes, List.flatMap_cons, List.flatMap_nil, List.append_nil, List.append_assoc]
      have hn5 : X4.length + (be 2 C).length = 4 + 12 * (k + 1) := by rw [hX4l'.out, be_len]; omega
      rw [hfin, hn5] at hO5
      rw [hn5] at hg5 ⊢
      have hk5 := Lib.hid (hO4'.out.keeps hk4.out hg5)
      have hO5' := Lib.hid hO5
      clear hO5 hg5 hfin hn5 hHeld hk4 hne4 hO4'
      go_wp2_with fail
      exact ⟨⟨k + 1, by omega, by go_num, Lib.hid ⟨q5, d5, rfl, by rw [hnext.out]; exact hO5'.out, hk5.out⟩⟩, by simp [intOf]; omega⟩
    · obtain rfl : k = ls.length := by omega
      rw [List.take_length] at hX
      have hX' := Lib.hid hX; have hXl' := Lib.hid hXl
      clear hX hXl
      go_wp2_with fail
      go_ret
      have hn : (be 4 ls.length ++ linksB ls).length = 4 + 12 * ls.length := by rw [List.length_append, be_len, linksB_len]
      exact ⟨q, d, by rw [hn]; rfl, by rw [hn, ← hX'.out]; exact hO'.out, hkw'.out⟩
end Go.Proofs.Ytiogeepffdpafaa
