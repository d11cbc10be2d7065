/- The document's Text of layer 6, walked (gen_ztf.py). -/
import Derived.Test.YtdannodhlaaoiaaGreatDoorWT21
import Derived.Test.YtdannodhlaaoiaaGreatDoorWT22
import Derived.Deep.DeepCutAuto
import Derived.Test.YtdannodhlaaoiaaGreatDoorWT12
set_option linter.unusedVariables false
set_option linter.unusedSimpArgs false
set_option linter.unusedVariables false
set_option linter.unusedSimpArgs false
namespace Go.Proofs.YtdannodhlaaoiaaGreatDoor
open Go.RowKit

theorem textD_k3 {o : Option (Int × List UInt8)} {a b : List UInt8} {r2 : List (List UInt8)} {s : StP} (h1 : ¬ (o.isSome ∧ a = clsW)) (ha : signW a = false) (hb : signW b = false) : textD o (a :: b :: endW :: r2) s = if lineB (atL o a b) = true then textD o r2 (putS s (atL o a b)) else none := by
  rw [textD.eq_def]
  simp only []
  rw [if_neg h1, if_neg (fun h => by have := h.2.2; revert this; decide), if_pos ⟨ha, hb, trivial⟩]
theorem textD_k4 {o : Option (Int × List UInt8)} {a : List UInt8} {r : List (List UInt8)} {s : StP} (h1 : ¬ (o.isSome ∧ a = clsW)) (h2 : ¬ ∃ b r2, r = b :: opnW :: r2 ∧ o = none ∧ headD a ≠ 0)
    (h3 : ¬ ∃ b r2, r = b :: endW :: r2 ∧ signW a = false ∧ signW b = false) : textD o (a :: r) s = none := by
  rw [textD.eq_def]
  simp only []
  rw [if_neg h1]
  match r with
  | [] => rfl
  | [b] => rfl
  | b :: c :: r2 =>
    simp only []
    rw [if_neg (fun h => h2 ⟨b, r2, by rw [h.2.2], by simpa using h.1, h.2.1⟩), if_neg (fun h => h3 ⟨b, r2, by rw [h.2.2], h.1, h.2.1⟩)]
theorem headD_012 (w : List UInt8) : headD w = 0 ∨ headD w = 1 ∨ headD w = 2 := by
  unfold headD
  split
  · exact .inr (.inl rfl)
  · split
    · exact .inr (.inr rfl)
    · exact .inl rfl
def IffB (z : Bool) (P : Prop) : Prop := (z = true) ↔ P
/-- the document's state: what has been set, what is open -/
structure RtS (gA : Nat) (w0 W : World) (h : Int) (Nm : ByteArray) (q : Option Addr) (d : Nat) (o : Option (Int × List UInt8)) (C : List LineD) : Prop where
  blk : BlkAt W gA 62 [.int .i64 h, .string Nm, .string ⟨#[]⟩, .string ⟨#[]⟩]
  att : ∀ a b, atL o a b = ⟨h, Nm.data.toList, a, b⟩
  nms : Nm.size ≤ 1000000
  rows : RowsAt 4 lineVals W (.slice q C.length d) C
  own : ∀ k, (Value.slice q C.length d).ownBlock = some k → k ≠ gA
  right : rightC C = true
  k : Keeps (fun _ => False) w0 W
  ge : w0.heap.size ≤ gA
theorem RtS.next {gA : Nat} {w0 W W' : World} {h : Int} {Nm : ByteArray} {q : Option Addr} {d : Nat} {o : Option (Int × List UInt8)} {C : List LineD} (s : RtS gA w0 W h Nm q d o C) (k : Keeps (fun _ => False) W W') : RtS gA w0 W' h Nm q d o C :=
  ⟨s.blk.keep k id, s.att, s.nms, s.rows.keep k, s.own, s.right, s.k.trans k, s.ge⟩
/-- another one is open -/
theorem RtS.turn {gA : Nat} {w0 W W' : World} {h h2 : Int} {Nm Nm2 : ByteArray} {q : Option Addr} {d : Nat} {o o2 : Option (Int × List UInt8)} {C : List LineD} (s : RtS gA w0 W h Nm q d o C) (k : Keeps (fun i => i = gA) W W')
    (hb : BlkAt W' gA 62 [.int .i64 h2, .string Nm2, .string ⟨#[]⟩, .string ⟨#[]⟩]) (ha : ∀ a b, atL o2 a b = ⟨h2, Nm2.data.toList, a, b⟩) (hn : Nm2.size ≤ 1000000) : RtS gA w0 W' h2 Nm2 q d o2 C :=
  ⟨hb, ha, hn, s.rows.keepF k (fun _ k e f => s.own k e f), s.own, s.right, s.k.trans' k (fun i e => .inr (by rw [e]; exact s.ge)), s.ge⟩
theorem setCells_blk {W : World} {g : Nat} {t : TypeId} {a b c d a2 b2 c2 d2 : Value} (h : BlkAt W g t [a, b, c, d]) : BlkAt (W.setCells g 0 [a2, b2, c2, d2]) g t [a2, b2, c2, d2] := by
  have h0 := (((h.set 0 a2).set 1 b2).set 2 c2).set 3 d2
  exact h0

end Go.Proofs.YtdannodhlaaoiaaGreatDoor
/- The law's To and From of lines, walked (gen_cgc.py). -/
set_option linter.unusedVariables false
set_option linter.unusedSimpArgs false
namespace Go.Proofs.YtdannodhlaaoiaaGreatDoor
open Go.RowKit

def CopyPost (t : TypeId) (ls : List LineD) (w : World) (e : Ending) (w' : World) : Prop :=
  ∃ p c, e = .returned (.slice p ls.length c) ∧ OwnR t 4 lineVals w w' (.slice p ls.length c) ls ∧ Keeps (fun _ => False) w w'

set_option maxRecDepth 100000 in
set_option maxHeartbeats 4000000 in
theorem to_any (v : Value) (ls : List LineD) (w : World) (hv : Hid (RowsAt 4 lineVals w v ls)) (hl : ls.length ≤ 1000000) :
    Calls Tryz.prog 4 #[v] w (CopyPost 50 ls w) := by
  obtain ⟨p, c, rfl⟩ := hv.out.slice
  obtain ⟨i0, hi0, hi1, hi2, hi3⟩ := lineAll
  go_enter Tryz.func4, Tryz.ntmps4
  go_wp2_with fail
  go_loopw [4, 3] (fun iv ov wr => ∃ (k : Nat) (q : Option Addr) (d : Nat), k ≤ ls.length ∧ iv = .int .i64 k ∧ ov = .slice q k d ∧ Hid (OwnR 50 4 lineVals w wr ov (ls.take k)) ∧ Hid (Keeps (fun _ => False) w wr)) (fun iv _ _ => ls.length - (intOf iv).toNat)
  case atStart => exact ⟨0, none, 0, by omega, rfl, rfl, Lib.hid (OwnR.nil _ _ (Nat.le_refl _)), Lib.hid (Keeps.refl _ _)⟩
  case round =>
    obtain ⟨k, qa, d, hk, rfl, rfl, hO, hKw⟩ := hrel
    by_cases hlk : k < ls.length
    · obtain ⟨g, o, rfl, hrows⟩ := hv.out.open (by omega)
      obtain ⟨q, hq⟩ : ∃ q, ls[k]? = some q := ⟨_, List.getElem?_eq_getElem hlk⟩
      obtain ⟨Nq, hN⟩ : ∃ N : ByteArray, N = ⟨q.name.toArray⟩ := ⟨_, rfl⟩
      obtain ⟨Fq, hF⟩ : ∃ N : ByteArray, N = ⟨q.leaf.toArray⟩ := ⟨_, rfl⟩
      obtain ⟨Vq, hV⟩ : ∃ N : ByteArray, N = ⟨q.value.toArray⟩ := ⟨_, rfl⟩
      have hrow : Hid (wr.rangeAt g (o + k * 4) [.int .i64 q.head, .string Nq, .string Fq, .string Vq]) := Lib.hid (by rw [hN, hF, hV]; exact hKw.out.rangeAt (hrows k q hq) id)
      have hgw : Hid (¬ w.heap.size ≤ g) := Lib.hid (by have := World.block_lt_of_cell? w _ (hrows k q hq 0 _ rfl); have h3 : g < w.heap.size := this; omega)
      have hqd : Hid (q = ⟨q.head, Nq.data.toList, Fq.data.toList, Vq.data.toList⟩) := Lib.hid (by rw [hN, hF, hV])
      have hstep : Hid (ls.take (k + 1) = ls.take k ++ [q]) := Lib.hid (by
        obtain ⟨h2, e⟩ := List.getElem?_eq_some_iff.1 hq
        rw [List.take_succ_eq_append_getElem h2, e])
      have htk : Hid ((ls.take k).length = k) := Lib.hid (by rw [List.length_take]; omega)
      have m1 : (0 : Int) ≤ (k : Int) := by omega
      have m2 : (k : Int) < (ls.length : Int) := by omega
      clear hrows hN hF hV hq
      go_upto_region 5 with fail
      refine wp_region_noPanic ?_
      refine wp_region_held_drew (S := (fun W => Keeps (fun i => w.heap.size ≤ i) wr W)) (by kernel_rfl) (((Keeps.refl _ _).drew)) (fun hHeld => ?_)
      refine tk 0 rfl ?_
      refine tk 1 rfl ?_
      refine tk 2 rfl ?_
      refine tk 3 rfl ?_
      refine tk 4 rfl ?_
      refine tkL 5 rfl (yieldsIf_load_cell (by rfl) 3 (.tmp 15) rfl g (o + k * 4 + 0) rfl _ (fun _ s => s.rangeAt hrow.out hgw.out 0 _ rfl) (fun w s => load_int w _ _ _ s)) ?_
      refine tk 6 rfl ?_
      refine tk 7 rfl ?_
      refine tk 8 rfl ?_
      refine tk 9 rfl ?_
      refine tkL 10 rfl (yieldsIf_load_cell (by rfl) 9 (.tmp 20) rfl g (o + k * 4 + 1) rfl _ (fun _ s => s.rangeAt hrow.out hgw.out 1 _ rfl) (fun w s => load_str w _ _ _ s)) ?_
      refine tk 11 rfl ?_
      refine tk 12 rfl ?_
      refine tk 13 rfl ?_
      refine tk 14 rfl ?_
      refine tkL 15 rfl (yieldsIf_load_cell (by rfl) 9 (.tmp 25) rfl g (o + k * 4 + 2) rfl _ (fun _ s => s.rangeAt hrow.out hgw.out 2 _ rfl) (fun w s => load_str w _ _ _ s)) ?_
      refine tk 16 rfl ?_
      refine tk 17 rfl ?_
      refine tk 18 rfl ?_
      refine tk 19 rfl ?_
      refine tkL 20 rfl (yieldsIf_load_cell (by rfl) 9 (.tmp 30) rfl g (o + k * 4 + 3) rfl _ (fun _ s => s.rangeAt hrow.out hgw.out 3 _ rfl) (fun w s => load_str w _ _ _ s)) ?_
      refine tk 21 rfl ?_
      refine stepL 22 rfl (by kernel_rfl) (fun K hK => ?_)
      go_simp
      refine hK.out _ _ ((hHeld.alloc _)) (fun hHeld => ?_)
      clear hK K
      try simp only [Act.put, sA, sZ, sS]
      refine stepL 23 rfl (by kernel_rfl) (fun K hK => ?_)
      rw [if_pos (by rfl)]
      (refine wp_append_r (.tmp 11) (.tmp 33) 24 50 rfl i0 _ 56 Tryz.underlying24 hi0 hi1 hi2 hi3 rfl (by decide) (by decide) lineVals_len w _ k (ls.take k) htk.out rfl (hO.out.keep (((Keeps.refl (fun _ => False) _).drew).alloc _) (fun _ _ f => f)) _ rfl ⟨q.head, Nq.data.toList, Fq.data.toList, Vq.data.toList⟩ (cells_new rfl _ _) (lineVals_one _) (by omega) ?_; intro q8 d8 w8 hO8 hg8; have hO8' := Lib.hid hO8; have hK8 := Lib.hid (OwnR.keeps (hO.out.keep (((Keeps.refl (fun _ => False) _).drew).alloc _) (fun _ _ f => f)) ((hKw.out.drew).alloc _) hg8); have hg8' := Lib.hid (hg8.k.mono (G := fun i => w.heap.size ≤ i) (fun i e => .inl (hO.out.2.1 i e))); clear hO8 hg8)
      refine hK.out _ _ ((hHeld.trans hg8'.out)) (fun hHeld => ?_)
      clear hK K
      try simp only [Act.put, sA, sZ, sS]
      refine tk 24 rfl ?_
      refine wpAnyH_done (by kernel_rfl) (NoPanic.normal ?_) _
      clear hHeld hg8'
      go_wp2_with fail
      exact ⟨⟨k + 1, q8, d8, by omega, by go_num, rfl, by rw [hstep.out, hqd.out]; exact hO8', hK8⟩, by simp [intOf]; omega⟩
    · obtain rfl : k = ls.length := by omega
      rw [List.take_length] at hO
      go_wp2_with fail
      go_ret
      exact ⟨qa, d, rfl, hO.out, hKw.out⟩

end Go.Proofs.YtdannodhlaaoiaaGreatDoor
/- Lines compared: the document's Same, walked. -/
set_option linter.unusedVariables false
set_option linter.unusedSimpArgs false
namespace Go.Proofs.YtdannodhlaaoiaaGreatDoor
open Go.RowKit

theorem line_neq (W : World) (h1 h2 : Int) (n1 f1 v1 n2 f2 v2 : ByteArray) (z : Bool) (hz : (z = false) ↔ (h1 = h2 ∧ n1.toList = n2.toList ∧ f1.toList = f2.toList ∧ v1.toList = v2.toList)) :
    (binOp .neq 62 (.agg #[.int .i64 h1, .string n1, .string f1, .string v1]) (.agg #[.int .i64 h2, .string n2, .string f2, .string v2])).run Tryz.prog W = .ok (.bool z) W := by
  by_cases e1 : h1 = h2
  · subst e1
    by_cases e2 : n1.toList = n2.toList
    · by_cases e3 : f1.toList = f2.toList
      · by_cases e4 : v1.toList = v2.toList
        · obtain rfl : z = false := hz.2 ⟨rfl, e2, e3, e4⟩
          go_simp
        · obtain rfl : z = true := by cases z with | true => rfl | false => exact absurd (hz.1 rfl).2.2.2 e4
          go_simp
      · obtain rfl : z = true := by cases z with | true => rfl | false => exact absurd (hz.1 rfl).2.2.1 e3
        go_simp
    · obtain rfl : z = true := by cases z with | true => rfl | false => exact absurd (hz.1 rfl).2.1 e2
      go_simp
  · obtain rfl : z = true := by cases z with | true => rfl | false => exact absurd (hz.1 rfl).1 e1
    go_simp
theorem guardLine5 (op : BinOp) (x y : Operand) (xs ys : Array Value) (w : World) : (eqGuard op 62 x y (.agg xs) (.agg ys)).run Tryz.prog w = .ok () w := run_eqGuard_agg w op 62 x y xs ys (by kernel_rfl)
end Go.Proofs.YtdannodhlaaoiaaGreatDoor
/- ParseTexts, walked. -/
set_option linter.unusedVariables false
set_option linter.unusedSimpArgs false
namespace Go.Proofs.YtdannodhlaaoiaaGreatDoor
open Go.RowKit

theorem textD_right : ∀ (n : Nat) (o : Option (Int × List UInt8)) (ws : List (List UInt8)) (s s' : StP), ws.length ≤ n → rightC s.1 = true → textD o ws s = some s' → rightC s'.1 = true := by
  intro n
  induction n with
  | zero =>
    intro o ws s s' hn hs h
    obtain rfl : ws = [] := List.length_eq_zero_iff.1 (by omega)
    rw [textD.eq_def] at h
    simp only [] at h
    split at h
    · cases h
    · injection h with h; rw [← h]; exact hs
  | succ n ih =>
    intro o ws s s' hn hs h
    match ws, hn with
    | [], _ =>
      rw [textD.eq_def] at h
      simp only [] at h
      split at h
      · cases h
      · injection h with h; rw [← h]; exact hs
    | a :: r, hn =>
      simp only [List.length_cons] at hn
      rw [textD.eq_def] at h
      simp only [] at h
      split at h
      · exact ih _ _ _ _ (by omega) hs h
      · match r, hn with
        | [], _ => cases h
        | [_], _ => cases h
        | b :: c :: r2, hn =>
          simp only [List.length_cons] at hn
          simp only [] at h
          split at h
          · split at h
            · exact ih _ _ _ _ (by omega) hs h
            · cases h
          · split at h
            · split at h
              · rename_i hl
                exact ih _ _ _ _ (by omega) (putS_right hs hl) h
              · cases h
            · cases h
theorem ansT_right (t : List UInt8) : rightC (ansT t).1 = true := by
  unfold ansT
  split
  · decide +kernel
  · split
    · decide +kernel
    · rename_i C f h
      have := textD_right _ _ _ _ _ (Nat.le_refl _) (by decide +kernel) h
      split
      · decide +kernel
      · exact this
end Go.Proofs.YtdannodhlaaoiaaGreatDoor
/- The document's Set of a wrong line; the law's Build, walked (gen_cgf.py). -/
set_option linter.unusedVariables false
set_option linter.unusedSimpArgs false
namespace Go.Proofs.YtdannodhlaaoiaaGreatDoor
open Go.RowKit

set_option maxRecDepth 100000 in
set_option maxHeartbeats 4000000 in
theorem rSet_no (v : Value) (ls : List LineD) (h : Int) (N F V : ByteArray) (w : World) (hv : Hid (RowsAt 4 lineVals w v ls)) (hlt : Hid (LinesLt ls 8796093022000)) (hn : N.size ≤ 8796093022000) (hvs : V.size ≤ 8796093022000)
    (hlen : ls.length ≤ 64) (hr : Hid (rightC ls = true)) (hx : Hid (lineB ⟨h, N.data.toList, F.data.toList, V.data.toList⟩ = false)) :
    Calls Tryz.prog 22 #[v, .agg #[.int .i64 h, .string N, .string F, .string V]] w (NewRes (.tuple #[.slice none 0 0, .int .i64 1]) w) := by
  obtain ⟨p, c, rfl⟩ := hv.out.slice
  have hLn := Lib.hid hv.out.lines
  have hB : Hid (BlkAt (w.alloc (.cells #[.int .i64 h, .string N, .string F, .string V] 62)) w.heap.size 62 [.int .i64 h, .string N, .string F, .string V]) := Lib.hid (BlkAt.new _ _ _)
  have hK0 : Hid (Keeps (fun _ => False) w (w.alloc (.cells #[.int .i64 h, .string N, .string F, .string V] 62))) := Lib.hid ((Keeps.refl _ _).alloc _)
  go_enter Tryz.func22, Tryz.ntmps22
  go_upto_region 1 with fail
  generalize w.alloc (.cells #[.int .i64 h, .string N, .string F, .string V] 62) = w1 at hB hK0 ⊢
  generalize hgb : w.heap.size = gb at hB ⊢
  clear hgb
  go_wp2_with fail
  refine (rRight_c _ ls true _ (Lib.hid (hLn.out.keep hK0.out (fun _ _ _ f => f))) (by omega) hlt hr).mono ?_
  rintro e w2 ⟨rfl, k2⟩
  have k2' := Lib.hid k2
  clear k2
  have hB2 := Lib.hid (hB.out.keep k2'.out id)
  go_wp2_with ((with_reducible refine at_slot 13 ?_); refine wpList_load_mid_g (by rfl) 62 (.tmp 3) rfl gb 0 rfl [.int .i64 h, .string N, .string F, .string V] _ hB2.out.range Tryz.underlying62 rfl line5InfoG ?_)
  refine (rRightLine_any h N F V false _ hn hvs hx).mono ?_
  rintro e w3 ⟨rfl, k3⟩
  have hK3 := Lib.hid (hK0.out.trans (k2'.out.trans k3))
  clear k3 k2' hB hB2 hK0 hLn
  go_wp2_with fail
  go_ret2
  exact ⟨rfl, hK3.out⟩

def bK (ls : List LineD) (k : Nat) : List LineD := (ls.take k).foldl stepB []
theorem bK_step {q : LineD} {ls : List LineD} {k : Nat} (hq : ls[k]? = some q) : bK ls (k + 1) = stepB (bK ls k) q := by
  obtain ⟨hk, e⟩ := List.getElem?_eq_some_iff.1 hq
  unfold bK
  rw [List.take_succ_eq_append_getElem hk, e, List.foldl_append]; rfl
theorem bK_right (ls : List LineD) (k : Nat) : rightC (bK ls k) = true := fold_right _ _ (by decide +kernel)

set_option maxRecDepth 100000 in
set_option maxHeartbeats 4000000 in
theorem build_any (v : Value) (ls : List LineD) (w : World) (hv : Hid (RowsAt 4 lineVals w v ls)) (hl : ls.length ≤ 1000000000000) (hlt : Hid (LinesLt ls 8796093022000)) :
    Calls Tryz.prog 5 #[v] w (CopyPost 62 (buildC ls) w) := by
  obtain ⟨p, c, rfl⟩ := hv.out.slice
  go_enter Tryz.func5, Tryz.ntmps5
  go_wp2_with fail
  go_loopw [4, 3] (fun iv cv wr => ∃ (k : Nat) (q : Option Addr) (d : Nat), k ≤ ls.length ∧ k ≤ 100 ∧ iv = .int .i64 k ∧ cv = .slice q (bK ls k).length d ∧ Hid (OwnR 62 4 lineVals w wr cv (bK ls k)) ∧ Hid (Keeps (fun _ => False) w wr)) (fun iv _ _ => 100 - (intOf iv).toNat)
  case atStart => exact ⟨0, none, 0, by omega, by omega, rfl, rfl, Lib.hid (OwnR.nil _ _ (Nat.le_refl _)), Lib.hid (Keeps.refl _ _)⟩
  case round =>
    obtain ⟨k, qa, d, hk, hk2, rfl, rfl, hO, hKw⟩ := hrel
    have hbr := Lib.hid (bK_right ls k)
    generalize hbk : bK ls k = B at hO hbr ⊢
    have hbk' := Lib.hid hbk
    clear hbk
    by_cases hlk : k < ls.length
    · by_cases h100 : k < 100
      · obtain ⟨g, o, rfl, hrows⟩ := hv.out.open (by omega)
        obtain ⟨q, hq⟩ : ∃ q, ls[k]? = some q := ⟨_, List.getElem?_eq_getElem hlk⟩
        have hsz := hlt.out q (List.mem_of_getElem? hq)
        obtain ⟨Nq, hN⟩ : ∃ N : ByteArray, N = ⟨q.name.toArray⟩ := ⟨_, rfl⟩
        obtain ⟨Fq, hF⟩ : ∃ N : ByteArray, N = ⟨q.leaf.toArray⟩ := ⟨_, rfl⟩
        obtain ⟨Vq, hV⟩ : ∃ N : ByteArray, N = ⟨q.value.toArray⟩ := ⟨_, rfl⟩
        have hNs : Nq.size ≤ 8796093022000 := by rw [hN]; exact hsz.1
        have hVs : Vq.size ≤ 8796093022000 := by rw [hV]; exact hsz.2.2
        have hrow : Hid (wr.rangeAt g (o + k * 4) [.int .i64 q.head, .string Nq, .string Fq, .string Vq]) := Lib.hid (by rw [hN, hF, hV]; exact hKw.out.rangeAt (hrows k q hq) id)
        have hqd : Hid (q = ⟨q.head, Nq.data.toList, Fq.data.toList, Vq.data.toList⟩) := Lib.hid (by rw [hN, hF, hV])
        have hstep := Lib.hid (bK_step hq)
        rw [hbk'.out] at hstep
        have m1 : (0 : Int) ≤ (k : Int) := by omega
        have m2 : (k : Int) < (ls.length : Int) := by omega
        have hR : Hid (RowsAt 4 lineVals wr (.slice qa B.length d) B) := Lib.hid (hO.out.at lineVals_len)
        have hB64 := right_len hbr.out
        have hBlt := Lib.hid (right_lt hbr.out 8796093022000 (by omega))
        clear hrows hN hF hV hq hsz
        go_wp2_with ((with_reducible refine at_slot 22 ?_); refine wpList_load_mid rfl 62 (.tmp 21) rfl g (o + k * 4) rfl [.int .i64 q.head, .string Nq, .string Fq, .string Vq] _ hrow.out Tryz.underlying62 rfl line5InfoG ?_)
        cases hz : lineB ⟨q.head, Nq.data.toList, Fq.data.toList, Vq.data.toList⟩ with
        | false =>
          have hz' := Lib.hid hz
          have hsame : Hid (bK ls (k + 1) = B) := Lib.hid (by rw [hstep.out]; unfold stepB; rw [if_neg]; rw [hqd.out, hz]; simp)
          clear hz
          refine (rSet_no _ B q.head Nq Fq Vq wr hR hBlt hNs hVs hB64 hbr hz').mono ?_
          rintro e w3 ⟨rfl, k3⟩
          have hO3 := Lib.hid (hO.out.keep k3 (fun _ _ f => f))
          have hK3 := Lib.hid (hKw.out.trans k3)
          clear k3
          go_wp2_with fail
          exact ⟨⟨k + 1, qa, d, by omega, by omega, by go_num, by rw [hsame.out], by rw [hsame.out]; exact hO3, hK3⟩, by simp [intOf]; omega⟩
        | true =>
          have hz' := Lib.hid hz
          clear hz
          refine (rSet_c _ B q.head Nq Fq Vq wr hR hBlt hNs hVs hB64 hbr hz').mono ?_
          rintro e w3 ⟨p1, p2, k3⟩
          rw [← hqd.out] at p1 p2
          have hK3 := Lib.hid (hKw.out.trans k3)
          by_cases h65 : (setC q B).length ≤ 64
          · obtain ⟨q3, d3, rfl, hO3⟩ := p1 h65
            have hsame : Hid (bK ls (k + 1) = setC q B) := Lib.hid (by rw [hstep.out]; unfold stepB; rw [if_pos]; exact ⟨by rw [hqd.out]; exact hz'.out, h65⟩)
            have hO3' := Lib.hid (hO3.older (w0 := w) hKw.out.size)
            clear hO3 k3 p1 p2 h65
            go_wp2_with fail
            exact ⟨⟨k + 1, q3, d3, by omega, by omega, by go_num, by rw [hsame.out], by rw [hsame.out]; exact hO3', hK3⟩, by simp [intOf]; omega⟩
          · obtain rfl := p2 (by omega)
            have hsame : Hid (bK ls (k + 1) = B) := Lib.hid (by rw [hstep.out]; unfold stepB; rw [if_neg]; exact fun e => h65 e.2)
            have hO3 := Lib.hid (hO.out.keep k3 (fun _ _ f => f))
            clear k3 p1 p2 h65
            go_wp2_with fail
            exact ⟨⟨k + 1, qa, d, by omega, by omega, by go_num, by rw [hsame.out], by rw [hsame.out]; exact hO3, hK3⟩, by simp [intOf]; omega⟩
      · obtain rfl : k = 100 := by omega
        have hend : Hid (buildC ls = B) := Lib.hid (by rw [← hbk'.out]; rfl)
        clear h100 hk2
        go_wp2_with fail
        go_ret
        rw [hend.out]
        exact ⟨qa, d, rfl, hO.out, hKw.out⟩
    · obtain rfl : k = ls.length := by omega
      have hend : Hid (buildC ls = B) := Lib.hid (by
        rw [← hbk'.out]; unfold buildC bK
        rw [List.take_of_length_le hk2, List.take_length])
      go_wp2_with fail
      go_ret
      rw [hend.out]
      exact ⟨qa, d, rfl, hO.out, hKw.out⟩
end Go.Proofs.YtdannodhlaaoiaaGreatDoor
/- Delete, the code's and the document's, of a right configuration (gen_cgh.py). -/
set_option linter.unusedVariables false
set_option linter.unusedSimpArgs false
namespace Go.Proofs.YtdannodhlaaoiaaGreatDoor
open Go.RowKit

def keepB (h : Int) (n l : List UInt8) (q : LineD) : Bool := decide (q.head ≠ h) || decide (q.name ≠ n) || (decide (l ≠ []) && decide (q.leaf ≠ l))
def delC (h : Int) (n l : List UInt8) (ls : List LineD) : List LineD := ls.filter (keepB h n l)
def dK (h : Int) (n l : List UInt8) (ls : List LineD) (k : Nat) : List LineD := (ls.take k).filter (keepB h n l)
theorem dK_step {h : Int} {n l : List UInt8} {q : LineD} {ls : List LineD} {k : Nat} (hq : ls[k]? = some q) : dK h n l ls (k + 1) = dK h n l ls k ++ (if keepB h n l q = true then [q] else []) := by
  obtain ⟨hk, e⟩ := List.getElem?_eq_some_iff.1 hq
  unfold dK
  rw [List.take_succ_eq_append_getElem hk, e, List.filter_append]
  congr 1
  simp [List.filter_cons]
theorem dK_len (h : Int) (n l : List UInt8) (ls : List LineD) (k : Nat) : (dK h n l ls k).length ≤ k := by
  have h1 := List.length_filter_le (keepB h n l) (ls.take k)
  rw [List.length_take] at h1
  unfold dK
  omega
def DelPost (t : TypeId) (zs : List LineD) (n : Nat) (w : World) (e : Ending) (w' : World) : Prop :=
  (zs.length = n → e = .returned (.tuple #[.slice none 0 0, .int .i64 6])) ∧ (zs.length ≠ n → ∃ p c, e = .returned (.tuple #[.slice p zs.length c, .int .i64 0]) ∧ OwnR t 4 lineVals w w' (.slice p zs.length c) zs) ∧ Keeps (fun _ => False) w w'
theorem bne_list {a b : ByteArray} (h : a.data.toList ≠ b.data.toList) : (a.toList == b.toList) = false := by rw [Lib.toList_data, Lib.toList_data]; simpa using h
theorem beq_list {a b : ByteArray} (h : a.data.toList = b.data.toList) : (a.toList == b.toList) = true := by rw [Lib.toList_data, Lib.toList_data]; simpa using h
theorem empty_list {a : ByteArray} (h : a.data.toList = []) : a.toList.isEmpty = true := by rw [Lib.toList_data, h]; rfl
theorem nonempty_list {a : ByteArray} (h : a.data.toList ≠ []) : a.toList.isEmpty = false := by rw [Lib.toList_data]; cases hh : a.data.toList with | nil => exact absurd hh h | cons => rfl

end Go.Proofs.YtdannodhlaaoiaaGreatDoor
/- conf.Set of a wrong line; slices.Equal of lines; conf.Same, walked (gen_cgi.py). -/
set_option linter.unusedVariables false
set_option linter.unusedSimpArgs false
namespace Go.Proofs.YtdannodhlaaoiaaGreatDoor
open Go.RowKit

set_option maxRecDepth 100000 in
set_option maxHeartbeats 4000000 in
theorem set_no (v : Value) (ls : List LineD) (h : Int) (N F V : ByteArray) (w : World) (hv : Hid (RowsAt 4 lineVals w v ls)) (hlt : Hid (LinesLt ls 9223372036854775807)) (hn : N.size ≤ 9223372036854775807) (hvs : V.size ≤ 9223372036854775807)
    (hr : Hid (rightC ls = true)) (hx : Hid (lineB ⟨h, N.data.toList, F.data.toList, V.data.toList⟩ = false)) (hlen : ls.length ≤ 64) :
    Calls Tryz.prog 20 #[v, .agg #[.int .i64 h, .string N, .string F, .string V]] w (NewRes (.tuple #[.slice none 0 0, .int .i64 1]) w) := by
  obtain ⟨p, c, rfl⟩ := hv.out.slice
  have hLn := Lib.hid hv.out.lines
  have hB : Hid (BlkAt (w.alloc (.cells #[.int .i64 h, .string N, .string F, .string V] 50)) w.heap.size 50 [.int .i64 h, .string N, .string F, .string V]) := Lib.hid (BlkAt.new _ _ _)
  have hK0 : Hid (Keeps (fun _ => False) w (w.alloc (.cells #[.int .i64 h, .string N, .string F, .string V] 50))) := Lib.hid ((Keeps.refl _ _).alloc _)
  go_enter Tryz.func20, Tryz.ntmps20
  go_upto_region 1 with fail
  generalize w.alloc (.cells #[.int .i64 h, .string N, .string F, .string V] 50) = w1 at hB hK0 ⊢
  refine wp_region_noPanic ?_
  refine wp_region_held_drew (S := (fun W => Keeps (fun _ => False) w1 W)) (by kernel_rfl) (((Keeps.refl _ _).drew)) (fun hHeld => ?_)
  refine tk 0 rfl ?_
  refine stepL 1 rfl (by kernel_rfl) (fun K hK => ?_)
  go_simp
  (refine (right_c _ ls true _ (Lib.hid (hLn.out.keep (hK0.out.trans hHeld) (fun _ _ _ f => f))) (by omega) hlt hr).mono ?_; rintro e w2 ⟨rfl, k2⟩; have k2' := Lib.hid k2; clear k2)
  go_wp2_with fail
  refine hK.out _ _ ((hHeld.trans k2'.out)) (fun hHeld => ?_)
  clear hK K
  try simp only [Act.put, sA, sZ, sS]
  refine tk 2 rfl ?_
  refine tk 3 rfl ?_
  refine tkL 4 rfl (yieldsIf_load_mid (by rfl) 50 (.tmp 3) rfl w.heap.size 0 rfl [.int .i64 h, .string N, .string F, .string V] _ (fun _ s => (hB.out.keep s id).range) Tryz.underlying50 rfl lineInfo) ?_
  refine stepL 5 rfl (by kernel_rfl) (fun K hK => ?_)
  go_simp
  (refine (table_any _).mono ?_; rintro e w3 ⟨gt, rfl, hgt, t3, k3⟩; have k3' := Lib.hid k3; have t3' := Lib.hid t3; clear k3 t3 hgt)
  go_wp2_with fail
  refine hK.out _ _ ((hHeld.trans k3'.out)) (fun hHeld => ?_)
  clear hK K
  try simp only [Act.put, sA, sZ, sS]
  refine stepL 6 rfl (by kernel_rfl) (fun K hK => ?_)
  go_simp
  (refine (canBe_any h N F V gt _ false _ hn hvs t3' hx).mono ?_; rintro e w4 ⟨rfl, k4⟩; have k4' := Lib.hid k4; clear k4 t3')
  go_wp2_with fail
  refine hK.out _ _ ((hHeld.trans k4'.out)) (fun hHeld => ?_)
  clear hK K
  try simp only [Act.put, sA, sZ, sS]
  refine tk 7 rfl ?_
  refine tk 8 rfl ?_
  refine wpAnyH_done (by kernel_rfl) (NoPanic.normal ?_) _
  have hK4 := Lib.hid (hK0.out.trans hHeld)
  clear hHeld
  go_wp2_with fail
  go_ret2
  exact ⟨rfl, hK4.out⟩

theorem lineC_neq (W : World) (h1 h2 : Int) (n1 f1 v1 n2 f2 v2 : ByteArray) (z : Bool) (hz : (z = false) ↔ (h1 = h2 ∧ n1.toList = n2.toList ∧ f1.toList = f2.toList ∧ v1.toList = v2.toList)) :
    (binOp .neq 50 (.agg #[.int .i64 h1, .string n1, .string f1, .string v1]) (.agg #[.int .i64 h2, .string n2, .string f2, .string v2])).run Tryz.prog W = .ok (.bool z) W := by
  by_cases e1 : h1 = h2
  · subst e1
    by_cases e2 : n1.toList = n2.toList
    · by_cases e3 : f1.toList = f2.toList
      · by_cases e4 : v1.toList = v2.toList
        · obtain rfl : z = false := hz.2 ⟨rfl, e2, e3, e4⟩
          go_simp
        · obtain rfl : z = true := by cases z with | true => rfl | false => exact absurd (hz.1 rfl).2.2.2 e4
          go_simp
      · obtain rfl : z = true := by cases z with | true => rfl | false => exact absurd (hz.1 rfl).2.2.1 e3
        go_simp
    · obtain rfl : z = true := by cases z with | true => rfl | false => exact absurd (hz.1 rfl).2.1 e2
      go_simp
  · obtain rfl : z = true := by cases z with | true => rfl | false => exact absurd (hz.1 rfl).1 e1
    go_simp
theorem guardLineC (op : BinOp) (x y : Operand) (xs ys : Array Value) (w : World) : (eqGuard op 50 x y (.agg xs) (.agg ys)).run Tryz.prog w = .ok () w := run_eqGuard_agg w op 50 x y xs ys (by kernel_rfl)
set_option maxRecDepth 100000 in
set_option maxHeartbeats 4000000 in
theorem equal_c (v u : Value) (xs ys : List LineD) (z : Bool) (w : World) (hv : Hid (RowsAt 4 lineVals w v xs)) (hu : Hid (RowsAt 4 lineVals w u ys)) (hl : xs.length ≤ 1000000) (hl2 : ys.length ≤ 1000000) (hz : Hid ((z = true) ↔ xs = ys)) :
    Calls Tryz.prog 60 #[v, u] w (NewRes (.bool z) w) := by
  obtain ⟨p, c, rfl⟩ := hv.out.slice
  obtain ⟨p2, c2, rfl⟩ := hu.out.slice
  by_cases hlen : xs.length = ys.length
  · have hlen' := Lib.hid hlen
    have hne : ((xs.length : Int) != ys.length) = false := by simp [hlen]
    clear hlen
    go_enter Tryz.func60, Tryz.ntmps60
    go_wp2_with fail
    go_loopw [13] (fun iv wr => ∃ (k : Nat), k ≤ xs.length ∧ iv = .int .i64 k ∧ Hid (xs.take k = ys.take k) ∧ Hid (Keeps (fun _ => False) w wr)) (fun iv _ => xs.length - (intOf iv).toNat)
    case atStart => exact ⟨0, by omega, rfl, Lib.hid rfl, Lib.hid (Keeps.refl _ _)⟩
    case round =>
      obtain ⟨k, hk, rfl, hT, hKw⟩ := hrel
      by_cases hlk : k < xs.length
      · have hlk2 : k < ys.length := by have := hlen'.out; omega
        obtain ⟨g, o, rfl, hrows⟩ := hv.out.open (by omega)
        obtain ⟨g2, o2, rfl, hrows2⟩ := hu.out.open (by omega)
        obtain ⟨x, hx⟩ : ∃ q, xs[k]? = some q := ⟨_, List.getElem?_eq_getElem hlk⟩
        obtain ⟨y, hy⟩ : ∃ q, ys[k]? = some q := ⟨_, List.getElem?_eq_getElem hlk2⟩
        obtain ⟨Nx, hN⟩ : ∃ N : ByteArray, N = ⟨x.name.toArray⟩ := ⟨_, rfl⟩
        obtain ⟨Fx, hF⟩ : ∃ N : ByteArray, N = ⟨x.leaf.toArray⟩ := ⟨_, rfl⟩
        obtain ⟨Vx, hV⟩ : ∃ N : ByteArray, N = ⟨x.value.toArray⟩ := ⟨_, rfl⟩
        obtain ⟨Ny, hN2⟩ : ∃ N : ByteArray, N = ⟨y.name.toArray⟩ := ⟨_, rfl⟩
        obtain ⟨Fy, hF2⟩ : ∃ N : ByteArray, N = ⟨y.leaf.toArray⟩ := ⟨_, rfl⟩
        obtain ⟨Vy, hV2⟩ : ∃ N : ByteArray, N = ⟨y.value.toArray⟩ := ⟨_, rfl⟩
        have hrow : Hid (wr.rangeAt g (o + k * 4) [.int .i64 x.head, .string Nx, .string Fx, .string Vx]) := Lib.hid (by rw [hN, hF, hV]; exact hKw.out.rangeAt (hrows k x hx) id)
        have hrow2 : Hid (wr.rangeAt g2 (o2 + k * 4) [.int .i64 y.head, .string Ny, .string Fy, .string Vy]) := Lib.hid (by rw [hN2, hF2, hV2]; exact hKw.out.rangeAt (hrows2 k y hy) id)
        obtain ⟨zz, hzz⟩ : ∃ b : Bool, (b = false) ↔ x = y := by
          by_cases e : x = y
          · exact ⟨false, by simp [e]⟩
          · exact ⟨true, by simp [e]⟩
        have hzz2 : Hid ((zz = false) ↔ (x.head = y.head ∧ Nx.toList = Ny.toList ∧ Fx.toList = Fy.toList ∧ Vx.toList = Vy.toList)) := Lib.hid (by
          rw [hzz]
          simp only [Lib.toList_data, hN, hF, hV, hN2, hF2, hV2]
          constructor
          · rintro rfl; exact ⟨rfl, rfl, rfl, rfl⟩
          · rintro ⟨a1, a2, a3, a4⟩
            cases x; cases y; simp at a1 a2 a3 a4; simp [a1, a2, a3, a4])
        have hx' := Lib.hid hx; have hy' := Lib.hid hy; have hzz' := Lib.hid hzz
        have m1 : (0 : Int) ≤ (k : Int) := by omega
        have m2 : (k : Int) < (xs.length : Int) := by omega
        have m3 : (k : Int) < (ys.length : Int) := by omega
        clear hrows hrows2 hN hF hV hN2 hF2 hV2 hx hy hzz
        go_upto_region 6 with fail
        refine wp_region_noPanic ?_
        refine wp_region_held_drew (S := (fun W => Keeps (fun _ => False) wr W)) (by kernel_rfl) (((Keeps.refl _ _).drew)) (fun hHeld => ?_)
        refine tk 0 rfl ?_
        refine tk 1 rfl ?_
        refine tk 2 rfl ?_
        refine tkL 3 rfl (yieldsIf_load_mid (by rfl) 50 (.tmp 18) rfl g (o + k * 4) rfl [.int .i64 x.head, .string Nx, .string Fx, .string Vx] _ (fun _ s => s.rangeAt hrow.out id) Tryz.underlying50 rfl lineInfo) ?_
        refine tk 4 rfl ?_
        refine tk 5 rfl ?_
        refine tk 6 rfl ?_
        refine tkL 7 rfl (yieldsIf_load_mid (by rfl) 50 (.tmp 22) rfl g2 (o2 + k * 4) rfl [.int .i64 y.head, .string Ny, .string Fy, .string Vy] _ (fun _ s => s.rangeAt hrow2.out id) Tryz.underlying50 rfl lineInfo) ?_
        refine tk 8 (v := .bool zz) (hy := fun wS hSw => by
          have hl := lineC_neq wS x.head y.head Nx Fx Vx Ny Fy Vy zz hzz2.out
          unfold execOp
          simp only [Act.eval, Array.getD_eq_getD_getElem?, List.getElem?_toArray, List.getElem?_cons_zero, List.getElem?_cons_succ, Option.getD_some, Sem.run_bind, Sem.run_pure, Result.andThen_ok, guardLineC, hl]) rfl ?_
        refine wpAnyH_done (by kernel_rfl) (NoPanic.normal ?_) _
        have hKz := Lib.hid (hKw.out.trans hHeld)
        clear hHeld
        cases zz with
        | true =>
          have hzf : Hid (z = false) := Lib.hid (by
            cases z with
            | false => rfl
            | true =>
              have e := hz.out.1 rfl
              have h1 := hx'.out; rw [e, hy'.out] at h1
              injection h1 with h1
              exact absurd (hzz'.out.2 h1.symm) (by decide))
          go_wp2_with fail
          go_ret
          exact ⟨by rw [hzf.out]; rfl, hKz.out⟩
        | false =>
          have exy : x = y := hzz'.out.1 rfl
          have hT2 : Hid (xs.take (k + 1) = ys.take (k + 1)) := Lib.hid (by
            obtain ⟨a1, a2⟩ := List.getElem?_eq_some_iff.1 hx'.out
            obtain ⟨b1, b2⟩ := List.getElem?_eq_some_iff.1 hy'.out
            rw [List.take_succ_eq_append_getElem a1, List.take_succ_eq_append_getElem b1, a2, b2, hT.out, exy])
          clear exy
          go_wp2_with fail
          exact ⟨⟨k + 1, by omega, by go_num, hT2, hKz⟩, by simp [intOf]; omega⟩
      · obtain rfl : k = xs.length := by omega
        have hzt : Hid (z = true) := Lib.hid (hz.out.2 (by
          have e := hT.out
          rw [List.take_length, List.take_of_length_le (by rw [hlen'.out]; exact Nat.le_refl _)] at e
          exact e))
        go_wp2_with fail
        go_ret
        exact ⟨by rw [hzt.out]; rfl, hKw.out⟩
  · have hne : ((xs.length : Int) != ys.length) = true := by simp; omega
    have hzf : Hid (z = false) := Lib.hid (by
      cases z with
      | false => rfl
      | true => exact absurd (congrArg List.length (hz.out.1 rfl)) hlen)
    clear hlen
    go_enter Tryz.func60, Tryz.ntmps60
    go_wp2_with fail
    go_ret
    exact ⟨by rw [hzf.out]; rfl, Keeps.refl _ _⟩

set_option maxRecDepth 100000 in
set_option maxHeartbeats 4000000 in
theorem same_c (v u : Value) (xs ys : List LineD) (z : Bool) (w : World) (hv : Hid (RowsAt 4 lineVals w v xs)) (hu : Hid (RowsAt 4 lineVals w u ys)) (hr : Hid (rightC xs = true)) (hr2 : Hid (rightC ys = true)) (hz : Hid ((z = true) ↔ xs = ys)) :
    Calls Tryz.prog 21 #[v, u] w (NewRes (.bool z) w) := by
  have l1 := right_len hr.out
  have l2 := right_len hr2.out
  obtain ⟨p, c, rfl⟩ := hv.out.slice
  obtain ⟨p2, c2, rfl⟩ := hu.out.slice
  go_enter Tryz.func21, Tryz.ntmps21
  go_wp2_with fail
  refine (right_c _ xs true _ (Lib.hid hv.out.lines) (by omega) (Lib.hid (right_lt hr.out _ (by omega))) hr).mono ?_
  rintro e w2 ⟨rfl, k2⟩
  have hv2 := Lib.hid (hv.out.keep k2); have hu2 := Lib.hid (hu.out.keep k2); have hK2 := Lib.hid k2
  clear k2
  go_wp2_with fail
  refine (right_c _ ys true _ (Lib.hid hu2.out.lines) (by omega) (Lib.hid (right_lt hr2.out _ (by omega))) hr2).mono ?_
  rintro e w3 ⟨rfl, k3⟩
  have hv3 := Lib.hid (hv2.out.keep k3); have hu3 := Lib.hid (hu2.out.keep k3); have hK3 := Lib.hid (hK2.out.trans k3)
  clear k3
  go_wp2_with fail
  refine (equal_c _ _ xs ys z _ hv3 hu3 (by omega) (by omega) hz).mono ?_
  rintro e w4 ⟨rfl, k4⟩
  have hK4 := Lib.hid (hK3.out.trans k4)
  clear k4
  go_wp2_with fail
  go_ret
  exact ⟨rfl, hK4.out⟩
end Go.Proofs.YtdannodhlaaoiaaGreatDoor
