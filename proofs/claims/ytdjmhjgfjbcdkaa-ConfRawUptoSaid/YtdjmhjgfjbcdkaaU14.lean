/- A line out of bytes: plain; conf.getLine, walked. -/
import Derived.Test.YtdjmhjgfjbcdkaaU13
import Derived.BigQuiet
import Derived.Test.YtdjmhjgfjbcdkaaU02
import Derived.Test.YtdjmhjgfjbcdkaaU10
import Derived.Test.YtdjmhjgfjbcdkaaU09
set_option linter.unusedVariables false
set_option linter.unusedSimpArgs false
set_option linter.unusedVariables false
set_option linter.unusedSimpArgs false
namespace Go.Proofs.Ytdjmhjgfjbcdkaa
open Go.RowKit

def setF (q : LineD) : Nat → List UInt8 → LineD
  | 0, s => { q with name := s }
  | 1, s => { q with leaf := s }
  | _, s => { q with value := s }
/-- so many texts are still to come -/
def contL : Nat → LineD → List UInt8 → Option (LineD × List UInt8)
  | 0, q, r => some (q, r)
  | n + 1, q, r => match getT r with
    | none => none
    | some (s, r') => contL n (setF q (2 - n) s) r'
theorem getLn_cont (h : UInt8) (r : List UInt8) : getLn h r = contL 3 ⟨h.toNat, [], [], []⟩ r := by
  unfold getLn
  simp only [contL]
  cases h1 : getT r with
  | none => rfl
  | some a =>
    obtain ⟨n, b1⟩ := a
    simp only []
    cases h2 : getT b1 with
    | none => rfl
    | some a =>
      obtain ⟨l, b2⟩ := a
      simp only []
      cases h3 : getT b2 with
      | none => rfl
      | some a => obtain ⟨v, b3⟩ := a; rfl
theorem contL_none {n : Nat} {q : LineD} {r : List UInt8} (h : getT r = none) : contL (n + 1) q r = none := by simp only [contL, h]
theorem contL_some {n : Nat} {q : LineD} {r s r' : List UInt8} (h : getT r = some (s, r')) : contL (n + 1) q r = contL n (setF q (2 - n) s) r' := by simp only [contL, h]
theorem getT_short {n : UInt8} {t : List UInt8} (h : t.length < n.toNat) : getT (n :: t) = none := by unfold getT; simp only [if_pos h]
theorem getT_yes {n : UInt8} {t : List UInt8} (h : ¬ t.length < n.toNat) : getT (n :: t) = some (t.take n.toNat, t.drop n.toNat) := by unfold getT; simp only [if_neg h]
theorem setF_head (q : LineD) (i : Nat) (s : List UInt8) : (setF q i s).head = q.head := by
  match i with
  | 0 => rfl
  | 1 => rfl
  | _ + 2 => rfl
def txtVals (q : LineD) : List Value := [strv q.name, strv q.leaf, strv q.value]
theorem setF_vals (q : LineD) (i : Nat) (hi : i < 3) (s : List UInt8) : txtVals (setF q i s) = (txtVals q).set i (strv s) := by
  match i, hi with
  | 0, _ => rfl
  | 1, _ => rfl
  | 2, _ => rfl
/-- a part of bytes that lie there -/
theorem bytes_tail {w : World} {g o c : Nat} {l : List UInt8} (h : w.rangeAt g o (l.map bv)) (hc : l.length ≤ c) (k : Nat) (hk : k ≤ l.length) :
    BytesAt w (.slice (if c = k then some ⟨g, o, none⟩ else some ⟨g, o + k, none⟩) (l.length - k) (c - k)) (l.drop k) := by
  by_cases e : c = k
  · rw [if_pos e]
    have hn : l.drop k = [] := List.drop_of_length_le (by omega)
    rw [hn, show l.length - k = 0 by omega]
    exact ⟨some ⟨g, o, none⟩, _, rfl, (fun h => nomatch h), Nat.zero_le _, fun h => by simp at h⟩
  · rw [if_neg e]
    have := range_part h k (l.length - k)
    rw [List.take_of_length_le (by simp)] at this
    exact BytesAt.of (by simp) (by omega) this
theorem conv_part {w : World} {g o c : Nat} {l : List UInt8} (h : w.rangeAt g o (l.map bv)) (i n : Nat) (hi : i + n ≤ l.length) :
    (convert 50 9 (.slice (some ⟨g, o + i, none⟩) n c)).run Try.prog w = .ok (.string ⟨((l.drop i).take n).toArray⟩) w := by
  have h1 := conv_str g (o + i) c _ w (range_part h i n)
  rwa [List.length_take, List.length_drop, Nat.min_eq_left (by omega)] at h1
/-- a text cut out of bytes, as the walk spells it -/
theorem conv_cut {w : World} {g o c : Nat} {l : List UInt8} (h : w.rangeAt g o (l.map bv)) (hc : l.length ≤ c) (i n : Nat) (hi : i + n ≤ l.length) :
    (convert 50 9 (.slice (if c = i then some ⟨g, o, none⟩ else some ⟨g, o + i, none⟩) n (c - i))).run Try.prog w = .ok (.string ⟨((l.drop i).take n).toArray⟩) w := by
  by_cases e : c = i
  · rw [if_pos e]
    have hn : n = 0 := by omega
    subst hn
    have := conv_str g o (c - i) [] w (fun j u hu => by simp at hu)
    simpa using this
  · rw [if_neg e]
    exact conv_part h i n hi
theorem wp_store_cell {P : Program} {op : Oper} {a : Act} {w : World} {K : Act → World → Prop} {Q : Exit → Act → World → Prop} (ty : TypeId) (x y : Operand) (ho : op.op = .store ty x y)
    (b o : Nat) (v : Value) (hx : a.eval x = .pointer (some ⟨b, o, none⟩)) (hy : a.eval y = v) (hs : (storeVar ty ⟨b, o, none⟩ v).run P w = .ok () (w.setCell ⟨b, o, none⟩ v))
    (h : K (a.put op.dst undef) (w.setCell ⟨b, o, none⟩ v)) : op.wp P a w K Q := by
  unfold Oper.wp execOp
  simp only [ho, hx, hy, Instr.storeAt, Instr.sureAddr, Sem.run_bind, Sem.run_pure, Result.andThen_ok, hs]
  exact h
theorem store_str (w : World) (b o : Nat) (u : Value) (s : ByteArray) (h : w.cell? ⟨b, o, none⟩ = some u) (hf : w.frozen? ⟨b, o, none⟩ = false) : (storeVar 9 ⟨b, o, none⟩ (.string s)).run Try.prog w = .ok () (w.setCell ⟨b, o, none⟩ (.string s)) := by
  simp [go_sem, h, hf]
theorem load_u8 (w : World) (b o : Nat) (v : Value) (h : w.cell? ⟨b, o, none⟩ = some v) : (loadVar 5 ⟨b, o, none⟩).run Try.prog w = .ok v w := by
  simp [go_sem, h]
theorem yieldsIf_conv {P : Program} {ops : Array Oper} {S : World → Prop} {op : Oper} {a : Act} (hw : Region.wanted op (yielded ops a.tmps) = true) (ft tt : TypeId) (x : Operand) (ho : op.op = .convert ft tt x) (xv v : Value) (hx : a.eval x = xv)
    (hS : ∀ w, S w → (convert ft tt xv).run P w = .ok v w) : YieldsIf P ops S op v a :=
  .inl ⟨hw, fun w hw' => by
    unfold execOp
    simp only [ho, hx, Sem.run_bind, hS w hw', Result.andThen_ok]; rfl⟩
theorem byte_i64 (b : UInt8) : IntKind.i64.wrap (b.toNat : Int) = (b.toNat : Int) := IntWalk.i64_in _ (by have := b.toNat_lt; omega)

/-- what getLine tells -/
def LinePost (w0 : World) (a : Option (LineD × List UInt8)) (w : World) (e : Ending) (w' : World) : Prop :=
  Keeps (fun _ => False) w w' ∧ match a with
    | none => e = .returned (.tuple #[.agg #[.int .i64 0, .string ⟨#[]⟩, .string ⟨#[]⟩, .string ⟨#[]⟩], .slice none 0 0, .bool false])
    | some (q, r) => ∃ p c N F V, e = .returned (.tuple #[.agg #[.int .i64 q.head, .string N, .string F, .string V], .slice p r.length c, .bool true]) ∧ q = ⟨q.head, N.data.toList, F.data.toList, V.data.toList⟩ ∧ BytesAt w0 (.slice p r.length c) r

set_option maxRecDepth 100000 in
set_option maxHeartbeats 16000000 in
theorem getLine_any (v : Value) (h : UInt8) (x : List UInt8) (w00 w : World) (hv : Hid (BytesAt w00 v (h :: x))) (hk00 : Hid (Keeps (fun _ => False) w00 w)) (hl : x.length ≤ 1048576) :
    Calls Try.prog 45 #[v] w (LinePost w00 (getLn h x) w) := by
  obtain ⟨p, c, rfl, -, hcap, hr⟩ := hv.out
  obtain ⟨g, o, rfl, hr2⟩ := hr (by simp)
  simp only [List.length_cons] at hcap ⊢
  have hr := hr2
  have hgw : g < w00.heap.size := by have := World.block_lt_of_cell? w00 _ (hr 0 _ rfl); exact this
  have hr' := Lib.hid hr
  have hgw' := Lib.hid hgw
  clear hr hr2 hgw hv
  have hz0 : Hid (BlkAt (w.alloc (.cells #[.int .i64 0, .string ⟨#[]⟩, .string ⟨#[]⟩, .string ⟨#[]⟩] 36)) w.heap.size 36 [.int .i64 0, .string ⟨#[]⟩, .string ⟨#[]⟩, .string ⟨#[]⟩]) := Lib.hid (BlkAt.new _ _ _)
  have hk0 : Hid (Keeps (fun _ => False) w (w.alloc (.cells #[.int .i64 0, .string ⟨#[]⟩, .string ⟨#[]⟩, .string ⟨#[]⟩] 36))) := Lib.hid ((Keeps.refl _ _).alloc _)
  go_enter Try.func45, Try.ntmps45
  go_upto_region 1 with fail
  generalize hB : w.heap.size = B at hz0 ⊢
  generalize hW : w.alloc (.cells #[.int .i64 0, .string ⟨#[]⟩, .string ⟨#[]⟩, .string ⟨#[]⟩] 36) = W at hz0 hk0 ⊢
  have hB' := Lib.hid hB
  clear hB hW
  have c0 : W.cell? ⟨g, o, none⟩ = some (.int .u8 h.toNat) := by have := hk0.out.rangeAt (hk00.out.rangeAt hr'.out id) id 0 _ rfl; exact this
  have e0 := byte_i64 h
  have e1 : (1 : Int) ≤ (x.length : Int) + 1 := by omega
  have e2 : (x.length : Int) + 1 ≤ (c : Int) := by omega
  obtain ⟨pp, hpp⟩ : ∃ pp, (if c = 1 then some (⟨g, o, none⟩ : Addr) else some ⟨g, o + 1, none⟩) = pp := ⟨_, rfl⟩
  have hbt : Hid (BytesAt w00 (.slice pp x.length (c - 1)) x) := Lib.hid (by rw [← hpp]; have := bytes_tail hr'.out hcap 1 (by simp); simpa using this)
  have hcell : Hid (∀ W', Keeps (fun _ => False) W W' → W'.cell? ⟨g, o, none⟩ = some (.int .u8 h.toNat)) := Lib.hid (fun W' k => by have := k.rangeAt (hk0.out.rangeAt (hk00.out.rangeAt hr'.out id) id) id 0 _ rfl; exact this)
  clear c0
  refine wp_region_noPanic ?_
  refine wp_region_held_drew (S := (fun W' => Keeps (fun _ => False) W W')) (by kernel_rfl) (((Keeps.refl (fun _ => False) _).drew)) (fun hHeld => ?_)
  refine tk 0 rfl ?_
  refine tk 1 rfl ?_
  refine tkL 2 rfl (yieldsIf_load_cell (by rfl) 5 (.tmp 11) rfl g o rfl _ (fun W' s => hcell.out W' s) (fun W' s => load_u8 W' _ _ _ s)) ?_
  refine tk 3 rfl ?_
  refine tk 4 rfl ?_
  refine tk 5 rfl ?_
  refine tk 6 rfl ?_
  refine tk 7 rfl ?_
  refine wpAnyH_done (by kernel_rfl) (NoPanic.normal ?_) _
  have hk1 := Lib.hid (hk0.out.trans hHeld)
  have hz1 := Lib.hid (hz0.out.keep hHeld (fun f => f))
  clear hHeld hz0 hk0 hcell e1 e2 e0
  have hpp' := Lib.hid hpp
  clear hpp hr'
  generalize W.drew = W1 at hk1 hz1 ⊢
  have hBw : Hid (w.heap.size ≤ B) := Lib.hid (by rw [hB'.out]; exact Nat.le_refl _)
  have hgT : Hid (w.heap.size ≤ W1.heap.size ∧ ¬ B = W1.heap.size) := Lib.hid ⟨hk1.out.size, by have h1 := lt_of_block hz1.out; omega⟩
  have hT0 : Hid (BlkAt (W1.alloc (.cells #[.string ⟨#[]⟩, .string ⟨#[]⟩, .string ⟨#[]⟩] 98)) W1.heap.size 98 (txtVals ⟨h.toNat, [], [], []⟩)) := Lib.hid (BlkAt.new _ _ _)
  have hz2 := Lib.hid (hz1.out.alloc (.cells #[.string ⟨#[]⟩, .string ⟨#[]⟩, .string ⟨#[]⟩] 98))
  clear hz1
  go_wp2_with fail
  generalize hgTd : W1.heap.size = gT at hgT hT0 ⊢
  go_loopw [16, 6] (fun iv bv' wr => ∃ (j : Nat) (q : LineD) (r : List UInt8) (pr : Option Addr) (cr : Nat), j ≤ 3 ∧ iv = .int .i64 j ∧ bv' = .slice pr r.length cr ∧ r.length ≤ x.length ∧ Hid (getLn h x = contL (3 - j) q r) ∧ Hid (q.head = h.toNat) ∧ Hid (BytesAt w00 (.slice pr r.length cr) r) ∧ Hid (BlkAt wr gT 98 (txtVals q)) ∧ Hid (Keeps (fun k => k = gT) (W1.alloc (.cells #[.string ⟨#[]⟩, .string ⟨#[]⟩, .string ⟨#[]⟩] 98)) wr)) (fun iv _ _ => 3 - (intOf iv).toNat)
  case atStart => exact ⟨0, ⟨h.toNat, [], [], []⟩, x, pp, c - 1, by omega, rfl, rfl, Nat.le_refl _, Lib.hid (getLn_cont h x), Lib.hid rfl, hbt, hT0, Lib.hid (Keeps.refl _ _)⟩
  case round =>
    obtain ⟨j, q, r, pr, cr, hj, rfl, rfl, hrl, hg, hqh, hB, hT, hKr⟩ := hrel
    by_cases hj3 : j < 3
    · have j0 : (0 : Int) ≤ (j : Int) := by omega
      have j1 : (j : Int) < 3 := by omega
      cases r with
      | nil =>
        have hans : Hid (getLn h x = none) := Lib.hid (by rw [hg.out, show 3 - j = (2 - j) + 1 by omega]; exact contL_none (rfl))
        have hkw := Lib.hid ((hk1.out.trans ((Keeps.refl (fun _ => False) _).alloc _)).trans' hKr.out (fun i e => .inr (by rw [e]; exact hgT.out.1)))
        have hzr := Lib.hid (hz2.out.keep hKr.out hgT.out.2)
        clear hg hT hKr hB
        go_wp2_with ((with_reducible refine at_store 2 ?_); refine wpList_store_blk rfl 36 (.tmp 2) (.tmp 32) rfl B #[.int .i64 0, .string ⟨#[]⟩, .string ⟨#[]⟩, .string ⟨#[]⟩] rfl rfl (hzr.out.there 0 4 (by decide)) lineInfo (line_one _ _ _ _) ?_; intro w9 hr9 hs9)
        have e0 := rangeAt_cell hr9.out 0 _ rfl
        have e1 := rangeAt_cell hr9.out 1 _ rfl
        have e2 := rangeAt_cell hr9.out 2 _ rfl
        have e3 := rangeAt_cell hr9.out 3 _ rfl
        rw [hans.out]
        refine bodyPost_ret (v := .tuple #[.agg #[.int .i64 0, .string ⟨#[]⟩, .string ⟨#[]⟩, .string ⟨#[]⟩], .slice none 0 0, .bool false]) (by simp [results, Try.results45, go_sem, e0, e1, e2, e3]) rfl ⟨hkw.out.trans' hs9.out (fun i e => .inr (by rw [e]; exact hBw.out)), rfl⟩
      | cons n s =>
        simp only [List.length_cons] at hrl hB ⊢
        obtain ⟨p9, c9, e9, -, hcap2, hr0⟩ := hB.out
        obtain ⟨g2, o2, rfl, hr2⟩ := hr0 (by simp)
        injection e9 with e91 e92 e93
        subst e91; subst e93
        clear e92 hr0
        simp only [List.length_cons] at hcap2
        have hkw := Lib.hid ((hk1.out.trans ((Keeps.refl (fun _ => False) _).alloc (.cells #[.string ⟨#[]⟩, .string ⟨#[]⟩, .string ⟨#[]⟩] 98))).trans' hKr.out (fun i e => .inr (by rw [e]; exact hgT.out.1)))
        have hr3 := Lib.hid (hkw.out.rangeAt (hk00.out.rangeAt hr2 id) id)
        have hr4 := Lib.hid hr2
        have d0 : wr.cell? ⟨g2, o2, none⟩ = some (.int .u8 n.toNat) := by have := hr3.out 0 _ rfl; exact this
        have n0 := byte_i64 n
        have n1 := n.toNat_lt
        have n2 : IntKind.i64.wrap ((s.length : Int) + 1 - 1) = (s.length : Int) := by rw [Int.add_sub_cancel]; exact IntWalk.i64_in _ (by omega)
        have n3 : ((s.length : Int) + 1 == 0) = false := by simp; omega
        have n4 : (0 : Int) < (s.length : Int) + 1 := by omega
        have hcap2' := Lib.hid hcap2
        have hrl' := Lib.hid hrl
        clear hr2 hcap2
        by_cases hsn : s.length < n.toNat
        · have n5 : (s.length : Int) < (n.toNat : Int) := by omega
          have hans : Hid (getLn h x = none) := Lib.hid (by rw [hg.out, show 3 - j = (2 - j) + 1 by omega]; exact contL_none (getT_short hsn))
          have hkw2 := Lib.hid ((hk1.out.trans ((Keeps.refl (fun _ => False) _).alloc _)).trans' hKr.out (fun i e => .inr (by rw [e]; exact hgT.out.1)))
          have hzr := Lib.hid (hz2.out.keep hKr.out hgT.out.2)
          clear hg hT hKr hB
          go_wp2_with ((with_reducible refine at_store 2 ?_); refine wpList_store_blk rfl 36 (.tmp 2) (.tmp 32) rfl B #[.int .i64 0, .string ⟨#[]⟩, .string ⟨#[]⟩, .string ⟨#[]⟩] rfl rfl (hzr.out.there 0 4 (by decide)) lineInfo (line_one _ _ _ _) ?_; intro w9 hr9 hs9)
          have e0 := rangeAt_cell hr9.out 0 _ rfl
          have e1 := rangeAt_cell hr9.out 1 _ rfl
          have e2 := rangeAt_cell hr9.out 2 _ rfl
          have e3 := rangeAt_cell hr9.out 3 _ rfl
          rw [hans.out]
          refine bodyPost_ret (v := .tuple #[.agg #[.int .i64 0, .string ⟨#[]⟩, .string ⟨#[]⟩, .string ⟨#[]⟩], .slice none 0 0, .bool false]) (by simp [results, Try.results45, go_sem, e0, e1, e2, e3]) rfl ⟨hkw2.out.trans' hs9.out (fun i e => .inr (by rw [e]; exact hBw.out)), rfl⟩
        · have n5 : ¬ (s.length : Int) < (n.toNat : Int) := by omega
          go_upto_region 9 with fail
          have m1 : (1 : Int) ≤ 1 + (n.toNat : Int) := by omega
          have m2 : 1 + (n.toNat : Int) ≤ (cr : Int) := by have := hcap2'.out; omega
          have m3 : 1 + (n.toNat : Int) ≤ (s.length : Int) + 1 := by omega
          have m4 : (s.length : Int) + 1 ≤ (cr : Int) := by have := hcap2'.out; omega
          have m5 : (0 : Int) ≤ 1 + (n.toNat : Int) := by omega
          have m6 : (1 + (n.toNat : Int)).toNat = n.toNat + 1 := by omega
          obtain ⟨p6, hp6⟩ : ∃ pp, (if cr = 1 then some (⟨g2, o2, none⟩ : Addr) else some ⟨g2, o2 + 1, none⟩) = pp := ⟨_, rfl⟩
          obtain ⟨p7, hp7⟩ : ∃ pp, (if cr = n.toNat + 1 then some (⟨g2, o2, none⟩ : Addr) else some ⟨g2, o2 + (n.toNat + 1), none⟩) = pp := ⟨_, rfl⟩
          have hg2T : Hid (¬ g2 = gT) := Lib.hid (by
            have h1 : g2 < w00.heap.size := World.block_lt_of_cell? w00 _ (hr4.out 0 _ rfl)
            have h2 := hk00.out.size
            have h3 := hgT.out.1
            omega)
          have hconv : Hid (∀ W', Keeps (fun k => k = gT) wr W' → (convert 50 9 (.slice p6 n.toNat (cr - 1))).run Try.prog W' = .ok (.string ⟨(s.take n.toNat).toArray⟩) W') := Lib.hid (fun W' k => by
            have := conv_cut (k.rangeAt hr3.out hg2T.out) hcap2'.out 1 n.toNat (by simp; omega)
            rw [← hp6]; exact this)
          have hbn : Hid (BytesAt w00 (.slice p7 (s.length - n.toNat) (cr - (n.toNat + 1))) (s.drop n.toNat)) := Lib.hid (by
            have := bytes_tail hr4.out hcap2'.out (n.toNat + 1) (by simp; omega)
            rw [← hp7]; simpa using this)
          obtain ⟨S, hS⟩ : ∃ S : ByteArray, (⟨(s.take n.toNat).toArray⟩ : ByteArray) = S := ⟨_, rfl⟩
          obtain ⟨u, hu⟩ : ∃ u, (txtVals q)[j]? = some u := ⟨_, List.getElem?_eq_getElem (by simpa [txtVals] using hj3)⟩
          have hTd := Lib.hid (hT.out.keep ((Keeps.refl (fun _ => False) wr).drew) id)
          have hst := Lib.hid (store_str wr.drew gT j u S (hTd.out.cell j u hu) (hTd.out.frozen j))
          have hTn : Hid (BlkAt (wr.drew.setCell ⟨gT, j, none⟩ (.string S)) gT 98 (txtVals (setF q j (s.take n.toNat)))) := Lib.hid (by rw [setF_vals q j hj3, ← hS]; rw [← hS] at *; exact hTd.out.set j _)
          have hgn : Hid (getLn h x = contL (3 - (j + 1)) (setF q j (s.take n.toNat)) (s.drop n.toNat)) := Lib.hid (by
            rw [hg.out, show 3 - j = (2 - j) + 1 by omega, contL_some (getT_yes hsn), show 2 - (2 - j) = j by omega, show 3 - (j + 1) = 2 - j by omega])
          have hqn : Hid ((setF q j (s.take n.toNat)).head = h.toNat) := Lib.hid (by rw [setF_head]; exact hqh.out)
          rw [hS] at hconv
          clear hS hu hTd hg hT hB hr3 hr4 d0 hkw hcap2'
          refine wp_region_noPanic ?_
          refine wp_region_held_drew (S := (fun W' => Keeps (fun k => k = gT) wr W')) (by kernel_rfl) (((Keeps.refl _ _).drew)) (fun hHeld => ?_)
          refine tk 0 rfl ?_
          refine tk 1 rfl ?_
          refine tk 2 rfl ?_
          refine tk 3 rfl ?_
          refine tkL 4 rfl (yieldsIf_conv (by rfl) 50 9 (.tmp 41) rfl _ (.string S) rfl (fun W' s => hconv.out W' s)) ?_
          refine tk 5 rfl ?_
          refine tk 6 rfl ?_
          refine tk 7 rfl ?_
          refine tk 8 rfl ?_
          refine stepL 9 rfl (by kernel_rfl) (fun K hK => ?_)
          rw [if_pos (by rfl)]
          (refine wp_store_cell 9 (.tmp 46) (.tmp 42) rfl gT j (.string S) rfl rfl hst.out ?_)
          refine hK.out _ _ ((hHeld.setCell (p := ⟨gT, j, none⟩) (.inl rfl) _)) (fun hHeld => ?_)
          clear hK K
          try simp only [Act.put, sA, sZ, sS]
          refine tk 10 rfl ?_
          refine wpAnyH_done (by kernel_rfl) (NoPanic.normal ?_) _
          have hKn := Lib.hid (hKr.out.trans hHeld)
          clear hHeld hst hconv hKr
          have hsl : (s.drop n.toNat).length = s.length - n.toNat := by simp
          have hrn : (s.drop n.toNat).length ≤ x.length := by have := hrl'.out; omega
          rw [← hsl] at hbn
          have hsl' := Lib.hid hsl
          clear m1 m2 m3 m4 m5 m6 hsl hp6 hp7
          go_wp2_with fail
          exact ⟨⟨j + 1, setF q j (s.take n.toNat), s.drop n.toNat, p7, cr - (n.toNat + 1), by omega, by go_num, by rw [hsl'.out], hrn, hgn, hqn, hbn, hTn, hKn⟩, by simp [intOf]; omega⟩
    · obtain rfl : j = 3 := by omega
      obtain ⟨N, hN⟩ : ∃ N : ByteArray, N = ⟨q.name.toArray⟩ := ⟨_, rfl⟩
      obtain ⟨F, hF⟩ : ∃ N : ByteArray, N = ⟨q.leaf.toArray⟩ := ⟨_, rfl⟩
      obtain ⟨V, hV⟩ : ∃ N : ByteArray, N = ⟨q.value.toArray⟩ := ⟨_, rfl⟩
      have hT3 : BlkAt wr gT 98 [.string N, .string F, .string V] := by rw [hN, hF, hV]; exact hT.out
      have t0 := hT3.cell 0 _ rfl
      have t1 := hT3.cell 1 _ rfl
      have t2 := hT3.cell 2 _ rfl
      have hans : Hid (getLn h x = some (q, r)) := Lib.hid hg.out
      have hqd : Hid (q = ⟨(h.toNat : Nat), N.data.toList, F.data.toList, V.data.toList⟩) := Lib.hid (by rw [hN, hF, hV, ← hqh.out])
      have hkw := Lib.hid ((hk1.out.trans ((Keeps.refl (fun _ => False) _).alloc _)).trans' hKr.out (fun i e => .inr (by rw [e]; exact hgT.out.1)))
      have hzr := Lib.hid (hz2.out.keep hKr.out hgT.out.2)
      clear hg hT hT3 hKr hN hF hV hz2 hk1
      go_wp2_with ((with_reducible refine at_store 2 ?_); refine wpList_store_blk rfl 36 (.tmp 2) (.tmp 55) rfl B #[.int .i64 (h.toNat : Nat), .string N, .string F, .string V] rfl rfl (hzr.out.there 0 4 (by decide)) lineInfo (line_one _ _ _ _) ?_; intro w9 hr9 hs9)
      have e0 := rangeAt_cell hr9.out 0 _ rfl
      have e1 := rangeAt_cell hr9.out 1 _ rfl
      have e2 := rangeAt_cell hr9.out 2 _ rfl
      have e3 := rangeAt_cell hr9.out 3 _ rfl
      rw [hans.out]
      refine bodyPost_ret (v := .tuple #[.agg #[.int .i64 (h.toNat : Nat), .string N, .string F, .string V], .slice pr r.length cr, .bool true]) (by simp [results, Try.results45, go_sem, e0, e1, e2, e3]) rfl ⟨hkw.out.trans' hs9.out (fun i e => .inr (by rw [e]; exact hBw.out)), pr, cr, N, F, V, by rw [hqh.out], hqd.out.trans (by rw [← hqh.out]), hB.out⟩
end Go.Proofs.Ytdjmhjgfjbcdkaa
/- Rows of texts held against each other; reads. -/
namespace Go.Proofs.Ytdjmhjgfjbcdkaa
open Go.RowKit

set_option maxRecDepth 100000 in
theorem rSame3_any (a b : Value) (xs ys : List (List UInt8)) (w : World) (ha : StrsAt w a xs) (hb : StrsAt w b ys) (hl1 : xs.length ≤ 9223372036854775807) (hl2 : ys.length ≤ 9223372036854775807) :
    Calls Try.prog 17 #[a, b] w fun e w' => e = .returned (.bool (xs == ys)) ∧ ∃ n, w' = w.drewN n := by
  obtain ⟨p, c, rfl, ha⟩ := ha
  obtain ⟨q, d, rfl, hb⟩ := hb
  by_cases hl : xs.length = ys.length
  · have hl' : ((xs.length : Int) != (ys.length : Int)) = false := by rw [hl]; simp
    have hl'' : (xs.length != ys.length) = false := by rw [hl]; simp
    have hlh := Lib.hid hl; clear hl
    have ha' := Lib.hid ha; have hb' := Lib.hid hb; clear ha hb
    go_enter Try.func17, Try.ntmps17
    go_wp2
    go_loopw [5] (fun i wr => ∃ (k m : Nat), k ≤ xs.length ∧ i = .int .i64 k ∧ wr = w.drewN m ∧ Hid (xs.take k = ys.take k)) (fun i _ => xs.length - (intOf i).toNat)
    case atStart => exact ⟨0, 0, by omega, rfl, rfl, Lib.hid (by simp)⟩
    case round =>
      obtain ⟨k, m, hk, rfl, rfl, heq⟩ := hrel
      by_cases hlt : k < xs.length
      · have hlt2 : k < ys.length := by have := hlh.out; omega
        obtain ⟨g, o, rfl, hr⟩ := ha'.out (by omega)
        obtain ⟨g2, o2, rfl, hr2⟩ := hb'.out (by omega)
        obtain ⟨X, hX⟩ : ∃ X : ByteArray, X = ⟨(xs[k]).toArray⟩ := ⟨_, rfl⟩
        obtain ⟨Y, hY⟩ : ∃ Y : ByteArray, Y = ⟨(ys[k]).toArray⟩ := ⟨_, rfl⟩
        have c1 : w.cell? ⟨g, o + k, none⟩ = some (.string X) := by rw [hX]; exact hr k _ (by simp [hlt, strv])
        have c2 : w.cell? ⟨g2, o2 + k, none⟩ = some (.string Y) := by rw [hY]; exact hr2 k _ (by simp [hlt2, strv])
        by_cases he : xs[k] = ys[k]
        · have hE : (X.toList == Y.toList) = true := by rw [hX, hY, ba_toList, ba_toList, he]; simp
          have hX' := Lib.hid hX; have hY' := Lib.hid hY; clear hX hY hr hr2
          have hn : Hid (xs.take (k + 1) = ys.take (k + 1)) := Lib.hid (by
            rw [List.take_succ_eq_append_getElem hlt, List.take_succ_eq_append_getElem hlt2, heq.out, he])
          clear heq he
          go_wp2
          go_quiet (fail)
          go_wp2
          go_roundw
          case rel => exact ⟨k + 1, _, by omega, by go_num, rfl, hn⟩
          case measure => simp [intOf]; omega
        · have hE : (X.toList == Y.toList) = false := by rw [hX, hY, ba_toList, ba_toList]; simpa using he
          have hn : Hid ((xs == ys) = false) := Lib.hid (by rw [beq_eq_false_iff_ne]; rintro rfl; exact he rfl)
          have hX' := Lib.hid hX; have hY' := Lib.hid hY; clear hX hY hr hr2 heq he
          go_wp2
          go_quiet (fail)
          go_wp2
          go_ret
          exact ⟨by rw [hn.out]; rfl, m + nq, by simp⟩
      · obtain rfl : k = xs.length := by omega
        have hn : Hid ((xs == ys) = true) := Lib.hid (by
          rw [beq_iff_eq]
          have h := heq.out
          rw [hlh.out] at h
          rw [← hlh.out, List.take_length, hlh.out, List.take_length] at h
          exact h)
        clear heq
        go_wp2
        go_ret
        exact ⟨by rw [hn.out]; rfl, _, rfl⟩
  · have hl' : ((xs.length : Int) != (ys.length : Int)) = true := by rw [bne_iff_ne]; omega
    have hl'' : (xs.length != ys.length) = true := by simpa using hl
    have hn : Hid ((xs == ys) = false) := Lib.hid (by rw [beq_eq_false_iff_ne]; rintro rfl; exact hl rfl)
    clear hl ha hb
    go_enter Try.func17, Try.ntmps17
    go_wp2
    go_ret
    exact ⟨by rw [hn.out]; rfl, 0, rfl⟩

end Go.Proofs.Ytdjmhjgfjbcdkaa
/- Set, Delete, Names of a right configuration: what both sides answer, said alike. -/
set_option linter.unusedVariables false
set_option linter.unusedSimpArgs false
namespace Go.Proofs.Ytdjmhjgfjbcdkaa
open Go.RowKit

def ResPost (r : List LineD × Nat) (w : World) (e : Ending) (w' : World) : Prop :=
  ∃ p c, e = .returned (.tuple #[.slice p r.1.length c, .int .i64 (r.2 : Int)]) ∧ RowsAt 4 lineVals w' (.slice p r.1.length c) r.1 ∧ Keeps (fun _ => False) w w'
def setR (x : LineD) (ls : List LineD) : List LineD × Nat := if lineB x = true then (if (setC x ls).length ≤ 64 then (setC x ls, 0) else ([], 5)) else ([], 1)
def delR (h : Int) (n l : List UInt8) (ls : List LineD) : List LineD × Nat := if (delC h n l ls).length = ls.length then ([], 6) else (delC h n l ls, 0)
theorem setR_right {x : LineD} {ls : List LineD} (hr : rightC ls = true) : rightC (setR x ls).1 = true := by
  unfold setR
  split
  · rename_i hx
    split
    · rename_i hl; exact right_setC hr hx hl
    · decide +kernel
  · decide +kernel
theorem delR_right {h : Int} {n l : List UInt8} {ls : List LineD} (hr : rightC ls = true) : rightC (delR h n l ls).1 = true := by
  unfold delR
  split
  · decide +kernel
  · exact right_del hr

theorem set_any (v : Value) (ls : List LineD) (h : Int) (N F V : ByteArray) (w : World) (hv : Hid (RowsAt 4 lineVals w v ls)) (hr : Hid (rightC ls = true)) (hn : N.size ≤ 8796093022000) (hvs : V.size ≤ 8796093022000) :
    Calls Try.prog 12 #[v, .agg #[.int .i64 h, .string N, .string F, .string V]] w (ResPost (setR ⟨h, N.data.toList, F.data.toList, V.data.toList⟩ ls) w) := by
  have hlen := right_len hr.out
  have hlt := Lib.hid (right_lt hr.out 9223372036854775807 (by omega))
  obtain ⟨x, hx⟩ : ∃ x : LineD, x = ⟨h, N.data.toList, F.data.toList, V.data.toList⟩ := ⟨_, rfl⟩
  unfold setR
  rw [← hx]
  cases hz : lineB x with
  | false =>
    rw [if_neg (by simp)]
    refine (set_no v ls h N F V w hv hlt (by omega) (by omega) hr (Lib.hid (hx ▸ hz)) hlen).mono ?_
    rintro e w2 ⟨rfl, k⟩
    exact ⟨none, 0, rfl, RowsAt.nil w2, k⟩
  | true =>
    rw [if_pos rfl]
    obtain ⟨z, hth⟩ : ∃ z, thereB x ls = z := ⟨_, rfl⟩
    by_cases hl : (setC x ls).length ≤ 64
    · rw [if_pos hl]
      have h64 : z = false → ls.length < 64 := fun e => by
        rw [setC_len, hth, e] at hl; simp at hl; omega
      refine (set_ok v ls h N F V z w hv hlt (by omega) (by omega) hr (Lib.hid (hx ▸ hz)) (Lib.hid (hx ▸ hth)) hlen h64).mono ?_
      rintro e w2 ⟨p, c, rfl, hO, k⟩
      rw [← hx] at hO ⊢
      exact ⟨p, c, rfl, hO.at lineVals_len, k⟩
    · rw [if_neg hl]
      have hf : thereB x ls = false := by
        cases ht : thereB x ls with
        | false => rfl
        | true => rw [setC_len, if_pos ht] at hl; omega
      have h64 : ls.length = 64 := by rw [setC_len, hf] at hl; simp at hl; omega
      refine (set_full v ls h N F V w hv hlt (by omega) (by omega) hr (Lib.hid (hx ▸ hz)) (Lib.hid (hx ▸ hf)) (Lib.hid h64)).mono ?_
      rintro e w2 ⟨rfl, k⟩
      exact ⟨none, 0, rfl, RowsAt.nil w2, k⟩

theorem rSet_any (v : Value) (ls : List LineD) (h : Int) (N F V : ByteArray) (w : World) (hv : Hid (RowsAt 4 lineVals w v ls)) (hr : Hid (rightC ls = true)) (hn : N.size ≤ 8796093022000) (hvs : V.size ≤ 8796093022000) :
    Calls Try.prog 14 #[v, .agg #[.int .i64 h, .string N, .string F, .string V]] w (ResPost (setR ⟨h, N.data.toList, F.data.toList, V.data.toList⟩ ls) w) := by
  have hlen := right_len hr.out
  have hlt := Lib.hid (right_lt hr.out 8796093022000 (by omega))
  obtain ⟨x, hx⟩ : ∃ x : LineD, x = ⟨h, N.data.toList, F.data.toList, V.data.toList⟩ := ⟨_, rfl⟩
  unfold setR
  rw [← hx]
  cases hz : lineB x with
  | false =>
    rw [if_neg (by simp)]
    refine (rSet_no v ls h N F V w hv hlt hn hvs hlen hr (Lib.hid (hx ▸ hz))).mono ?_
    rintro e w2 ⟨rfl, k⟩
    exact ⟨none, 0, rfl, RowsAt.nil w2, k⟩
  | true =>
    rw [if_pos rfl]
    refine (rSet_c v ls h N F V w hv hlt hn hvs hlen hr (Lib.hid (hx ▸ hz))).mono ?_
    rintro e w2 ⟨h1, h2, k⟩
    rw [← hx] at h1 h2
    by_cases hl : (setC x ls).length ≤ 64
    · rw [if_pos hl]
      obtain ⟨p, c, rfl, hO⟩ := h1 hl
      exact ⟨p, c, rfl, hO.at lineVals_len, k⟩
    · rw [if_neg hl]
      obtain rfl := h2 (by omega)
      exact ⟨none, 0, rfl, RowsAt.nil w2, k⟩

theorem del_any (v : Value) (ls : List LineD) (h : Int) (N L : ByteArray) (w : World) (hv : Hid (RowsAt 4 lineVals w v ls)) (hr : Hid (rightC ls = true)) :
    Calls Try.prog 9 #[v, .int .i64 h, .string N, .string L] w (ResPost (delR h N.data.toList L.data.toList ls) w) := by
  refine (del_c v ls h N L w hv (Lib.hid (right_lt hr.out 9223372036854775807 (by omega))) (right_len hr.out) hr).mono ?_
  rintro e w2 ⟨h1, h2, k⟩
  unfold delR
  split
  · rename_i he
    obtain rfl := h1 he
    exact ⟨none, 0, rfl, RowsAt.nil w2, k⟩
  · rename_i he
    obtain ⟨p, c, rfl, hO⟩ := h2 he
    exact ⟨p, c, rfl, hO.at lineVals_len, k⟩
theorem rDel_any (v : Value) (ls : List LineD) (h : Int) (N L : ByteArray) (w : World) (hv : Hid (RowsAt 4 lineVals w v ls)) (hr : Hid (rightC ls = true)) :
    Calls Try.prog 10 #[v, .int .i64 h, .string N, .string L] w (ResPost (delR h N.data.toList L.data.toList ls) w) := by
  refine (rDel_c v ls h N L w hv (Lib.hid (right_lt hr.out 8796093022000 (by omega))) (right_len hr.out) hr).mono ?_
  rintro e w2 ⟨h1, h2, k⟩
  unfold delR
  split
  · rename_i he
    obtain rfl := h1 he
    exact ⟨none, 0, rfl, RowsAt.nil w2, k⟩
  · rename_i he
    obtain ⟨p, c, rfl, hO⟩ := h2 he
    exact ⟨p, c, rfl, hO.at lineVals_len, k⟩

def namesA (h : Int) (ls : List LineD) : List (List UInt8) := if h = 0 then [] else namesFrom h none ls
theorem namesA_len (h : Int) (ls : List LineD) : (namesA h ls).length ≤ ls.length := by
  unfold namesA
  split
  · simp
  · exact names_len_le h ls none
def NamesP (xs : List (List UInt8)) (w : World) (e : Ending) (w' : World) : Prop :=
  ∃ p c, e = .returned (.slice p xs.length c) ∧ StrsAt w' (.slice p xs.length c) xs ∧ Keeps (fun _ => False) w w'
theorem rows_strs {w : World} {v : Value} {xs : List (List UInt8)} (h : RowsAt 1 nv1 w v xs) : StrsAt w v xs := by
  obtain ⟨p, c, rfl, -, -, hr⟩ := h
  refine ⟨p, c, rfl, fun h0 => ?_⟩
  obtain ⟨g, o, rfl, hr2⟩ := hr h0
  refine ⟨g, o, rfl, fun j u hu => ?_⟩
  rw [List.getElem?_map] at hu
  cases hx : xs[j]? with
  | none => rw [hx] at hu; cases hu
  | some x =>
    rw [hx] at hu
    injection hu with hu
    have := hr2 j x hx 0 u (by rw [← hu]; rfl)
    rw [Nat.mul_one, Nat.add_zero] at this
    exact this
theorem nv1_len (x : List UInt8) : (nv1 x).length = 1 := rfl

set_option maxRecDepth 100000 in
set_option maxHeartbeats 2000000 in
theorem names_all (v : Value) (ls : List LineD) (h : Int) (w : World) (hv : Hid (RowsAt 4 lineVals w v ls)) (hr : Hid (rightC ls = true)) :
    Calls Try.prog 18 #[v, .int .i64 h] w (NamesP (namesA h ls) w) := by
  by_cases h0 : h = 0
  · subst h0
    have e : namesA 0 ls = [] := rfl
    rw [e]
    obtain ⟨p, c, rfl⟩ := hv.out.slice
    go_enter Try.func18, Try.ntmps18
    go_wp2_with fail
    go_ret
    exact ⟨none, 0, rfl, ⟨none, 0, rfl, fun h => absurd h (by simp)⟩, Keeps.refl _ _⟩
  · have e : namesA h ls = namesFrom h none ls := if_neg h0
    rw [e]
    refine (names_any v ls h w hv (right_len hr.out) (Lib.hid (right_lt hr.out 9223372036854775807 (by omega))) hr h0).mono ?_
    rintro e w2 ⟨p, c, rfl, hO, k⟩
    exact ⟨p, c, rfl, rows_strs (hO.at nv1_len), k⟩
set_option maxRecDepth 100000 in
set_option maxHeartbeats 2000000 in
theorem rNames_all (v : Value) (ls : List LineD) (h : Int) (w : World) (hv : Hid (RowsAt 4 lineVals w v ls)) (hr : Hid (rightC ls = true)) :
    Calls Try.prog 19 #[v, .int .i64 h] w (NamesP (namesA h ls) w) := by
  by_cases h0 : h = 0
  · subst h0
    have e : namesA 0 ls = [] := rfl
    rw [e]
    obtain ⟨p, c, rfl⟩ := hv.out.slice
    have hLn := Lib.hid hv.out.lines
    have hlen := right_len hr.out
    have hlt := Lib.hid (right_lt hr.out 8796093022000 (by omega))
    go_enter Try.func19, Try.ntmps19
    go_wp2_with fail
    refine (rRight_c _ ls true _ hLn (by omega) hlt hr).mono ?_
    rintro e w2 ⟨rfl, k2⟩
    have k2' := Lib.hid k2; clear k2
    go_wp2_with fail
    go_ret
    exact ⟨none, 0, rfl, ⟨none, 0, rfl, fun h => absurd h (by simp)⟩, k2'.out⟩
  · have e : namesA h ls = nR h ls ls.length := (if_neg h0).trans (names_same h (right_rises hr.out)).symm
    rw [e]
    refine (rNames_c v ls h w hv hr h0).mono ?_
    rintro e w2 ⟨p, c, rfl, hO, k⟩
    exact ⟨p, c, rfl, rows_strs (hO.at nv1_len), k⟩
end Go.Proofs.Ytdjmhjgfjbcdkaa
/- conf.Get, walked. -/
set_option linter.unusedVariables false
set_option linter.unusedSimpArgs false
namespace Go.Proofs.Ytdjmhjgfjbcdkaa
open Go.RowKit

theorem right_take (ls : List LineD) : rightC (ls.take 65) = rightC ls := by
  by_cases h : ls.length ≤ 64
  · rw [List.take_of_length_le (by omega)]
  · unfold rightC
    have h1 : ¬ (ls.take 65).length ≤ 64 := by rw [List.length_take]; omega
    simp [h]
    intro h2
    omega
theorem take_more {ls : List LineD} {q : LineD} (h : ls.length ≤ 64) : (ls ++ [q]).take 65 = ls.take 65 ++ [q] := by
  rw [List.take_of_length_le (by simp; omega), List.take_of_length_le (by omega)]
theorem take_same {ls : List LineD} {q : LineD} (h : ¬ ls.length ≤ 64) : (ls ++ [q]).take 65 = ls.take 65 := by
  rw [List.take_append_of_le_length (by omega)]
theorem ans_none {x : List UInt8} (h : getAll x = none) : ansC x = ([], 4) := by unfold ansC; rw [h]
theorem ans_yes {x : List UInt8} {ls : List LineD} (h : getAll x = some ls) (hr : rightC ls = true) : ansC x = (ls, 0) := by unfold ansC; rw [h]; simp only []; rw [if_pos hr]
theorem ans_no {x : List UInt8} {ls : List LineD} (h : getAll x = some ls) (hr : rightC ls = false) : ansC x = ([], 3) := by unfold ansC; rw [h]; simp only []; rw [if_neg (by simp [hr])]
theorem all_next {x r r' : List UInt8} {h : UInt8} {D : List LineD} {q : LineD} (hx : getAll x = (getAll (h :: r)).map (D ++ ·)) (hq : getLn h r = some (q, r')) : getAll x = (getAll r').map ((D ++ [q]) ++ ·) := by
  rw [hx, getAll_some hq, Option.map_map]
  congr 1
  funext y
  simp
theorem all_stop {x r : List UInt8} {h : UInt8} {D : List LineD} (hx : getAll x = (getAll (h :: r)).map (D ++ ·)) (hq : getLn h r = none) : getAll x = none := by
  rw [hx, getAll_none hq]; rfl
theorem small_snoc {D : List LineD} {q : LineD} {m : Nat} (h : LinesLt D m) (hq : q.name.length ≤ m ∧ q.leaf.length ≤ m ∧ q.value.length ≤ m) : LinesLt (D ++ [q]) m := fun l hl => by
  rcases List.mem_append.1 hl with h1 | h1
  · exact h l h1
  · rw [List.mem_singleton] at h1; subst h1; exact hq
theorem small_take {D : List LineD} {m : Nat} (h : LinesLt D m) (k : Nat) : LinesLt (D.take k) m := fun l hl => h l (List.mem_of_mem_take hl)
theorem small_mono {D : List LineD} {m k : Nat} (h : LinesLt D m) (hk : m ≤ k) : LinesLt D k := fun l hl => by have := h l hl; omega

set_option maxRecDepth 100000 in
set_option maxHeartbeats 16000000 in
theorem get_any (v : Value) (x : List UInt8) (w : World) (hv : Hid (BytesAt w v x)) (hl : x.length ≤ 1048576) :
    Calls Try.prog 28 #[v] w (ResPost (ansC x) w) := by
  obtain ⟨i0, hi0, hi1, hi2, hi3⟩ := lineAll
  obtain ⟨p, c, rfl, -⟩ := hv.out
  go_enter Try.func28, Try.ntmps28
  go_wp2_with fail
  go_loopw [0, 4] (fun bv' cv wr => ∃ (r : List UInt8) (D E : List LineD) (pr pc : Option Addr) (cr cc : Nat), bv' = .slice pr r.length cr ∧ cv = .slice pc E.length cc ∧ r.length ≤ x.length ∧ E.length ≤ 65 ∧ Hid (E = D.take 65) ∧ Hid (LinesLt D 255) ∧ Hid (getAll x = (getAll r).map (D ++ ·)) ∧ Hid (BytesAt w (.slice pr r.length cr) r) ∧ Hid (OwnR 36 4 lineVals w wr (.slice pc E.length cc) E) ∧ Hid (Keeps (fun _ => False) w wr)) (fun bv' _ _ => match bv' with | .slice _ n _ => n | _ => 0)
  case atStart => exact ⟨x, [], [], p, none, c, 0, rfl, rfl, Nat.le_refl _, by simp, Lib.hid rfl, Lib.hid (fun l hl => by cases hl), Lib.hid (by cases getAll x <;> simp), hv, Lib.hid (OwnR.nil _ _ (Nat.le_refl _)), Lib.hid (Keeps.refl _ _)⟩
  case round =>
    obtain ⟨r, D, E, pr, pc, cr, cc, rfl, rfl, hrl, hEl, hE, hsm, hall, hB, hO, hK⟩ := hrel
    cases r with
    | nil =>
      have hD : Hid (getAll x = some D) := Lib.hid (by rw [hall.out, getAll_nil]; simp)
      have hR := Lib.hid (hO.out.at lineVals_len)
      have hLn := Lib.hid hR.out.lines
      have hsE : Hid (LinesLt E 9223372036854775807) := Lib.hid (by rw [hE.out]; exact small_mono (small_take hsm.out 65) (by omega))
      have hzE : rightC E = rightC D := by rw [hE.out]; exact right_take D
      have hzE' := Lib.hid hzE
      clear hO hall hB hsm hzE
      go_wp2_with fail
      cases hz : rightC D with
      | true =>
        have hED : E = D := by
          have := right_len hz
          rw [hE.out, List.take_of_length_le (by omega)]
        have hans := Lib.hid (ans_yes hD.out hz)
        have hzt : Hid (rightC E = true) := Lib.hid (by rw [hzE'.out]; exact hz)
        subst hED
        refine (right_c _ E true _ hLn (by omega) hsE hzt).mono ?_
        rintro e w2 ⟨rfl, k2⟩
        have hR2 := Lib.hid (hR.out.keep k2)
        have hK2 := Lib.hid (hK.out.trans k2)
        clear k2 hLn hsE hzt hz hD hE hR hK hzE'
        go_wp2_with fail
        go_ret2
        rw [hans.out]
        exact ⟨_, _, rfl, hR2.out, hK2.out⟩
      | false =>
        have hans := Lib.hid (ans_no hD.out hz)
        have hzt : Hid (rightC E = false) := Lib.hid (by rw [hzE'.out]; exact hz)
        refine (right_c _ E false _ hLn (by omega) hsE hzt).mono ?_
        rintro e w2 ⟨rfl, k2⟩
        have hK2 := Lib.hid (hK.out.trans k2)
        clear k2 hLn hsE hzt hz hD hE hR hK hzE'
        go_wp2_with fail
        go_ret2
        rw [hans.out]
        exact ⟨none, 0, rfl, RowsAt.nil _, hK2.out⟩
    | cons h t =>
      simp only [List.length_cons] at hrl hB ⊢
      have g0 : (0 : Int) < (t.length : Int) + 1 := by omega
      have htl : t.length ≤ 1048576 := by omega
      have hB' : Hid (BytesAt w (.slice pr (t.length + 1) cr) (h :: t)) := hB
      clear hB
      go_wp2_with fail
      refine (getLine_any _ h t w _ hB' hK htl).mono ?_
      rintro e w2 ⟨k2, hm⟩
      have hK2 := Lib.hid (hK.out.trans k2)
      have hO2 := Lib.hid (hO.out.keep k2 (fun _ _ f => f))
      clear hK hO k2 hB'
      cases hg : getLn h t with
      | none =>
        rw [hg] at hm
        simp only at hm
        subst hm
        have hans := Lib.hid (ans_none (all_stop hall.out hg))
        have hK3 := Lib.hid (hK2.out.alloc (.cells #[.int .i64 0, .string ⟨#[]⟩, .string ⟨#[]⟩, .string ⟨#[]⟩] 36))
        clear hg hall hE hsm hO2
        go_wp2_with ((with_reducible refine at_store 5 ?_); refine wpList_store_new rfl 36 (.tmp 5) (.tmp 14) rfl _ #[.int .i64 0, .string ⟨#[]⟩, .string ⟨#[]⟩, .string ⟨#[]⟩] rfl rfl lineInfo rfl (line_one _ _ _ _) ?_)
        go_ret2
        rw [hans.out]
        exact ⟨none, 0, rfl, RowsAt.nil _, hK3.out⟩
      | some qr =>
        obtain ⟨q, r'⟩ := qr
        rw [hg] at hm
        simp only at hm
        obtain ⟨p2, c2, N, F, V, rfl, hq, hB2⟩ := hm
        have hlen := getLn_len hg
        have hall2 := Lib.hid (all_next hall.out hg)
        have hsm2 := Lib.hid (small_snoc hsm.out hlen.2)
        have hB2' := Lib.hid hB2
        have hq' := Lib.hid hq
        have hrl2 : r'.length + 3 ≤ t.length := hlen.1
        clear hg hall hsm hlen hB2 hq
        obtain ⟨Wx, hWx⟩ : ∃ W, W = w2.alloc (.cells #[.int .i64 q.head, .string N, .string F, .string V] 36) := ⟨_, rfl⟩
        have hK3 : Hid (Keeps (fun _ => False) w Wx) := Lib.hid (by rw [hWx]; exact hK2.out.alloc _)
        have hO3 : Hid (OwnR 36 4 lineVals w Wx (.slice pc E.length cc) E) := Lib.hid (by rw [hWx]; exact hO2.out.keep ((Keeps.refl (fun _ => False) _).alloc _) (fun _ _ f => f))
        have hBx : Hid (BlkAt Wx w2.heap.size 36 [.int .i64 q.head, .string N, .string F, .string V]) := Lib.hid (by rw [hWx]; exact BlkAt.new _ _ _)
        have hWx' := Lib.hid hWx
        clear hWx hK2 hO2
        go_upto_region 4 with ((with_reducible refine at_store 5 ?_); refine wpList_store_new rfl 36 (.tmp 5) (.tmp 14) rfl _ #[.int .i64 q.head, .string N, .string F, .string V] rfl rfl lineInfo rfl (line_one _ _ _ _) ?_)
        rw [← hWx'.out]
        generalize w2.heap.size = gx at hBx ⊢
        clear hWx'
        by_cases hE64 : E.length ≤ 64
        · have g1 : (E.length : Int) ≤ 64 := by omega
          have hDl : D.length ≤ 64 := by have h1 := hE.out; have h2 := congrArg List.length h1; rw [List.length_take] at h2; omega
          have hE2 : Hid (E ++ [q] = (D ++ [q]).take 65) := Lib.hid (by rw [take_more hDl, ← hE.out])
          clear hE hDl
          go_wp2_with (first | ((with_reducible refine at_slot 23 ?_); refine wpList_load_mid rfl 36 (.tmp 5) rfl gx 0 rfl [.int .i64 q.head, .string N, .string F, .string V] _ hBx.out.range Try.underlying36 rfl lineInfo ?_) | ((with_reducible refine at_slot 25 ?_); go_must (refine wpList_append_r rfl (.tmp 22) (.tmp 24) 25 36 rfl i0 _ 56 Try.underlying25 hi0 hi1 hi2 hi3 rfl (by decide) (by decide) lineVals_len w _ E.length E rfl rfl (hO3.out.keep ((Keeps.refl (fun _ => False) _).alloc _) (fun _ _ f => f)) _ rfl ⟨q.head, N.data.toList, F.data.toList, V.data.toList⟩ (cells_new rfl _ _) (lineVals_one _) (by omega) ?_); intro q8 d8 w8 hO8 hg8))
          have hk8 := Lib.hid ((hO3.out.keep ((Keeps.refl (fun _ => False) Wx).alloc (.cells #[.int .i64 q.head, .string N, .string F, .string V] 36)) (fun _ _ f => f)).keeps (hK3.out.alloc _) hg8.out)
          rw [← hq'.out] at hO8
          exact ⟨⟨r', D ++ [q], E ++ [q], p2, q8, c2, d8, rfl, by simp, by omega, by simp; omega, hE2, hsm2, hall2, hB2', by simpa using hO8, hk8⟩, by simp; omega⟩
        · have g1 : ¬ (E.length : Int) ≤ 64 := by omega
          have hDl : ¬ D.length ≤ 64 := by have h1 := hE.out; have h2 := congrArg List.length h1; rw [List.length_take] at h2; omega
          have hE2 : Hid (E = (D ++ [q]).take 65) := Lib.hid (by rw [take_same hDl, ← hE.out])
          clear hE hDl
          go_wp2_with fail
          exact ⟨⟨r', D ++ [q], E, p2, pc, c2, cc, rfl, rfl, by omega, hEl, hE2, hsm2, hall2, hB2', hO3, hK3⟩, by simp; omega⟩
end Go.Proofs.Ytdjmhjgfjbcdkaa
/- The document's Get, walked. -/
set_option linter.unusedVariables false
set_option linter.unusedSimpArgs false
namespace Go.Proofs.Ytdjmhjgfjbcdkaa
open Go.RowKit

set_option maxRecDepth 100000 in
set_option maxHeartbeats 16000000 in
theorem rGet_any (v : Value) (x : List UInt8) (w : World) (hv : Hid (BytesAt w v x)) (hl : x.length ≤ 1048576) :
    Calls Try.prog 32 #[v] w (ResPost (ansC x) w) := by
  obtain ⟨i0, hi0, hi1, hi2, hi3⟩ := line5All
  obtain ⟨p, c, rfl, -⟩ := hv.out
  go_enter Try.func32, Try.ntmps32
  go_wp2_with fail
  go_loopw [0, 4] (fun bv' cv wr => ∃ (r : List UInt8) (D : List LineD) (pr pc : Option Addr) (cr cc : Nat), bv' = .slice pr r.length cr ∧ cv = .slice pc D.length cc ∧ r.length + D.length ≤ x.length ∧ Hid (LinesLt D 255) ∧ Hid (getAll x = (getAll r).map (D ++ ·)) ∧ Hid (BytesAt w (.slice pr r.length cr) r) ∧ Hid (OwnR 28 4 lineVals w wr (.slice pc D.length cc) D) ∧ Hid (Keeps (fun _ => False) w wr)) (fun bv' _ _ => match bv' with | .slice _ n _ => n | _ => 0)
  case atStart => exact ⟨x, [], p, none, c, 0, rfl, rfl, by simp, Lib.hid (fun l hl => by cases hl), Lib.hid (by cases getAll x <;> simp), hv, Lib.hid (OwnR.nil _ _ (Nat.le_refl _)), Lib.hid (Keeps.refl _ _)⟩
  case round =>
    obtain ⟨r, D, pr, pc, cr, cc, rfl, rfl, hrl, hsm, hall, hB, hO, hK⟩ := hrel
    cases r with
    | nil =>
      have hD : Hid (getAll x = some D) := Lib.hid (by rw [hall.out, getAll_nil]; simp)
      have hR := Lib.hid (hO.out.at lineVals_len)
      have hLn := Lib.hid hR.out.lines
      have hsE : Hid (LinesLt D 8796093022000) := Lib.hid (small_mono hsm.out (by omega))
      clear hO hall hB hsm
      go_wp2_with fail
      cases hz : rightC D with
      | true =>
        have hans := Lib.hid (ans_yes hD.out hz)
        have hzt := Lib.hid hz
        refine (rRight_c _ D true _ hLn (by simp at hrl; omega) hsE hzt).mono ?_
        rintro e w2 ⟨rfl, k2⟩
        have hR2 := Lib.hid (hR.out.keep k2)
        have hK2 := Lib.hid (hK.out.trans k2)
        clear k2 hLn hsE hzt hz hD hR hK
        go_wp2_with fail
        go_ret2
        rw [hans.out]
        exact ⟨_, _, rfl, hR2.out, hK2.out⟩
      | false =>
        have hans := Lib.hid (ans_no hD.out hz)
        have hzt := Lib.hid hz
        refine (rRight_c _ D false _ hLn (by simp at hrl; omega) hsE hzt).mono ?_
        rintro e w2 ⟨rfl, k2⟩
        have hK2 := Lib.hid (hK.out.trans k2)
        clear k2 hLn hsE hzt hz hD hR hK
        go_wp2_with fail
        go_ret2
        rw [hans.out]
        exact ⟨none, 0, rfl, RowsAt.nil _, hK2.out⟩
    | cons h t =>
      simp only [List.length_cons] at hrl hB ⊢
      obtain ⟨p9, c9, e9, -, hcap, hr0⟩ := hB.out
      obtain ⟨g, o, rfl, hr⟩ := hr0 (by simp)
      injection e9 with e91 e92 e93
      subst e91; subst e93
      clear e92 hr0
      simp only [List.length_cons] at hcap
      have hrw := Lib.hid (hK.out.rangeAt hr id)
      have c0 : wr.cell? ⟨g, o, none⟩ = some (.int .u8 h.toNat) := by have := hrw.out 0 _ rfl; exact this
      have hbt : Hid (BytesAt w (.slice (if cr = 1 then some ⟨g, o, none⟩ else some ⟨g, o + 1, none⟩) t.length (cr - 1)) t) := Lib.hid (by have := bytes_tail hr hcap 1 (by simp); simpa using this)
      have g0 : (0 : Int) < (t.length : Int) + 1 := by omega
      have g1 : (t.length : Int) + 1 ≤ (cr : Int) := by omega
      have g2 : (1 : Int) ≤ (t.length : Int) + 1 := by omega
      have e0 := byte_i64 h
      have hOw : Hid (∀ k, (Value.slice pc D.length cc).ownBlock = some k → k < wr.heap.size) := Lib.hid (fun k e => (hO.out.1.lt k e).2)
      clear hr hB
      go_upto_region 4 with ((with_reducible refine at_store 5 ?_); refine wpList_store_new rfl 28 (.tmp 5) (.tmp 15) rfl _ #[.int .i64 h.toNat, .string ⟨#[]⟩, .string ⟨#[]⟩, .string ⟨#[]⟩] rfl rfl line5InfoG rfl (line_one _ _ _ _) ?_)
      obtain ⟨pp, hpp⟩ : ∃ pp, (if cr = 1 then some (⟨g, o, none⟩ : Addr) else some ⟨g, o + 1, none⟩) = pp := ⟨_, rfl⟩
      rw [hpp] at hbt
      have hT0 : Hid (BlkAt (wr.alloc (.cells #[.int .i64 h.toNat, .string ⟨#[]⟩, .string ⟨#[]⟩, .string ⟨#[]⟩] 28)) wr.heap.size 28 [.int .i64 h.toNat, .string ⟨#[]⟩, .string ⟨#[]⟩, .string ⟨#[]⟩]) := Lib.hid (BlkAt.new _ _ _)
      have hK1 := Lib.hid (hK.out.alloc (.cells #[.int .i64 h.toNat, .string ⟨#[]⟩, .string ⟨#[]⟩, .string ⟨#[]⟩] 28))
      have hO1 := Lib.hid (hO.out.keep ((Keeps.refl (fun _ => False) wr).alloc (.cells #[.int .i64 h.toNat, .string ⟨#[]⟩, .string ⟨#[]⟩, .string ⟨#[]⟩] 28)) (fun _ _ f => f))
      have hgx := Lib.hid hK.out.size
      generalize hWx : wr.alloc (.cells #[.int .i64 h.toNat, .string ⟨#[]⟩, .string ⟨#[]⟩, .string ⟨#[]⟩] 28) = Wx at hT0 hK1 hO1 ⊢
      generalize hgxd : wr.heap.size = gx at hT0 hgx hOw ⊢
      clear hWx hgxd hK hO hrw c0
      go_wp2_with fail
      have hpp' := Lib.hid hpp
      clear hpp e0
      go_loopw [6, 0] (fun iv bv' wr => ∃ (j : Nat) (q : LineD) (N F V : ByteArray) (r : List UInt8) (pj : Option Addr) (cj : Nat), j ≤ 3 ∧ iv = .int .i64 j ∧ bv' = .slice pj r.length cj ∧ r.length ≤ t.length ∧ Hid (getLn h t = contL (3 - j) q r) ∧ Hid (q = ⟨(h.toNat : Nat), N.data.toList, F.data.toList, V.data.toList⟩) ∧ Hid (BytesAt w (.slice pj r.length cj) r) ∧ Hid (BlkAt wr gx 28 [.int .i64 h.toNat, .string N, .string F, .string V]) ∧ Hid (Keeps (fun k => k = gx) Wx wr)) (fun iv _ _ => 3 - (intOf iv).toNat)
      case atStart => exact ⟨0, ⟨h.toNat, [], [], []⟩, ⟨#[]⟩, ⟨#[]⟩, ⟨#[]⟩, t, pp, cr - 1, by omega, rfl, rfl, Nat.le_refl _, Lib.hid (getLn_cont h t), Lib.hid rfl, hbt, hT0, Lib.hid (Keeps.refl _ _)⟩
      case round =>
        obtain ⟨j, q, N, F, V, r, pj, cj, hj, rfl, rfl, hrj, hg, hq, hB, hT, hKr⟩ := hrel
        by_cases hj3 : j < 3
        · have j1 : (j : Int) < 3 := by omega
          cases r with
          | nil =>
            have hans := Lib.hid (ans_none (all_stop hall.out (by rw [hg.out, show 3 - j = (2 - j) + 1 by omega]; exact contL_none (rfl))))
            have hkk := Lib.hid (hK1.out.trans' hKr.out (fun i e => .inr (by rw [e]; exact hgx.out)))
            clear hg hT hKr hB hall hsm
            go_wp2_with fail
            go_ret2
            rw [hans.out]
            exact ⟨none, 0, rfl, RowsAt.nil _, hkk.out⟩
          | cons n s =>
            simp only [List.length_cons] at hrj hB ⊢
            obtain ⟨p9, c9, e9, -, hcap2, hr0⟩ := hB.out
            obtain ⟨g2, o2, rfl, hr2⟩ := hr0 (by simp)
            injection e9 with e91 e92 e93
            subst e91; subst e93
            clear e92 hr0
            simp only [List.length_cons] at hcap2
            have hkw := Lib.hid (hK1.out.trans' hKr.out (fun i e => .inr (by rw [e]; exact hgx.out)))
            have hr3 := Lib.hid (hkw.out.rangeAt hr2 id)
            have hr4 := Lib.hid hr2
            have d0 : wr.cell? ⟨g2, o2, none⟩ = some (.int .u8 n.toNat) := by have := hr3.out 0 _ rfl; exact this
            have n0 := byte_i64 n
            have n1 := n.toNat_lt
            have n2 : IntKind.i64.wrap (1 + (n.toNat : Int)) = 1 + (n.toNat : Int) := IntWalk.i64_in _ (by omega)
            have n3 : ¬ (s.length : Int) + 1 < 1 := by omega
            have n4 : (0 : Int) < (s.length : Int) + 1 := by omega
            have hcap2' := Lib.hid hcap2
            have hrj' := Lib.hid hrj
            clear hr2 hcap2
            by_cases hsn : s.length < n.toNat
            · have n5 : (s.length : Int) + 1 < 1 + (n.toNat : Int) := by omega
              have hans := Lib.hid (ans_none (all_stop hall.out (by rw [hg.out, show 3 - j = (2 - j) + 1 by omega]; exact contL_none (getT_short hsn))))
              have hkk := Lib.hid (hK1.out.trans' hKr.out (fun i e => .inr (by rw [e]; exact hgx.out)))
              clear hg hT hKr hB hall hsm
              go_wp2_with fail
              go_ret2
              rw [hans.out]
              exact ⟨none, 0, rfl, RowsAt.nil _, hkk.out⟩
            · have n5 : ¬ (s.length : Int) + 1 < 1 + (n.toNat : Int) := by omega
              have m1 : (1 : Int) ≤ 1 + (n.toNat : Int) := by omega
              have m2 : 1 + (n.toNat : Int) ≤ (cj : Int) := by have := hcap2'.out; omega
              have m3 : 1 + (n.toNat : Int) ≤ (s.length : Int) + 1 := by omega
              have m4 : (s.length : Int) + 1 ≤ (cj : Int) := by have := hcap2'.out; omega
              have m5 : (0 : Int) ≤ 1 + (n.toNat : Int) := by omega
              have m6 : (1 + (n.toNat : Int)).toNat = n.toNat + 1 := by omega
              obtain ⟨p6, hp6⟩ : ∃ pp, (if cj = 1 then some (⟨g2, o2, none⟩ : Addr) else some ⟨g2, o2 + 1, none⟩) = pp := ⟨_, rfl⟩
              obtain ⟨p7, hp7⟩ : ∃ pp, (if cj = n.toNat + 1 then some (⟨g2, o2, none⟩ : Addr) else some ⟨g2, o2 + (n.toNat + 1), none⟩) = pp := ⟨_, rfl⟩
              obtain ⟨S, hS⟩ : ∃ S : ByteArray, (⟨(s.take n.toNat).toArray⟩ : ByteArray) = S := ⟨_, rfl⟩
              have cv : (convert 50 9 (.slice p6 n.toNat (cj - 1))).run Try.prog wr = .ok (.string S) wr := by
                have := conv_cut hr3.out hcap2'.out 1 n.toNat (by simp; omega)
                rw [← hp6, ← hS]; exact this
              have hbn : Hid (BytesAt w (.slice p7 (s.length - n.toNat) (cj - (n.toNat + 1))) (s.drop n.toNat)) := Lib.hid (by
                have := bytes_tail hr4.out hcap2'.out (n.toNat + 1) (by simp; omega)
                rw [← hp7]; simpa using this)
              have hgn : Hid (getLn h t = contL (3 - (j + 1)) (setF q j (s.take n.toNat)) (s.drop n.toNat)) := Lib.hid (by
                rw [hg.out, show 3 - j = (2 - j) + 1 by omega, contL_some (getT_yes hsn), show 2 - (2 - j) = j by omega, show 3 - (j + 1) = 2 - j by omega])
              have hsl : (s.drop n.toNat).length = s.length - n.toNat := by simp
              have hrn : (s.drop n.toNat).length ≤ t.length := by rw [hsl]; have := hrj'.out; omega
              rw [← hsl] at hbn
              have hsl' := Lib.hid hsl
              have hS : Hid (s.take n.toNat = S.data.toList) := Lib.hid (by rw [← hS])
              clear hsl
              go_upto_region 12 with fail
              clear cv
              have hp6' := Lib.hid hp6
              have hp7' := Lib.hid hp7
              clear hp6 hp7 m1 m2 m3 m4 m5 m6 n0 n1 n2 n3 n4 n5 d0
              rcases (show j = 0 ∨ j = 1 ∨ j = 2 by omega) with rfl | rfl | rfl
              · skip
                have cg := hT.out.cell 1 _ rfl
                have fg := hT.out.frozen 1
                have hTn : Hid (BlkAt (wr.setCell ⟨gx, 1, none⟩ (.string S)) gx 28 [.int .i64 h.toNat, .string S, .string F, .string V]) := Lib.hid (hT.out.set 1 _)
                have hKn := Lib.hid (hKr.out.setCell (p := ⟨gx, 1, none⟩) (.inl rfl) (.string S))
                have hqn : Hid (setF q 0 (s.take n.toNat) = ⟨(h.toNat : Nat), S.data.toList, F.data.toList, V.data.toList⟩) := Lib.hid (by rw [hq.out, hS.out]; simp [setF])
                clear hT hKr hq hg hB hr3 hr4 hS
                go_wp2_with fail
                clear cg fg
                exact ⟨⟨1, setF q 0 (s.take n.toNat), S, F, V, s.drop n.toNat, p7, cj - (n.toNat + 1), by omega, by go_num, by rw [hsl'.out], hrn, hgn, hqn, hbn, hTn, hKn⟩, by simp [intOf]⟩
              · skip
                have cg := hT.out.cell 2 _ rfl
                have fg := hT.out.frozen 2
                have hTn : Hid (BlkAt (wr.setCell ⟨gx, 2, none⟩ (.string S)) gx 28 [.int .i64 h.toNat, .string N, .string S, .string V]) := Lib.hid (hT.out.set 2 _)
                have hKn := Lib.hid (hKr.out.setCell (p := ⟨gx, 2, none⟩) (.inl rfl) (.string S))
                have hqn : Hid (setF q 1 (s.take n.toNat) = ⟨(h.toNat : Nat), N.data.toList, S.data.toList, V.data.toList⟩) := Lib.hid (by rw [hq.out, hS.out]; simp [setF])
                clear hT hKr hq hg hB hr3 hr4 hS
                go_wp2_with fail
                clear cg fg
                exact ⟨⟨2, setF q 1 (s.take n.toNat), N, S, V, s.drop n.toNat, p7, cj - (n.toNat + 1), by omega, by go_num, by rw [hsl'.out], hrn, hgn, hqn, hbn, hTn, hKn⟩, by simp [intOf]⟩
              · skip
                have cg := hT.out.cell 3 _ rfl
                have fg := hT.out.frozen 3
                have hTn : Hid (BlkAt (wr.setCell ⟨gx, 3, none⟩ (.string S)) gx 28 [.int .i64 h.toNat, .string N, .string F, .string S]) := Lib.hid (hT.out.set 3 _)
                have hKn := Lib.hid (hKr.out.setCell (p := ⟨gx, 3, none⟩) (.inl rfl) (.string S))
                have hqn : Hid (setF q 2 (s.take n.toNat) = ⟨(h.toNat : Nat), N.data.toList, F.data.toList, S.data.toList⟩) := Lib.hid (by rw [hq.out, hS.out]; simp [setF])
                clear hT hKr hq hg hB hr3 hr4 hS
                go_wp2_with fail
                clear cg fg
                exact ⟨⟨3, setF q 2 (s.take n.toNat), N, F, S, s.drop n.toNat, p7, cj - (n.toNat + 1), by omega, by go_num, by rw [hsl'.out], hrn, hgn, hqn, hbn, hTn, hKn⟩, by simp [intOf]⟩
        · obtain rfl : j = 3 := by omega
          have hgl : Hid (getLn h t = some (q, r)) := Lib.hid hg.out
          have hlen := getLn_len hgl.out
          have hall2 := Lib.hid (all_next hall.out hgl.out)
          have hsm2 := Lib.hid (small_snoc hsm.out hlen.2)
          have hrl2 : r.length + 3 ≤ t.length := hlen.1
          have hkw := Lib.hid (hK1.out.trans' hKr.out (fun i e => .inr (by rw [e]; exact hgx.out)))
          have hO2 := Lib.hid (hO1.out.keep hKr.out (fun k e f => by have := hOw.out k e; omega))
          clear hlen hall hsm hgl hg hKr
          go_wp2_with (first | ((with_reducible refine at_slot 64 ?_); refine wpList_load_mid rfl 28 (.tmp 5) rfl gx 0 rfl [.int .i64 (h.toNat : Nat), .string N, .string F, .string V] _ hT.out.range Try.underlying28 rfl line5InfoG ?_) | ((with_reducible refine at_slot 66 ?_); go_must (refine wpList_append_r rfl (.tmp 63) (.tmp 65) 22 28 rfl i0 _ 56 Try.underlying22 hi0 hi1 hi2 hi3 rfl (by decide) (by decide) lineVals_len w _ D.length D rfl rfl (hO2.out.keep ((Keeps.refl (fun _ => False) _).alloc _) (fun _ _ f => f)) _ rfl ⟨(h.toNat : Nat), N.data.toList, F.data.toList, V.data.toList⟩ (cells_new rfl _ _) (lineVals_one _) (by omega) ?_); intro q8 d8 w8 hO8 hg8))
          have hk8 := Lib.hid ((hO2.out.keep ((Keeps.refl (fun _ => False) wr).alloc (.cells #[.int .i64 (h.toNat : Nat), .string N, .string F, .string V] 28)) (fun _ _ f => f)).keeps (hkw.out.alloc _) hg8.out)
          rw [← hq.out] at hO8
          exact ⟨⟨r, D ++ [q], pj, q8, cj, d8, rfl, by simp, by simp; omega, hsm2, hall2, hB, by simpa using hO8, hk8⟩, by simp; omega⟩
end Go.Proofs.Ytdjmhjgfjbcdkaa
