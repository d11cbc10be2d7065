/- A line out of bytes: plain; conf.getLine, walked. -/
import Derived.Test.YtdannodhlaaoiaaGreatDoorWT43
import Derived.BigQuiet
import Derived.Test.YtdannodhlaaoiaaGreatDoorWT05
import Derived.Test.YtdannodhlaaoiaaGreatDoorWT28
import Derived.Test.YtdannodhlaaoiaaGreatDoorWT24
import Derived.Test.YtdannodhlaaoiaaGreatDoorWT23
set_option linter.unusedVariables false
set_option linter.unusedSimpArgs false
set_option linter.unusedVariables false
set_option linter.unusedSimpArgs false
namespace Go.Proofs.YtdannodhlaaoiaaGreatDoor
open Go.RowKit

def setF (q : LineD) : Nat → List UInt8 → LineD
  | 0, s => { q with name := s }
  | 1, s => { q with leaf := s }
  | _, s => { q with value := s }
/-- so many texts are still to come -/
def contL : Nat → LineD → List UInt8 → Option (LineD × List UInt8)
  | 0, q, r => some (q, r)
  | n + 1, q, r => match getT r with
    | none => none
    | some (s, r') => contL n (setF q (2 - n) s) r'
theorem getLn_cont (h : UInt8) (r : List UInt8) : getLn h r = contL 3 ⟨h.toNat, [], [], []⟩ r := by
  unfold getLn
  simp only [contL]
  cases h1 : getT r with
  | none => rfl
  | some a =>
    obtain ⟨n, b1⟩ := a
    simp only []
    cases h2 : getT b1 with
    | none => rfl
    | some a =>
      obtain ⟨l, b2⟩ := a
      simp only []
      cases h3 : getT b2 with
      | none => rfl
      | some a => obtain ⟨v, b3⟩ := a; rfl
theorem contL_none {n : Nat} {q : LineD} {r : List UInt8} (h : getT r = none) : contL (n + 1) q r = none := by simp only [contL, h]
theorem contL_some {n : Nat} {q : LineD} {r s r' : List UInt8} (h : getT r = some (s, r')) : contL (n + 1) q r = contL n (setF q (2 - n) s) r' := by simp only [contL, h]
theorem getT_short {n : UInt8} {t : List UInt8} (h : t.length < n.toNat) : getT (n :: t) = none := by unfold getT; simp only [if_pos h]
theorem getT_yes {n : UInt8} {t : List UInt8} (h : ¬ t.length < n.toNat) : getT (n :: t) = some (t.take n.toNat, t.drop n.toNat) := by unfold getT; simp only [if_neg h]
theorem setF_head (q : LineD) (i : Nat) (s : List UInt8) : (setF q i s).head = q.head := by
  match i with
  | 0 => rfl
  | 1 => rfl
  | _ + 2 => rfl
def txtVals (q : LineD) : List Value := [strv q.name, strv q.leaf, strv q.value]
theorem setF_vals (q : LineD) (i : Nat) (hi : i < 3) (s : List UInt8) : txtVals (setF q i s) = (txtVals q).set i (strv s) := by
  match i, hi with
  | 0, _ => rfl
  | 1, _ => rfl
  | 2, _ => rfl
/-- a part of bytes that lie there -/
theorem bytes_tail {w : World} {g o c : Nat} {l : List UInt8} (h : w.rangeAt g o (l.map bv)) (hc : l.length ≤ c) (k : Nat) (hk : k ≤ l.length) :
    BytesAt w (.slice (if c = k then some ⟨g, o, none⟩ else some ⟨g, o + k, none⟩) (l.length - k) (c - k)) (l.drop k) := by
  by_cases e : c = k
  · rw [if_pos e]
    have hn : l.drop k = [] := List.drop_of_length_le (by omega)
    rw [hn, show l.length - k = 0 by omega]
    exact ⟨some ⟨g, o, none⟩, _, rfl, (fun h => nomatch h), Nat.zero_le _, fun h => by simp at h⟩
  · rw [if_neg e]
    have := range_part h k (l.length - k)
    rw [List.take_of_length_le (by simp)] at this
    exact BytesAt.of (by simp) (by omega) this
theorem conv_part {w : World} {g o c : Nat} {l : List UInt8} (h : w.rangeAt g o (l.map bv)) (i n : Nat) (hi : i + n ≤ l.length) :
    (convert 31 9 (.slice (some ⟨g, o + i, none⟩) n c)).run Tryz.prog w = .ok (.string ⟨((l.drop i).take n).toArray⟩) w := by
  have h1 := conv_str g (o + i) c _ w (range_part h i n)
  rwa [List.length_take, List.length_drop, Nat.min_eq_left (by omega)] at h1
/-- a text cut out of bytes, as the walk spells it -/
theorem conv_cut {w : World} {g o c : Nat} {l : List UInt8} (h : w.rangeAt g o (l.map bv)) (hc : l.length ≤ c) (i n : Nat) (hi : i + n ≤ l.length) :
    (convert 31 9 (.slice (if c = i then some ⟨g, o, none⟩ else some ⟨g, o + i, none⟩) n (c - i))).run Tryz.prog w = .ok (.string ⟨((l.drop i).take n).toArray⟩) w := by
  by_cases e : c = i
  · rw [if_pos e]
    have hn : n = 0 := by omega
    subst hn
    have := conv_str g o (c - i) [] w (fun j u hu => by simp at hu)
    simpa using this
  · rw [if_neg e]
    exact conv_part h i n hi
theorem wp_store_cell {P : Program} {op : Oper} {a : Act} {w : World} {K : Act → World → Prop} {Q : Exit → Act → World → Prop} (ty : TypeId) (x y : Operand) (ho : op.op = .store ty x y)
    (b o : Nat) (v : Value) (hx : a.eval x = .pointer (some ⟨b, o, none⟩)) (hy : a.eval y = v) (hs : (storeVar ty ⟨b, o, none⟩ v).run P w = .ok () (w.setCell ⟨b, o, none⟩ v))
    (h : K (a.put op.dst undef) (w.setCell ⟨b, o, none⟩ v)) : op.wp P a w K Q := by
  unfold Oper.wp execOp
  simp only [ho, hx, hy, Instr.storeAt, Instr.sureAddr, Sem.run_bind, Sem.run_pure, Result.andThen_ok, hs]
  exact h
theorem store_str (w : World) (b o : Nat) (u : Value) (s : ByteArray) (h : w.cell? ⟨b, o, none⟩ = some u) (hf : w.frozen? ⟨b, o, none⟩ = false) : (storeVar 9 ⟨b, o, none⟩ (.string s)).run Tryz.prog w = .ok () (w.setCell ⟨b, o, none⟩ (.string s)) := by
  simp [go_sem, h, hf]
theorem load_u8 (w : World) (b o : Nat) (v : Value) (h : w.cell? ⟨b, o, none⟩ = some v) : (loadVar 5 ⟨b, o, none⟩).run Tryz.prog w = .ok v w := by
  simp [go_sem, h]
theorem yieldsIf_conv {P : Program} {ops : Array Oper} {S : World → Prop} {op : Oper} {a : Act} (hw : Region.wanted op (yielded ops a.tmps) = true) (ft tt : TypeId) (x : Operand) (ho : op.op = .convert ft tt x) (xv v : Value) (hx : a.eval x = xv)
    (hS : ∀ w, S w → (convert ft tt xv).run P w = .ok v w) : YieldsIf P ops S op v a :=
  .inl ⟨hw, fun w hw' => by
    unfold execOp
    simp only [ho, hx, Sem.run_bind, hS w hw', Result.andThen_ok]; rfl⟩
theorem byte_i64 (b : UInt8) : IntKind.i64.wrap (b.toNat : Int) = (b.toNat : Int) := IntWalk.i64_in _ (by have := b.toNat_lt; omega)

/-- what getLine tells -/
def LinePost (w0 : World) (a : Option (LineD × List UInt8)) (w : World) (e : Ending) (w' : World) : Prop :=
  Keeps (fun _ => False) w w' ∧ match a with
    | none => e = .returned (.tuple #[.agg #[.int .i64 0, .string ⟨#[]⟩, .string ⟨#[]⟩, .string ⟨#[]⟩], .slice none 0 0, .bool false])
    | some (q, r) => ∃ p c N F V, e = .returned (.tuple #[.agg #[.int .i64 q.head, .string N, .string F, .string V], .slice p r.length c, .bool true]) ∧ q = ⟨q.head, N.data.toList, F.data.toList, V.data.toList⟩ ∧ BytesAt w0 (.slice p r.length c) r

set_option maxRecDepth 100000 in
set_option maxHeartbeats 16000000 in
theorem getLine_any (v : Value) (h : UInt8) (x : List UInt8) (w00 w : World) (hv : Hid (BytesAt w00 v (h :: x))) (hk00 : Hid (Keeps (fun _ => False) w00 w)) (hl : x.length ≤ 1048576) :
    Calls Tryz.prog 52 #[v] w (LinePost w00 (getLn h x) w) := by
  obtain ⟨p, c, rfl, -, hcap, hr⟩ := hv.out
  obtain ⟨g, o, rfl, hr2⟩ := hr (by simp)
  simp only [List.length_cons] at hcap ⊢
  have hr := hr2
  have hgw : g < w00.heap.size := by have := World.block_lt_of_cell? w00 _ (hr 0 _ rfl); exact this
  have hr' := Lib.hid hr
  have hgw' := Lib.hid hgw
  clear hr hr2 hgw hv
  have hz0 : Hid (BlkAt (w.alloc (.cells #[.int .i64 0, .string ⟨#[]⟩, .string ⟨#[]⟩, .string ⟨#[]⟩] 50)) w.heap.size 50 [.int .i64 0, .string ⟨#[]⟩, .string ⟨#[]⟩, .string ⟨#[]⟩]) := Lib.hid (BlkAt.new _ _ _)
  have hk0 : Hid (Keeps (fun _ => False) w (w.alloc (.cells #[.int .i64 0, .string ⟨#[]⟩, .string ⟨#[]⟩, .string ⟨#[]⟩] 50))) := Lib.hid ((Keeps.refl _ _).alloc _)
  go_enter Tryz.func52, Tryz.ntmps52
  go_upto_region 1 with fail
  generalize hB : w.heap.size = B at hz0 ⊢
  generalize hW : w.alloc (.cells #[.int .i64 0, .string ⟨#[]⟩, .string ⟨#[]⟩, .string ⟨#[]⟩] 50) = W at hz0 hk0 ⊢
  have hB' := Lib.hid hB
  clear hB hW
  have c0 : W.cell? ⟨g, o, none⟩ = some (.int .u8 h.toNat) := by have := hk0.out.rangeAt (hk00.out.rangeAt hr'.out id) id 0 _ rfl; exact this
  have e0 := byte_i64 h
  have e1 : (1 : Int) ≤ (x.length : Int) + 1 := by omega
  have e2 : (x.length : Int) + 1 ≤ (c : Int) := by omega
  obtain ⟨pp, hpp⟩ : ∃ pp, (if c = 1 then some (⟨g, o, none⟩ : Addr) else some ⟨g, o + 1, none⟩) = pp := ⟨_, rfl⟩
  have hbt : Hid (BytesAt w00 (.slice pp x.length (c - 1)) x) := Lib.hid (by rw [← hpp]; have := bytes_tail hr'.out hcap 1 (by simp); simpa using this)
  have hcell : Hid (∀ W', Keeps (fun _ => False) W W' → W'.cell? ⟨g, o, none⟩ = some (.int .u8 h.toNat)) := Lib.hid (fun W' k => by have := k.rangeAt (hk0.out.rangeAt (hk00.out.rangeAt hr'.out id) id) id 0 _ rfl; exact this)
  clear c0
  refine wp_region_noPanic ?_
  refine wp_region_held_drew (S := (fun W' => Keeps (fun _ => False) W W')) (by kernel_rfl) (((Keeps.refl (fun _ => False) _).drew)) (fun hHeld => ?_)
  refine tk 0 rfl ?_
  refine tk 1 rfl ?_
  refine tkL 2 rfl (yieldsIf_load_cell (by rfl) 5 (.tmp 11) rfl g o rfl _ (fun W' s => hcell.out W' s) (fun W' s => load_u8 W' _ _ _ s)) ?_
  refine tk 3 rfl ?_
  refine tk 4 rfl ?_
  refine tk 5 rfl ?_
  refine tk 6 rfl ?_
  refine tk 7 rfl ?_
  refine wpAnyH_done (by kernel_rfl) (NoPanic.normal ?_) _
  have hk1 := Lib.hid (hk0.out.trans hHeld)
  have hz1 := Lib.hid (hz0.out.keep hHeld (fun f => f))
  clear hHeld hz0 hk0 hcell e1 e2 e0
  have hpp' := Lib.hid hpp
  clear hpp hr'
  generalize W.drew = W1 at hk1 hz1 ⊢
  have hBw : Hid (w.heap.size ≤ B) := Lib.hid (by rw [hB'.out]; exact Nat.le_refl _)
  have hgT : Hid (w.heap.size ≤ W1.heap.size ∧ ¬ B = W1.heap.size) := Lib.hid ⟨hk1.out.size, by have h1 := lt_of_block hz1.out; omega⟩
  have hT0 : Hid (BlkAt (W1.alloc (.cells #[.string ⟨#[]⟩, .string ⟨#[]⟩, .string ⟨#[]⟩] 147)) W1.heap.size 147 (txtVals ⟨h.toNat, [], [], []⟩)) := Lib.hid (BlkAt.new _ _ _)
  have hz2 := Lib.hid (hz1.out.alloc (.cells #[.string ⟨#[]⟩, .string ⟨#[]⟩, .string ⟨#[]⟩] 147))
  clear hz1
  go_wp2_with fail
  generalize hgTd : W1.heap.size = gT at hgT hT0 ⊢
  go_loopw [16, 6] (fun iv bv' wr => ∃ (j : Nat) (q : LineD) (r : List UInt8) (pr : Option Addr) (cr : Nat), j ≤ 3 ∧ iv = .int .i64 j ∧ bv' = .slice pr r.length cr ∧ r.length ≤ x.length ∧ Hid (getLn h x = contL (3 - j) q r) ∧ Hid (q.head = h.toNat) ∧ Hid (BytesAt w00 (.slice pr r.length cr) r) ∧ Hid (BlkAt wr gT 147 (txtVals q)) ∧ Hid (Keeps (fun k => k = gT) (W1.alloc (.cells #[.string ⟨#[]⟩, .string ⟨#[]⟩, .string ⟨#[]⟩] 147)) wr)) (fun iv _ _ => 3 - (intOf iv).toNat)
  case atStart => exact ⟨0, ⟨h.toNat, [], [], []⟩, x, pp, c - 1, by omega, rfl, rfl, Nat.le_refl _, Lib.hid (getLn_cont h x), Lib.hid rfl, hbt, hT0, Lib.hid (Keeps.refl _ _)⟩
  case round =>
    obtain ⟨j, q, r, pr, cr, hj, rfl, rfl, hrl, hg, hqh, hB, hT, hKr⟩ := hrel
    by_cases hj3 : j < 3
    · have j0 : (0 : Int) ≤ (j : Int) := by omega
      have j1 : (j : Int) < 3 := by omega
      cases r with
      | nil =>
        have hans : Hid (getLn h x = none) := Lib.hid (by rw [hg.out, show 3 - j = (2 - j) + 1 by omega]; exact contL_none (rfl))
        have hkw := Lib.hid ((hk1.out.trans ((Keeps.refl (fun _ => False) _).alloc _)).trans' hKr.out (fun i e => .inr (by rw [e]; exact hgT.out.1)))
        have hzr := Lib.hid (hz2.out.keep hKr.out hgT.out.2)
        clear hg hT hKr hB
        go_wp2_with ((with_reducible refine at_store 2 ?_); refine wpList_store_blk rfl 50 (.tmp 2) (.tmp 32) rfl B #[.int .i64 0, .string ⟨#[]⟩, .string ⟨#[]⟩, .string ⟨#[]⟩] rfl rfl (hzr.out.there 0 4 (by decide)) lineInfo (line_one _ _ _ _) ?_; intro w9 hr9 hs9)
        have e0 := rangeAt_cell hr9.out 0 _ rfl
        have e1 := rangeAt_cell hr9.out 1 _ rfl
        have e2 := rangeAt_cell hr9.out 2 _ rfl
        have e3 := rangeAt_cell hr9.out 3 _ rfl
        rw [hans.out]
        refine bodyPost_ret (v := .tuple #[.agg #[.int .i64 0, .string ⟨#[]⟩, .string ⟨#[]⟩, .string ⟨#[]⟩], .slice none 0 0, .bool false]) (by simp [results, Tryz.results52, go_sem, e0, e1, e2, e3]) rfl ⟨hkw.out.trans' hs9.out (fun i e => .inr (by rw [e]; exact hBw.out)), rfl⟩
      | cons n s =>
        simp only [List.length_cons] at hrl hB ⊢
        obtain ⟨p9, c9, e9, -, hcap2, hr0⟩ := hB.out
        obtain ⟨g2, o2, rfl, hr2⟩ := hr0 (by simp)
        injection e9 with e91 e92 e93
        subst e91; subst e93
        clear e92 hr0
        simp only [List.length_cons] at hcap2
        have hkw := Lib.hid ((hk1.out.trans ((Keeps.refl (fun _ => False) _).alloc (.cells #[.string ⟨#[]⟩, .string ⟨#[]⟩, .string ⟨#[]⟩] 147))).trans' hKr.out (fun i e => .inr (by rw [e]; exact hgT.out.1)))
        have hr3 := Lib.hid (hkw.out.rangeAt (hk00.out.rangeAt hr2 id) id)
        have hr4 := Lib.hid hr2
        have d0 : wr.cell? ⟨g2, o2, none⟩ = some (.int .u8 n.toNat) := by have := hr3.out 0 _ rfl; exact this
        have n0 := byte_i64 n
        have n1 := n.toNat_lt
        have n2 : IntKind.i64.wrap ((s.length : Int) + 1 - 1) = (s.length : Int) := by rw [Int.add_sub_cancel]; exact IntWalk.i64_in _ (by omega)
        have n3 : ((s.length : Int) + 1 == 0) = false := by simp; omega
        have n4 : (0 : Int) < (s.length : Int) + 1 := by omega
        have hcap2' := Lib.hid hcap2
        have hrl' := Lib.hid hrl
        clear hr2 hcap2
        by_cases hsn : s.length < n.toNat
        · have n5 : (s.length : Int) < (n.toNat : Int) := by omega
          have hans : Hid (getLn h x = none) := Lib.hid (by rw [hg.out, show 3 - j = (2 - j) + 1 by omega]; exact contL_none (getT_short hsn))
          have hkw2 := Lib.hid ((hk1.out.trans ((Keeps.refl (fun _ => False) _).alloc _)).trans' hKr.out (fun i e => .inr (by rw [e]; exact hgT.out.1)))
          have hzr := Lib.hid (hz2.out.keep hKr.out hgT.out.2)
          clear hg hT hKr hB
          go_wp2_with ((with_reducible refine at_store 2 ?_); refine wpList_store_blk rfl 50 (.tmp 2) (.tmp 32) rfl B #[.int .i64 0, .string ⟨#[]⟩, .string ⟨#[]⟩, .string ⟨#[]⟩] rfl rfl (hzr.out.there 0 4 (by decide)) lineInfo (line_one _ _ _ _) ?_; intro w9 hr9 hs9)
          have e0 := rangeAt_cell hr9.out 0 _ rfl
          have e1 := rangeAt_cell hr9.out 1 _ rfl
          have e2 := rangeAt_cell hr9.out 2 _ rfl
          have e3 := rangeAt_cell hr9.out 3 _ rfl
          rw [hans.out]
          refine bodyPost_ret (v := .tuple #[.agg #[.int .i64 0, .string ⟨#[]⟩, .string ⟨#[]⟩, .string ⟨#[]⟩], .slice none 0 0, .bool false]) (by simp [results, Tryz.results52, go_sem, e0, e1, e2, e3]) rfl ⟨hkw2.out.trans' hs9.out (fun i e => .inr (by rw [e]; exact hBw.out)), rfl⟩
        · have n5 : ¬ (s.length : Int) < (n.toNat : Int) := by omega
          go_upto_region 9 with fail
          have m1 : (1 : Int) ≤ 1 + (n.toNat : Int) := by omega
          have m2 : 1 + (n.toNat : Int) ≤ (cr : Int) := by have := hcap2'.out; omega
          have m3 : 1 + (n.toNat : Int) ≤ (s.length : Int) + 1 := by omega
          have m4 : (s.length : Int) + 1 ≤ (cr : Int) := by have := hcap2'.out; omega
          have m5 : (0 : Int) ≤ 1 + (n.toNat : Int) := by omega
          have m6 : (1 + (n.toNat : Int)).toNat = n.toNat + 1 := by omega
          obtain ⟨p6, hp6⟩ : ∃ pp, (if cr = 1 then some (⟨g2, o2, none⟩ : Addr) else some ⟨g2, o2 + 1, none⟩) = pp := ⟨_, rfl⟩
          obtain ⟨p7, hp7⟩ : ∃ pp, (if cr = n.toNat + 1 then some (⟨g2, o2, none⟩ : Addr) else some ⟨g2, o2 + (n.toNat + 1), none⟩) = pp := ⟨_, rfl⟩
          have hg2T : Hid (¬ g2 = gT) := Lib.hid (by
            have h1 : g2 < w00.heap.size := World.block_lt_of_cell? w00 _ (hr4.out 0 _ rfl)
            have h2 := hk00.out.size
            have h3 := hgT.out.1
            omega)
          have hconv : Hid (∀ W', Keeps (fun k => k = gT) wr W' → (convert 31 9 (.slice p6 n.toNat (cr - 1))).run Tryz.prog W' = .ok (.string ⟨(s.take n.toNat).toArray⟩) W') := Lib.hid (fun W' k => by
            have := conv_cut (k.rangeAt hr3.out hg2T.out) hcap2'.out 1 n.toNat (by simp; omega)
            rw [← hp6]; exact this)
          have hbn : Hid (BytesAt w00 (.slice p7 (s.length - n.toNat) (cr - (n.toNat + 1))) (s.drop n.toNat)) := Lib.hid (by
            have := bytes_tail hr4.out hcap2'.out (n.toNat + 1) (by simp; omega)
            rw [← hp7]; simpa using this)
          obtain ⟨S, hS⟩ : ∃ S : ByteArray, (⟨(s.take n.toNat).toArray⟩ : ByteArray) = S := ⟨_, rfl⟩
          obtain ⟨u, hu⟩ : ∃ u, (txtVals q)[j]? = some u := ⟨_, List.getElem?_eq_getElem (by simpa [txtVals] using hj3)⟩
          have hTd := Lib.hid (hT.out.keep ((Keeps.refl (fun _ => False) wr).drew) id)
          have hst := Lib.hid (store_str wr.drew gT j u S (hTd.out.cell j u hu) (hTd.out.frozen j))
          have hTn : Hid (BlkAt (wr.drew.setCell ⟨gT, j, none⟩ (.string S)) gT 147 (txtVals (setF q j (s.take n.toNat)))) := Lib.hid (by rw [setF_vals q j hj3, ← hS]; rw [← hS] at *; exact hTd.out.set j _)
          have hgn : Hid (getLn h x = contL (3 - (j + 1)) (setF q j (s.take n.toNat)) (s.drop n.toNat)) := Lib.hid (by
            rw [hg.out, show 3 - j = (2 - j) + 1 by omega, contL_some (getT_yes hsn), show 2 - (2 - j) = j by omega, show 3 - (j + 1) = 2 - j by omega])
          have hqn : Hid ((setF q j (s.take n.toNat)).head = h.toNat) := Lib.hid (by rw [setF_head]; exact hqh.out)
          rw [hS] at hconv
          clear hS hu hTd hg hT hB hr3 hr4 d0 hkw hcap2'
          refine wp_region_noPanic ?_
          refine wp_region_held_drew (S := (fun W' => Keeps (fun k => k = gT) wr W')) (by kernel_rfl) (((Keeps.refl _ _).drew)) (fun hHeld => ?_)
          refine tk 0 rfl ?_
          refine tk 1 rfl ?_
          refine tk 2 rfl ?_
          refine tk 3 rfl ?_
          refine tkL 4 rfl (yieldsIf_conv (by rfl) 31 9 (.tmp 41) rfl _ (.string S) rfl (fun W' s => hconv.out W' s)) ?_
          refine tk 5 rfl ?_
          refine tk 6 rfl ?_
          refine tk 7 rfl ?_
          refine tk 8 rfl ?_
          refine stepL 9 rfl (by kernel_rfl) (fun K hK => ?_)
          rw [if_pos (by rfl)]
          (refine wp_store_cell 9 (.tmp 46) (.tmp 42) rfl gT j (.string S) rfl rfl hst.out ?_)
          refine hK.out _ _ ((hHeld.setCell (p := ⟨gT, j, none⟩) (.inl rfl) _)) (fun hHeld => ?_)
          clear hK K
          try simp only [Act.put, sA, sZ, sS]
          refine tk 10 rfl ?_
          refine wpAnyH_done (by kernel_rfl) (NoPanic.normal ?_) _
          have hKn := Lib.hid (hKr.out.trans hHeld)
          clear hHeld hst hconv hKr
          have hsl : (s.drop n.toNat).length = s.length - n.toNat := by simp
          have hrn : (s.drop n.toNat).length ≤ x.length := by have := hrl'.out; omega
          rw [← hsl] at hbn
          have hsl' := Lib.hid hsl
          clear m1 m2 m3 m4 m5 m6 hsl hp6 hp7
          go_wp2_with fail
          exact ⟨⟨j + 1, setF q j (s.take n.toNat), s.drop n.toNat, p7, cr - (n.toNat + 1), by omega, by go_num, by rw [hsl'.out], hrn, hgn, hqn, hbn, hTn, hKn⟩, by simp [intOf]; omega⟩
    · obtain rfl : j = 3 := by omega
      obtain ⟨N, hN⟩ : ∃ N : ByteArray, N = ⟨q.name.toArray⟩ := ⟨_, rfl⟩
      obtain ⟨F, hF⟩ : ∃ N : ByteArray, N = ⟨q.leaf.toArray⟩ := ⟨_, rfl⟩
      obtain ⟨V, hV⟩ : ∃ N : ByteArray, N = ⟨q.value.toArray⟩ := ⟨_, rfl⟩
      have hT3 : BlkAt wr gT 147 [.string N, .string F, .string V] := by rw [hN, hF, hV]; exact hT.out
      have t0 := hT3.cell 0 _ rfl
      have t1 := hT3.cell 1 _ rfl
      have t2 := hT3.cell 2 _ rfl
      have hans : Hid (getLn h x = some (q, r)) := Lib.hid hg.out
      have hqd : Hid (q = ⟨(h.toNat : Nat), N.data.toList, F.data.toList, V.data.toList⟩) := Lib.hid (by rw [hN, hF, hV, ← hqh.out])
      have hkw := Lib.hid ((hk1.out.trans ((Keeps.refl (fun _ => False) _).alloc _)).trans' hKr.out (fun i e => .inr (by rw [e]; exact hgT.out.1)))
      have hzr := Lib.hid (hz2.out.keep hKr.out hgT.out.2)
      clear hg hT hT3 hKr hN hF hV hz2 hk1
      go_wp2_with ((with_reducible refine at_store 2 ?_); refine wpList_store_blk rfl 50 (.tmp 2) (.tmp 55) rfl B #[.int .i64 (h.toNat : Nat), .string N, .string F, .string V] rfl rfl (hzr.out.there 0 4 (by decide)) lineInfo (line_one _ _ _ _) ?_; intro w9 hr9 hs9)
      have e0 := rangeAt_cell hr9.out 0 _ rfl
      have e1 := rangeAt_cell hr9.out 1 _ rfl
      have e2 := rangeAt_cell hr9.out 2 _ rfl
      have e3 := rangeAt_cell hr9.out 3 _ rfl
      rw [hans.out]
      refine bodyPost_ret (v := .tuple #[.agg #[.int .i64 (h.toNat : Nat), .string N, .string F, .string V], .slice pr r.length cr, .bool true]) (by simp [results, Tryz.results52, go_sem, e0, e1, e2, e3]) rfl ⟨hkw.out.trans' hs9.out (fun i e => .inr (by rw [e]; exact hBw.out)), pr, cr, N, F, V, by rw [hqh.out], hqd.out.trans (by rw [← hqh.out]), hB.out⟩
end Go.Proofs.YtdannodhlaaoiaaGreatDoor
/- Rows of texts held against each other; reads. -/
namespace Go.Proofs.YtdannodhlaaoiaaGreatDoor
open Go.RowKit


end Go.Proofs.YtdannodhlaaoiaaGreatDoor
/- Set, Delete, Names of a right configuration: what both sides answer, said alike. -/
set_option linter.unusedVariables false
set_option linter.unusedSimpArgs false
namespace Go.Proofs.YtdannodhlaaoiaaGreatDoor
open Go.RowKit

def ResPost (r : List LineD × Nat) (w : World) (e : Ending) (w' : World) : Prop :=
  ∃ p c, e = .returned (.tuple #[.slice p r.1.length c, .int .i64 (r.2 : Int)]) ∧ RowsAt 4 lineVals w' (.slice p r.1.length c) r.1 ∧ Keeps (fun _ => False) w w'
def setR (x : LineD) (ls : List LineD) : List LineD × Nat := if lineB x = true then (if (setC x ls).length ≤ 64 then (setC x ls, 0) else ([], 5)) else ([], 1)
def delR (h : Int) (n l : List UInt8) (ls : List LineD) : List LineD × Nat := if (delC h n l ls).length = ls.length then ([], 6) else (delC h n l ls, 0)
theorem setR_right {x : LineD} {ls : List LineD} (hr : rightC ls = true) : rightC (setR x ls).1 = true := by
  unfold setR
  split
  · rename_i hx
    split
    · rename_i hl; exact right_setC hr hx hl
    · decide +kernel
  · decide +kernel
theorem delR_right {h : Int} {n l : List UInt8} {ls : List LineD} (hr : rightC ls = true) : rightC (delR h n l ls).1 = true := by
  unfold delR
  split
  · decide +kernel
  · exact right_del hr

theorem set_any (v : Value) (ls : List LineD) (h : Int) (N F V : ByteArray) (w : World) (hv : Hid (RowsAt 4 lineVals w v ls)) (hr : Hid (rightC ls = true)) (hn : N.size ≤ 8796093022000) (hvs : V.size ≤ 8796093022000) :
    Calls Tryz.prog 20 #[v, .agg #[.int .i64 h, .string N, .string F, .string V]] w (ResPost (setR ⟨h, N.data.toList, F.data.toList, V.data.toList⟩ ls) w) := by
  have hlen := right_len hr.out
  have hlt := Lib.hid (right_lt hr.out 9223372036854775807 (by omega))
  obtain ⟨x, hx⟩ : ∃ x : LineD, x = ⟨h, N.data.toList, F.data.toList, V.data.toList⟩ := ⟨_, rfl⟩
  unfold setR
  rw [← hx]
  cases hz : lineB x with
  | false =>
    rw [if_neg (by simp)]
    refine (set_no v ls h N F V w hv hlt (by omega) (by omega) hr (Lib.hid (hx ▸ hz)) hlen).mono ?_
    rintro e w2 ⟨rfl, k⟩
    exact ⟨none, 0, rfl, RowsAt.nil w2, k⟩
  | true =>
    rw [if_pos rfl]
    obtain ⟨z, hth⟩ : ∃ z, thereB x ls = z := ⟨_, rfl⟩
    by_cases hl : (setC x ls).length ≤ 64
    · rw [if_pos hl]
      have h64 : z = false → ls.length < 64 := fun e => by
        rw [setC_len, hth, e] at hl; simp at hl; omega
      refine (set_ok v ls h N F V z w hv hlt (by omega) (by omega) hr (Lib.hid (hx ▸ hz)) (Lib.hid (hx ▸ hth)) hlen h64).mono ?_
      rintro e w2 ⟨p, c, rfl, hO, k⟩
      rw [← hx] at hO ⊢
      exact ⟨p, c, rfl, hO.at lineVals_len, k⟩
    · rw [if_neg hl]
      have hf : thereB x ls = false := by
        cases ht : thereB x ls with
        | false => rfl
        | true => rw [setC_len, if_pos ht] at hl; omega
      have h64 : ls.length = 64 := by rw [setC_len, hf] at hl; simp at hl; omega
      refine (set_full v ls h N F V w hv hlt (by omega) (by omega) hr (Lib.hid (hx ▸ hz)) (Lib.hid (hx ▸ hf)) (Lib.hid h64)).mono ?_
      rintro e w2 ⟨rfl, k⟩
      exact ⟨none, 0, rfl, RowsAt.nil w2, k⟩

theorem rSet_any (v : Value) (ls : List LineD) (h : Int) (N F V : ByteArray) (w : World) (hv : Hid (RowsAt 4 lineVals w v ls)) (hr : Hid (rightC ls = true)) (hn : N.size ≤ 8796093022000) (hvs : V.size ≤ 8796093022000) :
    Calls Tryz.prog 22 #[v, .agg #[.int .i64 h, .string N, .string F, .string V]] w (ResPost (setR ⟨h, N.data.toList, F.data.toList, V.data.toList⟩ ls) w) := by
  have hlen := right_len hr.out
  have hlt := Lib.hid (right_lt hr.out 8796093022000 (by omega))
  obtain ⟨x, hx⟩ : ∃ x : LineD, x = ⟨h, N.data.toList, F.data.toList, V.data.toList⟩ := ⟨_, rfl⟩
  unfold setR
  rw [← hx]
  cases hz : lineB x with
  | false =>
    rw [if_neg (by simp)]
    refine (rSet_no v ls h N F V w hv hlt hn hvs hlen hr (Lib.hid (hx ▸ hz))).mono ?_
    rintro e w2 ⟨rfl, k⟩
    exact ⟨none, 0, rfl, RowsAt.nil w2, k⟩
  | true =>
    rw [if_pos rfl]
    refine (rSet_c v ls h N F V w hv hlt hn hvs hlen hr (Lib.hid (hx ▸ hz))).mono ?_
    rintro e w2 ⟨h1, h2, k⟩
    rw [← hx] at h1 h2
    by_cases hl : (setC x ls).length ≤ 64
    · rw [if_pos hl]
      obtain ⟨p, c, rfl, hO⟩ := h1 hl
      exact ⟨p, c, rfl, hO.at lineVals_len, k⟩
    · rw [if_neg hl]
      obtain rfl := h2 (by omega)
      exact ⟨none, 0, rfl, RowsAt.nil w2, k⟩


def namesA (h : Int) (ls : List LineD) : List (List UInt8) := if h = 0 then [] else namesFrom h none ls
theorem namesA_len (h : Int) (ls : List LineD) : (namesA h ls).length ≤ ls.length := by
  unfold namesA
  split
  · simp
  · exact names_len_le h ls none
def NamesP (xs : List (List UInt8)) (w : World) (e : Ending) (w' : World) : Prop :=
  ∃ p c, e = .returned (.slice p xs.length c) ∧ StrsAt w' (.slice p xs.length c) xs ∧ Keeps (fun _ => False) w w'
theorem rows_strs {w : World} {v : Value} {xs : List (List UInt8)} (h : RowsAt 1 nv1 w v xs) : StrsAt w v xs := by
  obtain ⟨p, c, rfl, -, -, hr⟩ := h
  refine ⟨p, c, rfl, fun h0 => ?_⟩
  obtain ⟨g, o, rfl, hr2⟩ := hr h0
  refine ⟨g, o, rfl, fun j u hu => ?_⟩
  rw [List.getElem?_map] at hu
  cases hx : xs[j]? with
  | none => rw [hx] at hu; cases hu
  | some x =>
    rw [hx] at hu
    injection hu with hu
    have := hr2 j x hx 0 u (by rw [← hu]; rfl)
    rw [Nat.mul_one, Nat.add_zero] at this
    exact this
theorem nv1_len (x : List UInt8) : (nv1 x).length = 1 := rfl

end Go.Proofs.YtdannodhlaaoiaaGreatDoor
