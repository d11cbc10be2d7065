/- The document's table and its Find, walked. -/
import Derived.Test.YtialookpnoaogaaGreatZZ10
import Derived.Test.YtialookpnoaogaaGreatZZ01
set_option linter.unusedVariables false
set_option linter.unusedSimpArgs false
namespace Go.Proofs.YtialookpnoaogaaGreat
open Go.RowKit

theorem rowInfo4 : (Tryz.prog.info? 151).map (·.size) = some 8 := by kernel_rfl
set_option maxRecDepth 100000 in
set_option maxHeartbeats 4000000 in
theorem rTable_any (w : World) : Calls Tryz.prog 107 #[] w (TablePost w) := by
  go_enter Tryz.func107, Tryz.ntmps107
  go_wp2
  go_ret
  exact tablePost_of _ _ _ rfl rfl rfl

/-- what the document's Find answers; its row's choices lie in a new block -/
def FindPostF (f : Option RowD) (w : World) (e : Ending) (w' : World) : Prop :=
  match f with
  | some r => ∃ p cc, e = .returned (.tuple #[.agg #[.int .i64 r.head, strv r.name, .int .i64 r.kind, .int .i64 r.lo, .int .i64 r.hi, .slice p r.cs.length cc, strv r.df, .int .i64 r.cl], .bool true]) ∧ StrsAt w' (.slice p r.cs.length cc) r.cs ∧ (∀ i, (Value.slice p r.cs.length cc).ownBlock = some i → w.heap.size ≤ i) ∧ Keeps (fun _ => False) w w'
  | none => e = .returned (.tuple #[.agg zeroRow, .bool false]) ∧ Keeps (fun _ => False) w w'
set_option maxRecDepth 100000 in
set_option maxHeartbeats 2000000 in
theorem rFind_new (head : Int) (nm : ByteArray) (f : Option RowD) (w : World) (hf : Hid (findD head nm.data.toList = f)) :
    Calls Tryz.prog 74 #[.int .i64 head, .string nm] w (FindPostF f w) := by
  go_enter Tryz.func74, Tryz.ntmps74
  go_wp2_with fail
  refine (rTable_any _).mono ?_
  rintro e w1 ⟨g, rfl, hg, ht, hk⟩
  have hb : w1.heap[w.heap.size]? = some (.cells zeroRow 151 (0, 0)) := by
    rw [hk.block _ (by simp) id]
    exact heap_alloc_last w _
  have hb' := Lib.hid hb; have ht' := Lib.hid (show TableAt (w.heap.size + 1) w1 g by simpa using ht); have hk' := Lib.hid (((Keeps.refl (fun _ => False) w).alloc _).trans hk)
  have hgs : w.heap.size + 1 ≤ g := by simpa using hg
  clear hb ht hk hg
  go_wp2_with fail
  go_loopw [7] (fun i wr => ∃ k : Nat, k ≤ 12 ∧ i = .int .i64 k ∧ Hid (∀ (i : Nat) (q : RowD), i < k → tableD[i]? = some q → ¬ (q.head = head ∧ q.name = nm.data.toList)) ∧ Hid (TableAt (w.heap.size + 1) wr g) ∧ Hid (wr.heap[w.heap.size]? = some (.cells zeroRow 151 (0, 0))) ∧ Hid (Keeps (fun _ => False) w wr)) (fun i _ => 12 - (intOf i).toNat)
  case atStart => exact ⟨0, by omega, rfl, Lib.hid (fun _ _ h => by omega), ht', hb', hk'⟩
  case round =>
    obtain ⟨k, hk12, rfl, hno, htr, hbr, hkr⟩ := hrel
    by_cases hlt : k < 12
    · obtain ⟨r, hr⟩ : ∃ r, tableD[k]? = some r := ⟨_, List.getElem?_eq_getElem (show k < tableD.length from hlt)⟩
      obtain ⟨cv, hrange, hcs, hbk⟩ := htr.out k r hr
      obtain ⟨p, cc, rfl, hcs0⟩ := hcs
      have hbkeep := Lib.hid hbk; clear hbk
      have hcs' : Hid (StrsAt wr (.slice p r.cs.length cc) r.cs) := Lib.hid ⟨p, cc, rfl, hcs0⟩
      obtain ⟨N, hN⟩ : ∃ N : ByteArray, N = ⟨r.name.toArray⟩ := ⟨_, rfl⟩
      obtain ⟨F, hF⟩ : ∃ F : ByteArray, F = ⟨r.df.toArray⟩ := ⟨_, rfl⟩
      have hra : Hid (wr.rangeAt g (k * 8) [.int .i64 r.head, .string N, .int .i64 r.kind, .int .i64 r.lo, .int .i64 r.hi, .slice p r.cs.length cc, .string F, .int .i64 r.cl]) := Lib.hid (by rw [hN, hF]; exact hrange)
      have a0 : wr.cell? ⟨g, k * 8, none⟩ = some (.int .i64 r.head) := hra.out 0 _ rfl
      have a1 : wr.cell? ⟨g, k * 8 + 1, none⟩ = some (.string N) := hra.out 1 _ rfl
      have hNl : N.toList = r.name := by rw [hN, Lib.toList_data]
      have hN' := Lib.hid hN; have hF' := Lib.hid hF; have hr' := Lib.hid hr
      clear hcs0 hrange hN hF hr
      by_cases hh : r.head = head
      · have e1 : (r.head == head) = true := by simpa using hh
        by_cases hn : r.name = nm.data.toList
        · have e2 : (N.toList == nm.toList) = true := by rw [hNl, Lib.toList_data, hn]; simp
          have hfr : Hid (f = some r) := Lib.hid (by rw [← hf.out]; exact find_step hr'.out hno.out ⟨hh, hn⟩)
          have hNl' := Lib.hid hNl; clear hh hn hNl
          go_wp2_with (first | ((with_reducible refine at_slot 34 ?_); refine wpList_load_mid rfl 151 (.tmp 33) rfl g (k * 8) rfl _ _ hra.out Tryz.underlying151 rfl rowInfo4 ?_) | ((with_reducible refine at_store 4 ?_); refine wpList_store_row_named rfl 151 (.tmp 4) (.tmp 34) rfl w.heap.size #[.int .i64 r.head, .string N, .int .i64 r.kind, .int .i64 r.lo, .int .i64 r.hi, .slice p r.cs.length cc, .string F, .int .i64 r.cl] rfl rfl 151 zeroRow hbr.out rowInfo4 rfl (row_one _ _ _ _ _ _ _ _ _ _) ?_; intro W2 hW2; have hW2' := Lib.hid hW2; clear hW2))
          have hcell : ∀ j, W2.cell? ⟨w.heap.size, j, none⟩ = (#[.int .i64 r.head, .string N, .int .i64 r.kind, .int .i64 r.lo, .int .i64 r.hi, .slice p r.cs.length cc, .string F, .int .i64 r.cl] : Array Value)[j]? := fun j => by rw [hW2'.out]; exact cell_setRow_same _ _ _ _ _ _ _ hbr.out
          have c0 := hcell 0; have c1 := hcell 1; have c2 := hcell 2; have c3 := hcell 3; have c4 := hcell 4; have c5 := hcell 5; have c6 := hcell 6; have c7 := hcell 7
          have kall : Keeps (fun _ => False) w W2 := by rw [hW2'.out]; exact hkr.out.setRow (.inr (Nat.le_refl _)) _
          have hcsW : StrsAt W2 (.slice p r.cs.length cc) r.cs := by
            have h1 := hcs'.out
            rw [hW2'.out]
            refine h1.keep ((Keeps.refl (fun k => k = w.heap.size) _).setRow (.inl rfl) _) (fun h0 i e f => ?_)
            have := hbkeep.out i e
            omega
          have hcell' := Lib.hid hcell; clear hcell
          rw [hfr.out]
          refine bodyPost_ret (v := .tuple #[.agg #[.int .i64 r.head, .string N, .int .i64 r.kind, .int .i64 r.lo, .int .i64 r.hi, .slice p r.cs.length cc, .string F, .int .i64 r.cl], .bool true]) (by simp [results, Tryz.results74, go_sem, c0, c1, c2, c3, c4, c5, c6, c7]) rfl ⟨p, cc, ?_, hcsW, fun i e => by have := hbkeep.out i e; omega, kall⟩
          rw [hN'.out, hF'.out]; rfl
        · have e2 : (N.toList == nm.toList) = false := by rw [hNl, Lib.toList_data]; simpa using hn
          have hno' : Hid (∀ (i : Nat) (q : RowD), i < k + 1 → tableD[i]? = some q → ¬ (q.head = head ∧ q.name = nm.data.toList)) := Lib.hid (fun i q hi hq => by
            by_cases e : i = k
            · subst e
              have : q = r := by rw [hr'.out] at hq; injection hq with hq; exact hq.symm
              subst this
              exact fun ⟨_, b⟩ => hn b
            · exact hno.out i q (by omega) hq)
          have hNl' := Lib.hid hNl; clear hh hn hNl
          go_wp2
          exact ⟨⟨k + 1, by omega, by go_num, hno', htr, hbr, hkr⟩, by simp [intOf]; omega⟩
      · have e1 : (r.head == head) = false := by simpa using hh
        have hno' : Hid (∀ (i : Nat) (q : RowD), i < k + 1 → tableD[i]? = some q → ¬ (q.head = head ∧ q.name = nm.data.toList)) := Lib.hid (fun i q hi hq => by
          by_cases e : i = k
          · subst e
            have : q = r := by rw [hr'.out] at hq; injection hq with hq; exact hq.symm
            subst this
            exact fun ⟨a, _⟩ => hh a
          · exact hno.out i q (by omega) hq)
        have hNl' := Lib.hid hNl; clear hh hNl
        go_wp2
        exact ⟨⟨k + 1, by omega, by go_num, hno', htr, hbr, hkr⟩, by simp [intOf]; omega⟩
    · obtain rfl : k = 12 := by omega
      have hfn : Hid (f = none) := Lib.hid (by rw [← hf.out]; exact find_none hno.out)
      go_wp2_with ((with_reducible refine at_store 4 ?_); refine wpList_store_row_named rfl 151 (.tmp 4) (.tmp 35) rfl w.heap.size zeroRow rfl rfl 151 zeroRow hbr.out rowInfo4 rfl (row_one _ _ _ _ _ _ _ _ _ _) ?_; intro W2 hW2; have hW2' := Lib.hid hW2; clear hW2)
      have hcell : ∀ j, W2.cell? ⟨w.heap.size, j, none⟩ = zeroRow[j]? := fun j => by rw [hW2'.out]; exact cell_setRow_same _ _ _ _ _ _ _ hbr.out
      have c0 := hcell 0; have c1 := hcell 1; have c2 := hcell 2; have c3 := hcell 3; have c4 := hcell 4; have c5 := hcell 5; have c6 := hcell 6; have c7 := hcell 7
      have kall : Keeps (fun _ => False) w W2 := by rw [hW2'.out]; exact hkr.out.setRow (.inr (Nat.le_refl _)) _
      rw [hfn.out]
      refine bodyPost_ret (v := .tuple #[.agg zeroRow, .bool false]) (by simp [results, Tryz.results74, go_sem, c0, c1, c2, c3, c4, c5, c6, c7, zeroRow]) rfl ⟨rfl, kall⟩
theorem rFind_any (head : Int) (nm : ByteArray) (f : Option RowD) (w : World) (hf : Hid (findD head nm.data.toList = f)) :
    Calls Tryz.prog 74 #[.int .i64 head, .string nm] w (FindPost f w) :=
  (rFind_new head nm f w hf).mono fun e w' h => by
    cases f with
    | none => exact h
    | some r => obtain ⟨p, cc, he, hs, _, hk⟩ := h; exact ⟨p, cc, he, hs, hk⟩
end Go.Proofs.YtialookpnoaogaaGreat
/- Less, the code's and the document's, walked. -/
namespace Go.Proofs.YtialookpnoaogaaGreat
open Go.RowKit

/-- a line, plain -/
structure LineD where
  head : Int
  name : List UInt8
  leaf : List UInt8
  value : List UInt8
def lessB (a b : LineD) : Bool :=
  if a.head = b.head then (if a.name = b.name then Op.bytesLess a.leaf b.leaf else Op.bytesLess a.name b.name) else decide (a.head < b.head)

set_option maxRecDepth 100000 in
theorem less_any (h1 h2 : Int) (n1 l1 v1 n2 l2 v2 : ByteArray) (r : Bool) (w : World) (hr : Hid (lessB ⟨h1, n1.data.toList, l1.data.toList, v1.data.toList⟩ ⟨h2, n2.data.toList, l2.data.toList, v2.data.toList⟩ = r)) :
    Calls Tryz.prog 88 #[.agg #[.int .i64 h1, .string n1, .string l1, .string v1], .agg #[.int .i64 h2, .string n2, .string l2, .string v2]] w (NewRes (.bool r) w) := by
  have hq := hr.out
  unfold lessB at hq
  simp only at hq
  by_cases hh : h1 = h2
  · have e1 : (h1 != h2) = false := by simpa using hh
    rw [if_pos hh] at hq
    by_cases hn : n1.data.toList = n2.data.toList
    · have e2 : (n1.toList == n2.toList) = true := by rw [Lib.toList_data, Lib.toList_data, hn]; simp
      rw [if_pos hn, ← Lib.toList_data l1, ← Lib.toList_data l2] at hq
      have hq' := Lib.hid hq; clear hq hr hh hn
      go_enter Tryz.func88, Tryz.ntmps88
      go_wp2
      go_ret
      exact ⟨by rw [← hq'.out]; rfl, ((Keeps.refl _ _).alloc _).alloc _⟩
    · have e2 : (n1.toList == n2.toList) = false := by rw [Lib.toList_data, Lib.toList_data]; simpa using hn
      rw [if_neg hn, ← Lib.toList_data n1, ← Lib.toList_data n2] at hq
      have hq' := Lib.hid hq; clear hq hr hh hn
      go_enter Tryz.func88, Tryz.ntmps88
      go_wp2
      go_ret
      exact ⟨by rw [← hq'.out]; rfl, ((Keeps.refl _ _).alloc _).alloc _⟩
  · have e1 : (h1 != h2) = true := by simpa using hh
    rw [if_neg hh] at hq
    have hq' := Lib.hid hq; clear hq hr hh
    go_enter Tryz.func88, Tryz.ntmps88
    go_wp2
    go_ret
    exact ⟨by rw [← hq'.out]; rfl, ((Keeps.refl _ _).alloc _).alloc _⟩

set_option maxRecDepth 100000 in
theorem rLess_any (h1 h2 : Int) (n1 l1 v1 n2 l2 v2 : ByteArray) (r : Bool) (w : World) (hr : Hid (lessB ⟨h1, n1.data.toList, l1.data.toList, v1.data.toList⟩ ⟨h2, n2.data.toList, l2.data.toList, v2.data.toList⟩ = r)) :
    Calls Tryz.prog 44 #[.agg #[.int .i64 h1, .string n1, .string l1, .string v1], .agg #[.int .i64 h2, .string n2, .string l2, .string v2]] w (NewRes (.bool r) w) := by
  have hq := hr.out
  unfold lessB at hq
  simp only at hq
  by_cases hh : h1 = h2
  · have e1 : (h1 != h2) = false := by simpa using hh
    rw [if_pos hh] at hq
    by_cases hn : n1.data.toList = n2.data.toList
    · have e2 : (n1.toList == n2.toList) = true := by rw [Lib.toList_data, Lib.toList_data, hn]; simp
      rw [if_pos hn, ← Lib.toList_data l1, ← Lib.toList_data l2] at hq
      have hq' := Lib.hid hq; clear hq hr hh hn
      go_enter Tryz.func44, Tryz.ntmps44
      go_wp2
      go_ret
      exact ⟨by rw [← hq'.out]; rfl, ((Keeps.refl _ _).alloc _).alloc _⟩
    · have e2 : (n1.toList == n2.toList) = false := by rw [Lib.toList_data, Lib.toList_data]; simpa using hn
      rw [if_neg hn, ← Lib.toList_data n1, ← Lib.toList_data n2] at hq
      have hq' := Lib.hid hq; clear hq hr hh hn
      go_enter Tryz.func44, Tryz.ntmps44
      go_wp2
      go_ret
      exact ⟨by rw [← hq'.out]; rfl, ((Keeps.refl _ _).alloc _).alloc _⟩
  · have e1 : (h1 != h2) = true := by simpa using hh
    rw [if_neg hh] at hq
    have hq' := Lib.hid hq; clear hq hr hh
    go_enter Tryz.func44, Tryz.ntmps44
    go_wp2
    go_ret
    exact ⟨by rw [← hq'.out]; rfl, ((Keeps.refl _ _).alloc _).alloc _⟩
end Go.Proofs.YtialookpnoaogaaGreat
/- canBe, walked. -/
namespace Go.Proofs.YtialookpnoaogaaGreat
open Go.RowKit

theorem load_str (w : World) (b o : Nat) (v : Value) (h : w.cell? ⟨b, o, none⟩ = some v) : (loadVar 9 ⟨b, o, none⟩).run Tryz.prog w = .ok v w := by
  simp [go_sem, h]
/-- may a line be -/
def lineB (l : LineD) : Bool := match findD l.head l.leaf with
  | some r => namedB l.head l.name && rightB r.kind r.lo r.hi r.cs l.value
  | none => false
/-- what the region of a found row keeps -/
structure CanS (g o : Nat) (L : List Value) (p : Option Addr) (n c : Nat) (cs : List (List UInt8)) (B : Nat) (h : Int) (N F V : ByteArray) (w0 W : World) : Prop where
  r : W.rangeAt g o L
  s : StrsAt W (.slice p n c) cs
  b0 : W.cell? ⟨B, 0, none⟩ = some (.int .i64 h)
  b1 : W.cell? ⟨B, 1, none⟩ = some (.string N)
  b2 : W.cell? ⟨B, 2, none⟩ = some (.string F)
  b3 : W.cell? ⟨B, 3, none⟩ = some (.string V)
  k : Keeps (fun _ => False) w0 W
theorem CanS.next {g o : Nat} {L : List Value} {p : Option Addr} {n c : Nat} {cs : List (List UInt8)} {B : Nat} {h : Int} {N F V : ByteArray} {w0 W W' : World} (s : CanS g o L p n c cs B h N F V w0 W) (k : Keeps (fun _ => False) W W') : CanS g o L p n c cs B h N F V w0 W' :=
  ⟨k.rangeAt s.r id, s.s.keep k (fun _ _ _ f => f), (k.cell (p := ⟨B, 0, none⟩) (World.block_lt_of_cell? W _ s.b0) id).trans s.b0, (k.cell (p := ⟨B, 1, none⟩) (World.block_lt_of_cell? W _ s.b1) id).trans s.b1, (k.cell (p := ⟨B, 2, none⟩) (World.block_lt_of_cell? W _ s.b2) id).trans s.b2, (k.cell (p := ⟨B, 3, none⟩) (World.block_lt_of_cell? W _ s.b3) id).trans s.b3, s.k.trans k⟩

set_option maxRecDepth 100000 in
set_option maxHeartbeats 4000000 in
theorem canBe_any (h : Int) (N F V : ByteArray) (g Bt : Nat) (z : Bool) (w : World) (hn : N.size ≤ 9223372036854775807) (hv : V.size ≤ 9223372036854775807) (ht : Hid (TableAt Bt w g))
    (hz : Hid (lineB ⟨h, N.data.toList, F.data.toList, V.data.toList⟩ = z)) :
    Calls Tryz.prog 87 #[.agg #[.int .i64 h, .string N, .string F, .string V], .slice (some ⟨g, 0, none⟩) 12 12] w (NewRes (.bool z) w) := by
  go_enter Tryz.func87, Tryz.ntmps87
  go_wp2
  go_loopw [8] (fun i wr => ∃ k : Nat, k ≤ 12 ∧ i = .int .i64 k ∧ Hid (∀ (i : Nat) (q : RowD), i < k → tableD[i]? = some q → ¬ (q.head = h ∧ q.name = F.data.toList)) ∧ Hid (∃ m, wr = (w.alloc (.cells #[.int .i64 h, .string N, .string F, .string V] 79)).drewN m)) (fun i _ => 12 - (intOf i).toNat)
  case atStart => exact ⟨0, by omega, rfl, Lib.hid (fun _ _ h => by omega), Lib.hid ⟨0, rfl⟩⟩
  case round =>
    obtain ⟨k, hk12, rfl, hno, hm⟩ := hrel
    have b0 : wr.cell? ⟨w.heap.size, 0, none⟩ = some (.int .i64 h) := by obtain ⟨m, rfl⟩ := hm.out; simp [go_sem]
    have b1 : wr.cell? ⟨w.heap.size, 1, none⟩ = some (.string N) := by obtain ⟨m, rfl⟩ := hm.out; simp [go_sem]
    have b2 : wr.cell? ⟨w.heap.size, 2, none⟩ = some (.string F) := by obtain ⟨m, rfl⟩ := hm.out; simp [go_sem]
    have b3 : wr.cell? ⟨w.heap.size, 3, none⟩ = some (.string V) := by obtain ⟨m, rfl⟩ := hm.out; simp [go_sem]
    have kw : Keeps (fun _ => False) w wr := by obtain ⟨m, rfl⟩ := hm.out; exact ((Keeps.refl _ _).alloc _).drewN m
    by_cases hlt : k < 12
    · obtain ⟨r, hr⟩ : ∃ r, tableD[k]? = some r := ⟨_, List.getElem?_eq_getElem (show k < tableD.length from hlt)⟩
      obtain ⟨cv, hrange, hcs, -⟩ := (ht.out.keep kw) k r hr
      obtain ⟨p, cc, rfl, hcs0⟩ := hcs
      obtain ⟨Nm, hNm⟩ : ∃ Nm : ByteArray, Nm = ⟨r.name.toArray⟩ := ⟨_, rfl⟩
      obtain ⟨Df, hDf⟩ : ∃ Df : ByteArray, Df = ⟨r.df.toArray⟩ := ⟨_, rfl⟩
      have hra : wr.rangeAt g (k * 8) [.int .i64 r.head, .string Nm, .int .i64 r.kind, .int .i64 r.lo, .int .i64 r.hi, .slice p r.cs.length cc, .string Df, .int .i64 r.cl] := by rw [hNm, hDf]; exact hrange
      have a0 : wr.cell? ⟨g, k * 8, none⟩ = some (.int .i64 r.head) := hra 0 _ rfl
      have a1 : wr.cell? ⟨g, k * 8 + 1, none⟩ = some (.string Nm) := hra 1 _ rfl
      have hS0 : Hid (CanS g (k * 8) [.int .i64 r.head, .string Nm, .int .i64 r.kind, .int .i64 r.lo, .int .i64 r.hi, .slice p r.cs.length cc, .string Df, .int .i64 r.cl] p r.cs.length cc r.cs w.heap.size h N F V wr wr) := Lib.hid ⟨hra, ⟨p, cc, rfl, hcs0⟩, b0, b1, b2, b3, Keeps.refl _ _⟩
      have hNl : Nm.toList = r.name := by rw [hNm, Lib.toList_data]
      have hcl : r.cs.length ≤ 1000 := by
        have : ∀ q ∈ tableD, q.cs.length ≤ 1000 := by decide
        exact this r (List.mem_of_getElem? hr)
      have hr' := Lib.hid hr; have kw' := Lib.hid kw
      clear hra hrange hcs0 hNm hDf hr kw
      by_cases hh : r.head = h
      · have e1 : (r.head == h) = true := by simpa using hh
        by_cases hn2 : r.name = F.data.toList
        · have e2 : (Nm.toList == F.toList) = true := by rw [hNl, Lib.toList_data, hn2]; simp
          have hfr := find_step hr'.out hno.out ⟨hh, hn2⟩
          have hzz := hz.out
          unfold lineB at hzz
          simp only [hfr] at hzz
          have hzz' := Lib.hid hzz; clear hzz hfr hh hn2
          have hNl' := Lib.hid hNl; clear hNl
          go_wp2
          go_quiet (fail)
          go_wp2
          obtain ⟨zn, hzn⟩ : ∃ zn, namedB h N.data.toList = zn := ⟨_, rfl⟩
          obtain ⟨zr, hzr⟩ : ∃ zr, rightB r.kind r.lo r.hi r.cs V.data.toList = zr := ⟨_, rfl⟩
          have hzq : (zn && zr) = z := by rw [← hzz'.out, hzn, hzr]
          have hzn' := Lib.hid hzn; have hzr' := Lib.hid hzr
          clear hzn hzr
          cases zn with
          | true =>
            have hz2 : zr = z := hzq
            clear hzq
            subst hz2
            refine wp_region_noPanic ?_
            refine wp_region_held_drew (S := (fun W => CanS g (k * 8) [.int .i64 r.head, .string Nm, .int .i64 r.kind, .int .i64 r.lo, .int .i64 r.hi, .slice p r.cs.length cc, .string Df, .int .i64 r.cl] p r.cs.length cc r.cs w.heap.size h N F V wr W)) (by kernel_rfl) (hS0.out.next (((Keeps.refl _ _).drewN nq).drew)) (fun hHeld => ?_)
            refine tk 0 rfl ?_
            refine tkL 1 rfl (yieldsIf_load_cell (by rfl) 3 (.tmp 29) rfl w.heap.size 0 rfl _ (fun _ s => s.b0) (fun w s => load_int w _ _ _ s)) ?_
            refine tk 2 rfl ?_
            refine tkL 3 rfl (yieldsIf_load_cell (by rfl) 9 (.tmp 31) rfl w.heap.size 1 rfl _ (fun _ s => s.b1) (fun w s => load_str w _ _ _ s)) ?_
            refine stepL 4 rfl (by kernel_rfl) (fun K hK => ?_)
            go_simp
            (refine (named_any h N true _ hn hzn').mono ?_; rintro e w4 ⟨rfl, m4, rfl⟩)
            go_wp2_with fail
            refine hK.out _ _ (hHeld.next ⟨rfl, rfl, rfl, Nat.le_refl _, fun _ _ _ => rfl⟩) (fun hHeld => ?_)
            clear hK K
            try simp only [Act.put, sA, sZ, sS]
            refine tk 5 rfl ?_
            refine tk 6 rfl ?_
            refine tk 7 rfl ?_
            refine tk 8 rfl ?_
            refine tkL 9 rfl (yieldsIf_load_mid (by rfl) 147 (.tmp 37) rfl g (k * 8) rfl [.int .i64 r.head, .string Nm, .int .i64 r.kind, .int .i64 r.lo, .int .i64 r.hi, .slice p r.cs.length cc, .string Df, .int .i64 r.cl] _ (fun _ s => s.r) Tryz.underlying147 rfl rowInfo) ?_
            refine tk 10 rfl ?_
            refine tkL 11 rfl (yieldsIf_load_cell (by rfl) 9 (.tmp 39) rfl w.heap.size 3 rfl _ (fun _ s => s.b3) (fun w s => load_str w _ _ _ s)) ?_
            refine stepL 12 rfl (by kernel_rfl) (fun K hK => ?_)
            go_simp
            (refine (right_any r.head Nm Df r.kind r.lo r.hi r.cl p cc r.cs V zr _ hv hcl (Lib.hid hHeld.s) hzr').mono ?_; rintro e w5 ⟨rfl, hk5⟩)
            go_wp2_with fail
            refine hK.out _ _ (hHeld.next hk5) (fun hHeld => ?_)
            clear hK K
            try simp only [Act.put, sA, sZ, sS]
            refine tk 13 rfl ?_
            refine tk 14 rfl ?_
            refine wpAnyH_done (by kernel_rfl) (NoPanic.normal ?_) _
            have hkk := Lib.hid (kw'.out.trans hHeld.k)
            clear hHeld
            go_wp2
            go_ret
            exact ⟨rfl, hkk.out⟩
          | false =>
            have hz2 : false = z := hzq
            clear hzq
            subst hz2
            refine wp_region_noPanic ?_
            refine wp_region_held_drew (S := (fun W => CanS g (k * 8) [.int .i64 r.head, .string Nm, .int .i64 r.kind, .int .i64 r.lo, .int .i64 r.hi, .slice p r.cs.length cc, .string Df, .int .i64 r.cl] p r.cs.length cc r.cs w.heap.size h N F V wr W)) (by kernel_rfl) (hS0.out.next (((Keeps.refl _ _).drewN nq).drew)) (fun hHeld => ?_)
            refine tk 0 rfl ?_
            refine tkL 1 rfl (yieldsIf_load_cell (by rfl) 3 (.tmp 29) rfl w.heap.size 0 rfl _ (fun _ s => s.b0) (fun w s => load_int w _ _ _ s)) ?_
            refine tk 2 rfl ?_
            refine tkL 3 rfl (yieldsIf_load_cell (by rfl) 9 (.tmp 31) rfl w.heap.size 1 rfl _ (fun _ s => s.b1) (fun w s => load_str w _ _ _ s)) ?_
            refine stepL 4 rfl (by kernel_rfl) (fun K hK => ?_)
            go_simp
            (refine (named_any h N false _ hn hzn').mono ?_; rintro e w4 ⟨rfl, m4, rfl⟩)
            go_wp2_with fail
            refine hK.out _ _ (hHeld.next ⟨rfl, rfl, rfl, Nat.le_refl _, fun _ _ _ => rfl⟩) (fun hHeld => ?_)
            clear hK K
            try simp only [Act.put, sA, sZ, sS]
            refine tk 5 rfl ?_
            refine tkS 6 rfl ?_
            refine tkS 7 rfl ?_
            refine tkS 8 rfl ?_
            refine tkS 9 rfl ?_
            refine tkS 10 rfl ?_
            refine tkS 11 rfl ?_
            refine tkS 12 rfl ?_
            refine tk 13 rfl ?_
            refine tk 14 rfl ?_
            refine wpAnyH_done (by kernel_rfl) (NoPanic.normal ?_) _
            have hkk := Lib.hid (kw'.out.trans hHeld.k)
            clear hHeld
            go_wp2
            go_ret
            exact ⟨rfl, hkk.out⟩
        · have e2 : (Nm.toList == F.toList) = false := by rw [hNl, Lib.toList_data]; simpa using hn2
          have hno' : Hid (∀ (i : Nat) (q : RowD), i < k + 1 → tableD[i]? = some q → ¬ (q.head = h ∧ q.name = F.data.toList)) := Lib.hid (fun i q hi hq => by
            by_cases e : i = k
            · subst e
              have : q = r := by rw [hr'.out] at hq; injection hq with hq; exact hq.symm
              subst this
              exact fun ⟨_, b⟩ => hn2 b
            · exact hno.out i q (by omega) hq)
          have hNl' := Lib.hid hNl; clear hh hn2 hNl
          go_wp2
          go_quiet (fail)
          go_wp2
          exact ⟨⟨k + 1, by omega, by go_num, hno', by obtain ⟨m, rfl⟩ := hm.out; exact Lib.hid ⟨m + nq, by rw [World.drewN_drewN]⟩⟩, by simp [intOf]; omega⟩
      · have e1 : (r.head == h) = false := by simpa using hh
        have hno' : Hid (∀ (i : Nat) (q : RowD), i < k + 1 → tableD[i]? = some q → ¬ (q.head = h ∧ q.name = F.data.toList)) := Lib.hid (fun i q hi hq => by
          by_cases e : i = k
          · subst e
            have : q = r := by rw [hr'.out] at hq; injection hq with hq; exact hq.symm
            subst this
            exact fun ⟨a, _⟩ => hh a
          · exact hno.out i q (by omega) hq)
        have hNl' := Lib.hid hNl; clear hh hNl
        go_wp2
        go_quiet (fail)
        go_wp2
        exact ⟨⟨k + 1, by omega, by go_num, hno', by obtain ⟨m, rfl⟩ := hm.out; exact Lib.hid ⟨m + nq, by rw [World.drewN_drewN]⟩⟩, by simp [intOf]; omega⟩
    · obtain rfl : k = 12 := by omega
      have hfn := find_none hno.out
      have hz1 : Hid (z = false) := Lib.hid (by
        rw [← hz.out]
        unfold lineB
        simp only [hfn])
      have kw' := Lib.hid kw
      clear hfn kw
      go_wp2
      go_ret
      exact ⟨by rw [hz1.out]; rfl, kw'.out⟩
end Go.Proofs.YtialookpnoaogaaGreat
/- The document's RightLine, walked. -/
namespace Go.Proofs.YtialookpnoaogaaGreat
open Go.RowKit

theorem wpList_load_mid_g {P : Program} {ops : Array Oper} {rest : List Oper} {op : Oper} {a : Act} {w : World} {Q : Exit → Act → World → Prop} (hgd : Region.wanted op (yielded ops a.tmps) = true) (ty : TypeId) (x : Operand) (ho : op.op = .load ty x)
    (b o : Nat) (hx : a.eval x = .pointer (some ⟨b, o, none⟩)) (cs : List Value) (d : TypeDesc) (hc : w.rangeAt b o cs)
    (hu : P.underlying ty = some d) (hd : d.isRow = true) (hi : (P.info? ty).map (·.size) = some cs.length)
    (h : wpList P ops Q rest (a.put op.dst (.agg cs.toArray)) w) : wpList P ops Q (op :: rest) a w :=
  wpList_step fun K hK => by rw [if_pos hgd]; exact wp_load_mid ty x ho b o hx cs d hc hu hd hi (hK _ _ h)
theorem find_no (head : Int) (nm : ByteArray) (w : World) (h : Hid (findD head nm.data.toList = none)) :
    Calls Tryz.prog 72 #[.int .i64 head, .string nm] w fun e w' => e = .returned (.tuple #[.agg #[.int .i64 0, .string ⟨#[]⟩, .int .i64 0, .int .i64 0, .int .i64 0, .slice none 0 0, .string ⟨#[]⟩, .int .i64 0], .bool false]) ∧ Keeps (fun _ => False) w w' := find_any head nm none w h
theorem rFind_no (head : Int) (nm : ByteArray) (w : World) (h : Hid (findD head nm.data.toList = none)) :
    Calls Tryz.prog 74 #[.int .i64 head, .string nm] w fun e w' => e = .returned (.tuple #[.agg #[.int .i64 0, .string ⟨#[]⟩, .int .i64 0, .int .i64 0, .int .i64 0, .slice none 0 0, .string ⟨#[]⟩, .int .i64 0], .bool false]) ∧ Keeps (fun _ => False) w w' := rFind_any head nm none w h
theorem find_yes (head : Int) (nm : ByteArray) (r : RowD) (N F : ByteArray) (w : World) (h : Hid (findD head nm.data.toList = some r)) (hN : Hid (N = ⟨r.name.toArray⟩)) (hF : Hid (F = ⟨r.df.toArray⟩)) :
    Calls Tryz.prog 72 #[.int .i64 head, .string nm] w fun e w' => ∃ p cc, e = .returned (.tuple #[.agg #[.int .i64 r.head, .string N, .int .i64 r.kind, .int .i64 r.lo, .int .i64 r.hi, .slice p r.cs.length cc, .string F, .int .i64 r.cl], .bool true]) ∧ StrsAt w' (.slice p r.cs.length cc) r.cs ∧ Keeps (fun _ => False) w w' := by
  rw [hN.out, hF.out]; exact find_any head nm (some r) w h
theorem rFind_yes (head : Int) (nm : ByteArray) (r : RowD) (N F : ByteArray) (w : World) (h : Hid (findD head nm.data.toList = some r)) (hN : Hid (N = ⟨r.name.toArray⟩)) (hF : Hid (F = ⟨r.df.toArray⟩)) :
    Calls Tryz.prog 74 #[.int .i64 head, .string nm] w fun e w' => ∃ p cc, e = .returned (.tuple #[.agg #[.int .i64 r.head, .string N, .int .i64 r.kind, .int .i64 r.lo, .int .i64 r.hi, .slice p r.cs.length cc, .string F, .int .i64 r.cl], .bool true]) ∧ StrsAt w' (.slice p r.cs.length cc) r.cs ∧ Keeps (fun _ => False) w w' := by
  rw [hN.out, hF.out]; exact rFind_any head nm (some r) w h
theorem new_range (w w' : World) (L : List Value) (t : TypeId) (k : Keeps (fun _ => False) (w.alloc (.cells L.toArray t)) w') : w'.rangeAt w.heap.size 0 L := by
  refine k.rangeAt (fun j u hu => ?_) id
  have := cells_new (w := w) (n := w.heap.size) rfl L t j u hu
  rw [Addr.add_mid] at this; exact this


/-- a boxed line -/
structure BoxAt (B : Nat) (h : Int) (N F V : ByteArray) (W : World) : Prop where
  b0 : W.cell? ⟨B, 0, none⟩ = some (.int .i64 h)
  b1 : W.cell? ⟨B, 1, none⟩ = some (.string N)
  b2 : W.cell? ⟨B, 2, none⟩ = some (.string F)
  b3 : W.cell? ⟨B, 3, none⟩ = some (.string V)
theorem BoxAt.keep {B : Nat} {h : Int} {N F V : ByteArray} {W W' : World} (s : BoxAt B h N F V W) (k : Keeps (fun _ => False) W W') : BoxAt B h N F V W' :=
  ⟨(k.cell (p := ⟨B, 0, none⟩) (World.block_lt_of_cell? W _ s.b0) id).trans s.b0, (k.cell (p := ⟨B, 1, none⟩) (World.block_lt_of_cell? W _ s.b1) id).trans s.b1, (k.cell (p := ⟨B, 2, none⟩) (World.block_lt_of_cell? W _ s.b2) id).trans s.b2, (k.cell (p := ⟨B, 3, none⟩) (World.block_lt_of_cell? W _ s.b3) id).trans s.b3⟩
theorem boxAt_new (w : World) (h : Int) (N F V : ByteArray) (t : TypeId) : BoxAt w.heap.size h N F V (w.alloc (.cells #[.int .i64 h, .string N, .string F, .string V] t)) :=
  ⟨by simp [go_sem], by simp [go_sem], by simp [go_sem], by simp [go_sem]⟩

set_option maxRecDepth 100000 in
set_option maxHeartbeats 4000000 in
theorem rRightLine_any (h : Int) (N F V : ByteArray) (z : Bool) (w : World) (hn : N.size ≤ 8796093022000) (hv : V.size ≤ 8796093022000)
    (hz : Hid (lineB ⟨h, N.data.toList, F.data.toList, V.data.toList⟩ = z)) :
    Calls Tryz.prog 43 #[.agg #[.int .i64 h, .string N, .string F, .string V]] w (NewRes (.bool z) w) := by
  have hzz := hz.out
  unfold lineB at hzz
  simp only at hzz
  cases hf : findD h F.data.toList with
  | none =>
    rw [hf] at hzz
    have hz2 : false = z := hzz
    subst hz2
    have hf' := Lib.hid hf; clear hf hzz
    go_enter Tryz.func43, Tryz.ntmps43
    go_wp2_with fail
    refine (rFind_no h F _ hf').mono ?_
    rintro e w5 ⟨rfl, k5⟩
    have k5' := Lib.hid k5; clear k5
    go_wp2_with ((with_reducible refine at_store 3 ?_); refine wpList_store_new rfl 151 (.tmp 3) (.tmp 11) rfl _ #[.int .i64 0, .string ⟨#[]⟩, .int .i64 0, .int .i64 0, .int .i64 0, .slice none 0 0, .string ⟨#[]⟩, .int .i64 0] rfl rfl rowInfo4 rfl (row_one _ _ _ _ _ _ _ _ _ _) ?_)
    go_ret
    exact ⟨rfl, (((Keeps.refl _ _).alloc _).trans k5'.out).alloc _⟩
  | some r =>
    rw [hf] at hzz
    simp only at hzz
    have hf' := Lib.hid hf
    have hcl : r.cs.length ≤ 1000 := by
      have : ∀ q ∈ tableD, q.cs.length ≤ 1000 := by decide
      exact this r (List.mem_of_find?_eq_some hf)
    obtain ⟨Nm, hNm⟩ : ∃ Nm : ByteArray, Nm = ⟨r.name.toArray⟩ := ⟨_, rfl⟩
    obtain ⟨Df, hDf⟩ : ∃ Df : ByteArray, Df = ⟨r.df.toArray⟩ := ⟨_, rfl⟩
    have hNm' := Lib.hid hNm; have hDf' := Lib.hid hDf
    clear hf hNm hDf
    obtain ⟨zn, hzn⟩ : ∃ zn, namedB h N.data.toList = zn := ⟨_, rfl⟩
    obtain ⟨zr, hzr⟩ : ∃ zr, rightB r.kind r.lo r.hi r.cs V.data.toList = zr := ⟨_, rfl⟩
    rw [hzn, hzr] at hzz
    have hzn' := Lib.hid hzn; have hzr' := Lib.hid hzr
    clear hzn hzr
    have hbx0 := Lib.hid (boxAt_new w h N F V 55)
    cases zn with
    | true =>
      have hz2 : zr = z := hzz
      clear hzz
      subst hz2
      go_enter Tryz.func43, Tryz.ntmps43
      go_wp2_with fail
      refine (rFind_yes h F r Nm Df _ hf' hNm' hDf').mono ?_
      rintro e w5 ⟨p, cc, rfl, s5, k5⟩
      have k5' := Lib.hid k5; have s5' := Lib.hid s5
      have hbx5 := Lib.hid (hbx0.out.keep k5)
      clear k5 s5
      obtain ⟨b0, b1, b2, b3⟩ := hbx5.out.keep ((Keeps.refl (fun _ => False) w5).alloc (.cells #[.int .i64 r.head, .string Nm, .int .i64 r.kind, .int .i64 r.lo, .int .i64 r.hi, .slice p r.cs.length cc, .string Df, .int .i64 r.cl] 151))
      go_wp2_with ((with_reducible refine at_store 3 ?_); refine wpList_store_new rfl 151 (.tmp 3) (.tmp 11) rfl _ #[.int .i64 r.head, .string Nm, .int .i64 r.kind, .int .i64 r.lo, .int .i64 r.hi, .slice p r.cs.length cc, .string Df, .int .i64 r.cl] rfl rfl rowInfo4 rfl (row_one _ _ _ _ _ _ _ _ _ _) ?_)
      refine (rNamed_any h N true _ hn hzn').mono ?_
      rintro e w6 ⟨rfl, k6⟩
      have hr22 := Lib.hid (new_range w5 _ _ 151 k6)
      have k6' := Lib.hid k6
      have hbx6 := (hbx5.out.keep ((Keeps.refl (fun _ => False) w5).alloc _)).keep k6
      clear k6 b0 b1 b2 b3
      have b3 := hbx6.b3
      clear hbx6
      go_wp2_with ((with_reducible refine at_slot 22 ?_); refine wpList_load_mid_g (by rfl) 151 (.tmp 3) rfl w5.heap.size 0 rfl _ _ hr22.out Tryz.underlying151 rfl rowInfo4 ?_)
      refine (rRight_any r.head Nm Df r.kind r.lo r.hi r.cl p cc r.cs V zr _ hv hcl (Lib.hid (s5'.out.keep (((Keeps.refl (fun _ => False) _).alloc _).trans k6'.out) (fun _ _ _ f => f))) hzr').mono ?_
      rintro e w7 ⟨rfl, k7⟩
      have k7' := Lib.hid k7; clear k7
      go_wp2
      go_ret
      exact ⟨rfl, (((((Keeps.refl _ _).alloc _).trans k5'.out).alloc _).trans k6'.out).trans k7'.out⟩
    | false =>
      have hz2 : false = z := hzz
      clear hzz
      subst hz2
      go_enter Tryz.func43, Tryz.ntmps43
      go_wp2_with fail
      refine (rFind_yes h F r Nm Df _ hf' hNm' hDf').mono ?_
      rintro e w5 ⟨p, cc, rfl, s5, k5⟩
      have k5' := Lib.hid k5
      have hbx5 := Lib.hid (hbx0.out.keep k5)
      clear k5 s5
      obtain ⟨b0, b1, b2, b3⟩ := hbx5.out.keep ((Keeps.refl (fun _ => False) w5).alloc (.cells #[.int .i64 r.head, .string Nm, .int .i64 r.kind, .int .i64 r.lo, .int .i64 r.hi, .slice p r.cs.length cc, .string Df, .int .i64 r.cl] 151))
      go_wp2_with ((with_reducible refine at_store 3 ?_); refine wpList_store_new rfl 151 (.tmp 3) (.tmp 11) rfl _ #[.int .i64 r.head, .string Nm, .int .i64 r.kind, .int .i64 r.lo, .int .i64 r.hi, .slice p r.cs.length cc, .string Df, .int .i64 r.cl] rfl rfl rowInfo4 rfl (row_one _ _ _ _ _ _ _ _ _ _) ?_)
      refine (rNamed_any h N false _ hn hzn').mono ?_
      rintro e w6 ⟨rfl, k6⟩
      have k6' := Lib.hid k6; clear k6 b0 b1 b2 b3
      go_wp2
      go_ret
      exact ⟨rfl, ((((Keeps.refl _ _).alloc _).trans k5'.out).alloc _).trans k6'.out⟩
end Go.Proofs.YtialookpnoaogaaGreat
