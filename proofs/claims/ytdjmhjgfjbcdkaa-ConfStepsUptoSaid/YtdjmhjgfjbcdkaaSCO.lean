/- The document's table and its Find, walked. -/
import Derived.Test.YtdjmhjgfjbcdkaaSCN
namespace Go.Proofs.Ytdjmhjgfjbcdkaa
open Go.RowKit

theorem rowInfo4 : (Try.prog.info? 78).map (·.size) = some 8 := by kernel_rfl
set_option maxRecDepth 100000 in
set_option maxHeartbeats 4000000 in
theorem rTable_any (w : World) : Calls Try.prog 51 #[] w (TablePost w) := by
  go_enter Try.func51, Try.ntmps51
  go_wp2
  go_ret
  exact tablePost_of _ _ _ rfl rfl rfl

/-- what the document's Find answers; its row's choices lie in a new block -/
def FindPostF (f : Option RowD) (w : World) (e : Ending) (w' : World) : Prop :=
  match f with
  | some r => ∃ p cc, e = .returned (.tuple #[.agg #[.int .i64 r.head, strv r.name, .int .i64 r.kind, .int .i64 r.lo, .int .i64 r.hi, .slice p r.cs.length cc, strv r.df, .int .i64 r.cl], .bool true]) ∧ StrsAt w' (.slice p r.cs.length cc) r.cs ∧ (∀ i, (Value.slice p r.cs.length cc).ownBlock = some i → w.heap.size ≤ i) ∧ Keeps (fun _ => False) w w'
  | none => e = .returned (.tuple #[.agg zeroRow, .bool false]) ∧ Keeps (fun _ => False) w w'
set_option maxRecDepth 100000 in
set_option maxHeartbeats 2000000 in
theorem rFind_new (head : Int) (nm : ByteArray) (f : Option RowD) (w : World) (hf : Hid (findD head nm.data.toList = f)) :
    Calls Try.prog 39 #[.int .i64 head, .string nm] w (FindPostF f w) := by
  go_enter Try.func39, Try.ntmps39
  go_wp2_with fail
  refine (rTable_any _).mono ?_
  rintro e w1 ⟨g, rfl, hg, ht, hk⟩
  have hb : w1.heap[w.heap.size]? = some (.cells zeroRow 78 (0, 0)) := by
    rw [hk.block _ (by simp) id]
    exact heap_alloc_last w _
  have hb' := Lib.hid hb; have ht' := Lib.hid (show TableAt (w.heap.size + 1) w1 g by simpa using ht); have hk' := Lib.hid (((Keeps.refl (fun _ => False) w).alloc _).trans hk)
  have hgs : w.heap.size + 1 ≤ g := by simpa using hg
  clear hb ht hk hg
  go_wp2_with fail
  go_loopw [7] (fun i wr => ∃ k : Nat, k ≤ 12 ∧ i = .int .i64 k ∧ Hid (∀ (i : Nat) (q : RowD), i < k → tableD[i]? = some q → ¬ (q.head = head ∧ q.name = nm.data.toList)) ∧ Hid (TableAt (w.heap.size + 1) wr g) ∧ Hid (wr.heap[w.heap.size]? = some (.cells zeroRow 78 (0, 0))) ∧ Hid (Keeps (fun _ => False) w wr)) (fun i _ => 12 - (intOf i).toNat)
  case atStart => exact ⟨0, by omega, rfl, Lib.hid (fun _ _ h => by omega), ht', hb', hk'⟩
  case round =>
    obtain ⟨k, hk12, rfl, hno, htr, hbr, hkr⟩ := hrel
    by_cases hlt : k < 12
    · obtain ⟨r, hr⟩ : ∃ r, tableD[k]? = some r := ⟨_, List.getElem?_eq_getElem (show k < tableD.length from hlt)⟩
      obtain ⟨cv, hrange, hcs, hbk⟩ := htr.out k r hr
      obtain ⟨p, cc, rfl, hcs0⟩ := hcs
      have hbkeep := Lib.hid hbk; clear hbk
      have hcs' : Hid (StrsAt wr (.slice p r.cs.length cc) r.cs) := Lib.hid ⟨p, cc, rfl, hcs0⟩
      obtain ⟨N, hN⟩ : ∃ N : ByteArray, N = ⟨r.name.toArray⟩ := ⟨_, rfl⟩
      obtain ⟨F, hF⟩ : ∃ F : ByteArray, F = ⟨r.df.toArray⟩ := ⟨_, rfl⟩
      have hra : Hid (wr.rangeAt g (k * 8) [.int .i64 r.head, .string N, .int .i64 r.kind, .int .i64 r.lo, .int .i64 r.hi, .slice p r.cs.length cc, .string F, .int .i64 r.cl]) := Lib.hid (by rw [hN, hF]; exact hrange)
      have a0 : wr.cell? ⟨g, k * 8, none⟩ = some (.int .i64 r.head) := hra.out 0 _ rfl
      have a1 : wr.cell? ⟨g, k * 8 + 1, none⟩ = some (.string N) := hra.out 1 _ rfl
      have hNl : N.toList = r.name := by rw [hN, Lib.toList_data]
      have hN' := Lib.hid hN; have hF' := Lib.hid hF; have hr' := Lib.hid hr
      clear hcs0 hrange hN hF hr
      by_cases hh : r.head = head
      · have e1 : (r.head == head) = true := by simpa using hh
        by_cases hn : r.name = nm.data.toList
        · have e2 : (N.toList == nm.toList) = true := by rw [hNl, Lib.toList_data, hn]; simp
          have hfr : Hid (f = some r) := Lib.hid (by rw [← hf.out]; exact find_step hr'.out hno.out ⟨hh, hn⟩)
          have hNl' := Lib.hid hNl; clear hh hn hNl
          go_wp2_with (first | ((with_reducible refine at_slot 34 ?_); refine wpList_load_mid rfl 78 (.tmp 33) rfl g (k * 8) rfl _ _ hra.out Try.underlying78 rfl rowInfo4 ?_) | ((with_reducible refine at_store 4 ?_); refine wpList_store_row_named rfl 78 (.tmp 4) (.tmp 34) rfl w.heap.size #[.int .i64 r.head, .string N, .int .i64 r.kind, .int .i64 r.lo, .int .i64 r.hi, .slice p r.cs.length cc, .string F, .int .i64 r.cl] rfl rfl 78 zeroRow hbr.out rowInfo4 rfl (row_one _ _ _ _ _ _ _ _ _ _) ?_; intro W2 hW2; have hW2' := Lib.hid hW2; clear hW2))
          have hcell : ∀ j, W2.cell? ⟨w.heap.size, j, none⟩ = (#[.int .i64 r.head, .string N, .int .i64 r.kind, .int .i64 r.lo, .int .i64 r.hi, .slice p r.cs.length cc, .string F, .int .i64 r.cl] : Array Value)[j]? := fun j => by rw [hW2'.out]; exact cell_setRow_same _ _ _ _ _ _ _ hbr.out
          have c0 := hcell 0; have c1 := hcell 1; have c2 := hcell 2; have c3 := hcell 3; have c4 := hcell 4; have c5 := hcell 5; have c6 := hcell 6; have c7 := hcell 7
          have kall : Keeps (fun _ => False) w W2 := by rw [hW2'.out]; exact hkr.out.setRow (.inr (Nat.le_refl _)) _
          have hcsW : StrsAt W2 (.slice p r.cs.length cc) r.cs := by
            have h1 := hcs'.out
            rw [hW2'.out]
            refine h1.keep ((Keeps.refl (fun k => k = w.heap.size) _).setRow (.inl rfl) _) (fun h0 i e f => ?_)
            have := hbkeep.out i e
            omega
          have hcell' := Lib.hid hcell; clear hcell
          rw [hfr.out]
          refine bodyPost_ret (v := .tuple #[.agg #[.int .i64 r.head, .string N, .int .i64 r.kind, .int .i64 r.lo, .int .i64 r.hi, .slice p r.cs.length cc, .string F, .int .i64 r.cl], .bool true]) (by simp [results, Try.results39, go_sem, c0, c1, c2, c3, c4, c5, c6, c7]) rfl ⟨p, cc, ?_, hcsW, fun i e => by have := hbkeep.out i e; omega, kall⟩
          rw [hN'.out, hF'.out]; rfl
        · have e2 : (N.toList == nm.toList) = false := by rw [hNl, Lib.toList_data]; simpa using hn
          have hno' : Hid (∀ (i : Nat) (q : RowD), i < k + 1 → tableD[i]? = some q → ¬ (q.head = head ∧ q.name = nm.data.toList)) := Lib.hid (fun i q hi hq => by
            by_cases e : i = k
            · subst e
              have : q = r := by rw [hr'.out] at hq; injection hq with hq; exact hq.symm
              subst this
              exact fun ⟨_, b⟩ => hn b
            · exact hno.out i q (by omega) hq)
          have hNl' := Lib.hid hNl; clear hh hn hNl
          go_wp2
          exact ⟨⟨k + 1, by omega, by go_num, hno', htr, hbr, hkr⟩, by simp [intOf]; omega⟩
      · have e1 : (r.head == head) = false := by simpa using hh
        have hno' : Hid (∀ (i : Nat) (q : RowD), i < k + 1 → tableD[i]? = some q → ¬ (q.head = head ∧ q.name = nm.data.toList)) := Lib.hid (fun i q hi hq => by
          by_cases e : i = k
          · subst e
            have : q = r := by rw [hr'.out] at hq; injection hq with hq; exact hq.symm
            subst this
            exact fun ⟨a, _⟩ => hh a
          · exact hno.out i q (by omega) hq)
        have hNl' := Lib.hid hNl; clear hh hNl
        go_wp2
        exact ⟨⟨k + 1, by omega, by go_num, hno', htr, hbr, hkr⟩, by simp [intOf]; omega⟩
    · obtain rfl : k = 12 := by omega
      have hfn : Hid (f = none) := Lib.hid (by rw [← hf.out]; exact find_none hno.out)
      go_wp2_with ((with_reducible refine at_store 4 ?_); refine wpList_store_row_named rfl 78 (.tmp 4) (.tmp 35) rfl w.heap.size zeroRow rfl rfl 78 zeroRow hbr.out rowInfo4 rfl (row_one _ _ _ _ _ _ _ _ _ _) ?_; intro W2 hW2; have hW2' := Lib.hid hW2; clear hW2)
      have hcell : ∀ j, W2.cell? ⟨w.heap.size, j, none⟩ = zeroRow[j]? := fun j => by rw [hW2'.out]; exact cell_setRow_same _ _ _ _ _ _ _ hbr.out
      have c0 := hcell 0; have c1 := hcell 1; have c2 := hcell 2; have c3 := hcell 3; have c4 := hcell 4; have c5 := hcell 5; have c6 := hcell 6; have c7 := hcell 7
      have kall : Keeps (fun _ => False) w W2 := by rw [hW2'.out]; exact hkr.out.setRow (.inr (Nat.le_refl _)) _
      rw [hfn.out]
      refine bodyPost_ret (v := .tuple #[.agg zeroRow, .bool false]) (by simp [results, Try.results39, go_sem, c0, c1, c2, c3, c4, c5, c6, c7, zeroRow]) rfl ⟨rfl, kall⟩
theorem rFind_any (head : Int) (nm : ByteArray) (f : Option RowD) (w : World) (hf : Hid (findD head nm.data.toList = f)) :
    Calls Try.prog 39 #[.int .i64 head, .string nm] w (FindPost f w) :=
  (rFind_new head nm f w hf).mono fun e w' h => by
    cases f with
    | none => exact h
    | some r => obtain ⟨p, cc, he, hs, _, hk⟩ := h; exact ⟨p, cc, he, hs, hk⟩
end Go.Proofs.Ytdjmhjgfjbcdkaa
