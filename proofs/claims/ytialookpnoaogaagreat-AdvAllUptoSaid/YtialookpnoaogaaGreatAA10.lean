/- Delete, the code's and the document's, of a right configuration (gen_cgh.py). -/
import Derived.Test.YtialookpnoaogaaGreatAA09
import Derived.Test.YtialookpnoaogaaGreatAA08
set_option linter.unusedVariables false
set_option linter.unusedSimpArgs false
set_option linter.unusedVariables false
set_option linter.unusedSimpArgs false
namespace Go.Proofs.YtialookpnoaogaaGreat
open Go.RowKit

def keepB (h : Int) (n l : List UInt8) (q : LineD) : Bool := decide (q.head ≠ h) || decide (q.name ≠ n) || (decide (l ≠ []) && decide (q.leaf ≠ l))
def delC (h : Int) (n l : List UInt8) (ls : List LineD) : List LineD := ls.filter (keepB h n l)
def dK (h : Int) (n l : List UInt8) (ls : List LineD) (k : Nat) : List LineD := (ls.take k).filter (keepB h n l)
theorem dK_step {h : Int} {n l : List UInt8} {q : LineD} {ls : List LineD} {k : Nat} (hq : ls[k]? = some q) : dK h n l ls (k + 1) = dK h n l ls k ++ (if keepB h n l q = true then [q] else []) := by
  obtain ⟨hk, e⟩ := List.getElem?_eq_some_iff.1 hq
  unfold dK
  rw [List.take_succ_eq_append_getElem hk, e, List.filter_append]
  congr 1
  simp [List.filter_cons]
theorem dK_len (h : Int) (n l : List UInt8) (ls : List LineD) (k : Nat) : (dK h n l ls k).length ≤ k := by
  have h1 := List.length_filter_le (keepB h n l) (ls.take k)
  rw [List.length_take] at h1
  unfold dK
  omega
def DelPost (t : TypeId) (zs : List LineD) (n : Nat) (w : World) (e : Ending) (w' : World) : Prop :=
  (zs.length = n → e = .returned (.tuple #[.slice none 0 0, .int .i64 6])) ∧ (zs.length ≠ n → ∃ p c, e = .returned (.tuple #[.slice p zs.length c, .int .i64 0]) ∧ OwnR t 4 lineVals w w' (.slice p zs.length c) zs) ∧ Keeps (fun _ => False) w w'
theorem bne_list {a b : ByteArray} (h : a.data.toList ≠ b.data.toList) : (a.toList == b.toList) = false := by rw [Lib.toList_data, Lib.toList_data]; simpa using h
theorem beq_list {a b : ByteArray} (h : a.data.toList = b.data.toList) : (a.toList == b.toList) = true := by rw [Lib.toList_data, Lib.toList_data]; simpa using h
theorem empty_list {a : ByteArray} (h : a.data.toList = []) : a.toList.isEmpty = true := by rw [Lib.toList_data, h]; rfl
theorem nonempty_list {a : ByteArray} (h : a.data.toList ≠ []) : a.toList.isEmpty = false := by rw [Lib.toList_data]; cases hh : a.data.toList with | nil => exact absurd hh h | cons => rfl

end Go.Proofs.YtialookpnoaogaaGreat
/- conf.Set of a wrong line; slices.Equal of lines; conf.Same, walked (gen_cgi.py). -/
set_option linter.unusedVariables false
set_option linter.unusedSimpArgs false
namespace Go.Proofs.YtialookpnoaogaaGreat
open Go.RowKit

theorem lineC_neq (W : World) (h1 h2 : Int) (n1 f1 v1 n2 f2 v2 : ByteArray) (z : Bool) (hz : (z = false) ↔ (h1 = h2 ∧ n1.toList = n2.toList ∧ f1.toList = f2.toList ∧ v1.toList = v2.toList)) :
    (binOp .neq 79 (.agg #[.int .i64 h1, .string n1, .string f1, .string v1]) (.agg #[.int .i64 h2, .string n2, .string f2, .string v2])).run Tryz.prog W = .ok (.bool z) W := by
  by_cases e1 : h1 = h2
  · subst e1
    by_cases e2 : n1.toList = n2.toList
    · by_cases e3 : f1.toList = f2.toList
      · by_cases e4 : v1.toList = v2.toList
        · obtain rfl : z = false := hz.2 ⟨rfl, e2, e3, e4⟩
          go_simp
        · obtain rfl : z = true := by cases z with | true => rfl | false => exact absurd (hz.1 rfl).2.2.2 e4
          go_simp
      · obtain rfl : z = true := by cases z with | true => rfl | false => exact absurd (hz.1 rfl).2.2.1 e3
        go_simp
    · obtain rfl : z = true := by cases z with | true => rfl | false => exact absurd (hz.1 rfl).2.1 e2
      go_simp
  · obtain rfl : z = true := by cases z with | true => rfl | false => exact absurd (hz.1 rfl).1 e1
    go_simp
theorem guardLineC (op : BinOp) (x y : Operand) (xs ys : Array Value) (w : World) : (eqGuard op 79 x y (.agg xs) (.agg ys)).run Tryz.prog w = .ok () w := run_eqGuard_agg w op 79 x y xs ys (by kernel_rfl)
end Go.Proofs.YtialookpnoaogaaGreat
/- What Set and Delete change, plain. -/
set_option linter.unusedVariables false
set_option linter.unusedSimpArgs false
namespace Go.Proofs.YtialookpnoaogaaGreat
open Go.RowKit

def bareL (x : LineD) : LineD := ⟨x.head, x.name, x.leaf, []⟩
theorem posL_bare (x : LineD) : ∀ ls : List LineD, posL (bareL x) ls = posL x ls := by
  intro ls
  induction ls with
  | nil => rfl
  | cons q ls ih =>
    have e : lessB q (bareL x) = lessB q x := rfl
    rw [posL, posL, e, ih]
theorem thereB_bare (x : LineD) (ls : List LineD) : thereB (bareL x) ls = thereB x ls := by
  unfold thereB
  rw [posL_bare]
  cases ls[posL x ls]? <;> rfl
theorem less_irr (a : LineD) : lessB a a = false := by
  cases h : lessB a a with
  | false => rfl
  | true => have := less_asymm h; rw [h] at this; cases this
theorem key_eq {a b : LineD} (h1 : lessB a b = false) (h2 : lessB b a = false) : a.head = b.head ∧ a.name = b.name ∧ a.leaf = b.leaf := by
  have a1 := (not_congr (lessB_iff a b)).1 (by rw [h1]; exact Bool.false_ne_true)
  have a2 := (not_congr (lessB_iff b a)).1 (by rw [h2]; exact Bool.false_ne_true)
  have eh : a.head = b.head := by
    have : ¬ a.head < b.head := fun h' => a1 (.inl h')
    have : ¬ b.head < a.head := fun h' => a2 (.inl h')
    omega
  have en : a.name = b.name := bl_tri (Bool.eq_false_iff.2 fun h' => a1 (.inr ⟨eh, .inl h'⟩)) (Bool.eq_false_iff.2 fun h' => a2 (.inr ⟨eh.symm, .inl h'⟩))
  exact ⟨eh, en, bl_tri (Bool.eq_false_iff.2 fun h' => a1 (.inr ⟨eh, .inr ⟨en, h'⟩⟩)) (Bool.eq_false_iff.2 fun h' => a2 (.inr ⟨eh.symm, .inr ⟨en.symm, h'⟩⟩))⟩
theorem less_key {a b : LineD} (h : lessB a b = true) : ¬ (a.head = b.head ∧ a.name = b.name ∧ a.leaf = b.leaf) := by
  rintro ⟨h1, h2, h3⟩
  rw [lessB_iff] at h
  rw [h1, h2, h3] at h
  rcases h with h | ⟨_, h | ⟨_, h⟩⟩
  · omega
  · rw [bl_irr] at h; cases h
  · rw [bl_irr] at h; cases h
/-- each line stands at its place -/
theorem find_at {q : LineD} : ∀ {ls : List LineD}, rises ls → q ∈ ls → ls[posL q ls]? = some q := by
  intro ls
  induction ls with
  | nil => intro _ h; cases h
  | cons a ls ih =>
    intro h hq
    rcases List.mem_cons.1 hq with rfl | hq
    · rw [posL, if_neg (by rw [less_irr]; exact Bool.false_ne_true)]; rfl
    · rw [posL, if_pos (rises_head h q hq)]
      simpa using ih (rises_tail h) hq
theorem there_at {q : LineD} {ls : List LineD} (h : rises ls) (hq : q ∈ ls) : thereB q ls = true := by
  unfold thereB
  rw [find_at h hq]
  simp [less_irr]
theorem mem_self (x : LineD) (ls : List LineD) : x ∈ setC x ls := by
  unfold setC
  exact List.mem_append_right _ (List.mem_cons_self ..)
theorem setC_again {x : LineD} {ls : List LineD} (h : rises ls) : setC x (setC x ls) = setC x ls := by
  have hr := rises_setC (x := x) h
  have hm := mem_self x ls
  generalize setC x ls = d at hr hm
  have ht := there_at hr hm
  have hf := find_at hr hm
  obtain ⟨hk, e⟩ := List.getElem?_eq_some_iff.1 hf
  unfold setC
  rw [if_pos ht]
  have h1 : d.drop (posL x d) = x :: d.drop (posL x d + 1) := by rw [List.drop_eq_getElem_cons hk, e]
  rw [← h1, List.take_append_drop]
theorem mem_other {x q : LineD} : ∀ {ls : List LineD}, q ∈ ls → ¬ (q.head = x.head ∧ q.name = x.name ∧ q.leaf = x.leaf) → q ∈ setC x ls := by
  intro ls
  induction ls with
  | nil => intro h; cases h
  | cons a ls ih =>
    intro hq hk
    cases ha : lessB a x with
    | true =>
      rw [setC_ahead ha]
      rcases List.mem_cons.1 hq with rfl | hq
      · exact List.mem_cons_self ..
      · exact List.mem_cons_of_mem _ (ih hq hk)
    | false =>
      cases hx : lessB x a with
      | true => rw [setC_here ha hx]; exact List.mem_cons_of_mem _ hq
      | false =>
        rw [setC_same ha hx]
        rcases List.mem_cons.1 hq with rfl | hq
        · exact absurd (key_eq ha hx) hk
        · exact List.mem_cons_of_mem _ hq
theorem keep_not {x q : LineD} (hl : x.leaf ≠ []) (hk : ¬ (x.head = q.head ∧ x.name = q.name ∧ x.leaf = q.leaf)) : keepB x.head x.name x.leaf q = true := by
  unfold keepB
  by_cases a1 : q.head = x.head
  · by_cases a2 : q.name = x.name
    · have a3 : q.leaf ≠ x.leaf := fun e => hk ⟨a1.symm, a2.symm, e.symm⟩
      simp [hl, a3]
    · simp [a2]
  · simp [a1]
theorem keep_self (x : LineD) : keepB x.head x.name x.leaf x = false := by unfold keepB; simp
theorem del_len {x : LineD} (hl : x.leaf ≠ []) : ∀ {ls : List LineD}, rises ls → x ∈ ls → (delC x.head x.name x.leaf ls).length + 1 = ls.length := by
  intro ls
  induction ls with
  | nil => intro _ h; cases h
  | cons a ls ih =>
    intro h hx
    by_cases e : a = x
    · subst e
      have hall : ls.filter (keepB a.head a.name a.leaf) = ls := List.filter_eq_self.2 fun q hq => keep_not hl (less_key (rises_head h q hq))
      unfold delC
      rw [List.filter_cons, keep_self, hall]; rfl
    · have hx2 : x ∈ ls := by rcases List.mem_cons.1 hx with h' | h'; exact absurd h'.symm e; exact h'
      have hk : keepB x.head x.name x.leaf a = true := keep_not hl (fun ⟨e1, e2, e3⟩ => less_key (rises_head h x hx2) ⟨e1.symm, e2.symm, e3.symm⟩)
      have := ih (rises_tail h) hx2
      unfold delC at this ⊢
      rw [List.filter_cons, hk, if_pos rfl, List.length_cons, List.length_cons]; omega
theorem del_again (h : Int) (n l : List UInt8) (ls : List LineD) : delC h n l (delC h n l ls) = delC h n l ls := by unfold delC; rw [List.filter_filter]; simp
theorem rises_filter (f : LineD → Bool) : ∀ {ls : List LineD}, rises ls → rises (ls.filter f) := by
  intro ls
  induction ls with
  | nil => intro _; trivial
  | cons a ls ih =>
    intro h
    rw [List.filter_cons]
    split
    · exact rises_cons (fun b hb => rises_head h b ((List.mem_filter.1 hb).1)) (ih (rises_tail h))
    · exact ih (rises_tail h)
theorem right_del {h : Int} {n l : List UInt8} {ls : List LineD} (hr : rightC ls = true) : rightC (delC h n l ls) = true :=
  right_of (fun q hq => right_line hr q ((List.mem_filter.1 hq).1)) (rises_filter _ (right_rises hr)) (Nat.le_trans (List.length_filter_le _ _) (right_len hr))
theorem leaf_ne {x : LineD} (h : lineB x = true) : x.leaf ≠ [] := by
  unfold lineB at h
  cases hf : findD x.head x.leaf with
  | none => rw [hf] at h; cases h
  | some r =>
    have hm : r ∈ tableD := List.mem_of_find?_eq_some hf
    have hp := List.find?_some hf
    rw [decide_eq_true_eq] at hp
    have hall : ∀ q ∈ tableD, q.name ≠ [] := by decide
    rw [← hp.2]; exact hall r hm
end Go.Proofs.YtialookpnoaogaaGreat
/- The document's Value, walked; it is the code's (gen_cgn.py). -/
set_option linter.unusedVariables false
set_option linter.unusedSimpArgs false
namespace Go.Proofs.YtialookpnoaogaaGreat
open Go.RowKit

def keyB (h : Int) (n l : List UInt8) (q : LineD) : Bool := decide (q.head = h) && decide (q.name = n) && decide (q.leaf = l)
def valueR (ls : List LineD) (h : Int) (n l : List UInt8) : List UInt8 := match ls.find? (keyB h n l) with
  | some q => q.value
  | none => match findD h l with
    | some r => r.df
    | none => []
theorem find_first {ls : List LineD} {k : Nat} {q : LineD} {f : LineD → Bool} (hq : ls[k]? = some q) (hno : ∀ j r, j < k → ls[j]? = some r → f r = false) (h : f q = true) : ls.find? f = some q := by
  rw [List.find?_eq_some_iff_getElem]
  obtain ⟨hk, e⟩ := List.getElem?_eq_some_iff.1 hq
  exact ⟨h, k, hk, e, fun j hj => by
    have := hno j _ hj (List.getElem?_eq_getElem (by omega))
    simpa using this⟩
theorem find_nowhere {ls : List LineD} {f : LineD → Bool} (hno : ∀ j r, j < ls.length → ls[j]? = some r → f r = false) : ls.find? f = none := by
  rw [List.find?_eq_none]
  intro q hq
  obtain ⟨i, hi⟩ := List.getElem?_of_mem hq
  rw [hno i q (List.getElem?_eq_some_iff.1 hi).1 hi]; simp

set_option maxRecDepth 100000 in
set_option maxHeartbeats 8000000 in
theorem rValue_c (v : Value) (ls : List LineD) (h : Int) (N L V : ByteArray) (w : World) (hv : Hid (RowsAt 4 lineVals w v ls)) (hlt : Hid (LinesLt ls 8796093022000)) (hlen : ls.length ≤ 64) (hr : Hid (rightC ls = true)) (hV : Hid (V = ⟨(valueR ls h N.data.toList L.data.toList).toArray⟩)) :
    Calls Tryz.prog 39 #[v, .int .i64 h, .string N, .string L] w (NewRes (.string V) w) := by
  obtain ⟨p, c, rfl⟩ := hv.out.slice
  have hLn := Lib.hid hv.out.lines
  go_enter Tryz.func39, Tryz.ntmps39
  go_wp2_with fail
  refine (rRight_c _ ls true _ hLn (by omega) hlt hr).mono ?_
  rintro e w2 ⟨rfl, k2⟩
  have hK2 := Lib.hid k2
  have hv2 := Lib.hid (hv.out.keep k2)
  clear k2 hLn hlt hr
  go_wp2_with fail
  go_loopw [9] (fun iv wr => ∃ (k : Nat), k ≤ ls.length ∧ iv = .int .i64 k ∧ Hid (∀ (j : Nat) (r : LineD), j < k → ls[j]? = some r → keyB h N.data.toList L.data.toList r = false) ∧ Hid (Keeps (fun _ => False) w2 wr)) (fun iv _ => ls.length - (intOf iv).toNat)
  case atStart => exact ⟨0, by omega, rfl, Lib.hid (fun _ _ h => by omega), Lib.hid (Keeps.refl _ _)⟩
  case round =>
    obtain ⟨k, hk, rfl, hno, hKw⟩ := hrel
    by_cases hlk : k < ls.length
    · obtain ⟨g, o, rfl, hrows⟩ := hv2.out.open (by omega)
      obtain ⟨q, hq⟩ : ∃ q, ls[k]? = some q := ⟨_, List.getElem?_eq_getElem hlk⟩
      obtain ⟨Nq, hN⟩ : ∃ N : ByteArray, N = ⟨q.name.toArray⟩ := ⟨_, rfl⟩
      obtain ⟨Fq, hF⟩ : ∃ N : ByteArray, N = ⟨q.leaf.toArray⟩ := ⟨_, rfl⟩
      obtain ⟨Vq, hVq⟩ : ∃ N : ByteArray, N = ⟨q.value.toArray⟩ := ⟨_, rfl⟩
      have hrow : Hid (wr.rangeAt g (o + k * 4) [.int .i64 q.head, .string Nq, .string Fq, .string Vq]) := Lib.hid (by rw [hN, hF, hVq]; exact hKw.out.rangeAt (hrows k q hq) id)
      have hqd : Hid (q = ⟨q.head, Nq.data.toList, Fq.data.toList, Vq.data.toList⟩) := Lib.hid (by rw [hN, hF, hVq])
      have hq' := Lib.hid hq
      have hVq' := Lib.hid hVq
      have m1 : (0 : Int) ≤ (k : Int) := by omega
      have m2 : (k : Int) < (ls.length : Int) := by omega
      have c0 : wr.cell? ⟨g, o + k * 4, none⟩ = some (.int .i64 q.head) := hrow.out 0 _ rfl
      have c1 : wr.cell? ⟨g, o + k * 4 + 1, none⟩ = some (.string Nq) := hrow.out 1 _ rfl
      have c2 : wr.cell? ⟨g, o + k * 4 + 2, none⟩ = some (.string Fq) := hrow.out 2 _ rfl
      have c3 : wr.cell? ⟨g, o + k * 4 + 3, none⟩ = some (.string Vq) := hrow.out 3 _ rfl
      clear hrows hN hF hVq hq
      have hnext : keyB h N.data.toList L.data.toList q = false → ∀ (j : Nat) (r : LineD), j < k + 1 → ls[j]? = some r → keyB h N.data.toList L.data.toList r = false := fun e j r hj hjr => by
        by_cases e2 : j < k
        · exact hno.out j r e2 hjr
        · obtain rfl : j = k := by omega
          rw [hq'.out] at hjr; injection hjr with hjr; subst hjr; exact e
      have hnext' := Lib.hid hnext
      clear hnext
      by_cases a1 : q.head = h
      · have e1 : (q.head == h) = true := by simp [a1]
        have a1' := Lib.hid a1; clear a1
        by_cases a2 : Nq.data.toList = N.data.toList
        · have e2 : (Nq.toList == N.toList) = true := by rw [Lib.toList_data, Lib.toList_data]; simpa using a2
          have a2' := Lib.hid a2; clear a2
          by_cases a3 : Fq.data.toList = L.data.toList
          · have e3 : (Fq.toList == L.toList) = true := by rw [Lib.toList_data, Lib.toList_data]; simpa using a3
            have hkey : Hid (keyB h N.data.toList L.data.toList q = true) := Lib.hid (by rw [hqd.out]; unfold keyB; simp [a1'.out, a2'.out, a3])
            have hVV : Hid (V = Vq) := Lib.hid (by rw [hV.out, hVq'.out]; unfold valueR; rw [find_first hq'.out hno.out hkey.out])
            clear a3 hnext'
            go_wp2_with fail
            go_ret
            exact ⟨by rw [hVV.out]; rfl, hK2.out.trans hKw.out⟩
          · have e3 : (Fq.toList == L.toList) = false := by rw [Lib.toList_data, Lib.toList_data]; simpa using a3
            have hkey := Lib.hid (hnext'.out (by rw [hqd.out]; unfold keyB; simp [a3]))
            clear a3 c3
            go_wp2_with fail
            exact ⟨⟨k + 1, by omega, by go_num, hkey, hKw⟩, by simp [intOf]; omega⟩
        · have e2 : (Nq.toList == N.toList) = false := by rw [Lib.toList_data, Lib.toList_data]; simpa using a2
          have hkey := Lib.hid (hnext'.out (by rw [hqd.out]; unfold keyB; simp [a2]))
          clear a2 c2 c3
          go_wp2_with fail
          exact ⟨⟨k + 1, by omega, by go_num, hkey, hKw⟩, by simp [intOf]; omega⟩
      · have e1 : (q.head == h) = false := by simp [a1]
        have hkey := Lib.hid (hnext'.out (by unfold keyB; simp [a1]))
        clear a1 c1 c2 c3
        go_wp2_with fail
        exact ⟨⟨k + 1, by omega, by go_num, hkey, hKw⟩, by simp [intOf]; omega⟩
    · obtain rfl : k = ls.length := by omega
      have hnone := Lib.hid (find_nowhere hno.out)
      have hK3 := Lib.hid (hK2.out.trans hKw.out)
      cases hf : findD h L.data.toList with
      | none =>
        have hf' := Lib.hid hf
        have hVe : Hid (V = ⟨#[]⟩) := Lib.hid (by rw [hV.out]; unfold valueR; rw [hnone.out, hf])
        clear hf
        go_wp2_with fail
        refine (rFind_no h L _ hf').mono ?_
        rintro e w5 ⟨rfl, k5⟩
        have k5' := Lib.hid (hK3.out.trans k5)
        clear k5
        have c6 := (show (w5.alloc (.cells #[.int .i64 0, .string ⟨#[]⟩, .int .i64 0, .int .i64 0, .int .i64 0, .slice none 0 0, .string ⟨#[]⟩, .int .i64 0] 151)).cell? ⟨w5.heap.size, 6, none⟩ = some (.string ⟨#[]⟩) by simp [go_sem])
        go_wp2_with ((with_reducible refine at_store 10 ?_); refine wpList_store_new rfl 151 (.tmp 10) (.tmp 55) rfl _ #[.int .i64 0, .string ⟨#[]⟩, .int .i64 0, .int .i64 0, .int .i64 0, .slice none 0 0, .string ⟨#[]⟩, .int .i64 0] rfl rfl rowInfo4 rfl (row_one _ _ _ _ _ _ _ _ _ _) ?_)
        go_ret
        exact ⟨by rw [hVe.out]; rfl, k5'.out.alloc _⟩
      | some r =>
        have hf' := Lib.hid hf
        obtain ⟨Nm, hNm⟩ : ∃ Nm : ByteArray, Nm = ⟨r.name.toArray⟩ := ⟨_, rfl⟩
        have hNm' := Lib.hid hNm
        have hVe : Hid (V = ⟨r.df.toArray⟩) := Lib.hid (by rw [hV.out]; unfold valueR; rw [hnone.out, hf])
        clear hf hNm
        go_wp2_with fail
        refine (rFind_yes h L r Nm V _ hf' hNm' hVe).mono ?_
        rintro e w5 ⟨p5, cc, rfl, s5, k5⟩
        have k5' := Lib.hid (hK3.out.trans k5)
        clear s5 k5
        have c6 := (show (w5.alloc (.cells #[.int .i64 r.head, .string Nm, .int .i64 r.kind, .int .i64 r.lo, .int .i64 r.hi, .slice p5 r.cs.length cc, .string V, .int .i64 r.cl] 151)).cell? ⟨w5.heap.size, 6, none⟩ = some (.string V) by simp [go_sem])
        go_wp2_with ((with_reducible refine at_store 10 ?_); refine wpList_store_new rfl 151 (.tmp 10) (.tmp 55) rfl _ #[.int .i64 r.head, .string Nm, .int .i64 r.kind, .int .i64 r.lo, .int .i64 r.hi, .slice p5 r.cs.length cc, .string V, .int .i64 r.cl] rfl rfl rowInfo4 rfl (row_one _ _ _ _ _ _ _ _ _ _) ?_)
        go_ret
        exact ⟨rfl, k5'.out.alloc _⟩
end Go.Proofs.YtialookpnoaogaaGreat
/- sameName and Value, walked. -/
set_option linter.unusedVariables false
set_option linter.unusedSimpArgs false
namespace Go.Proofs.YtialookpnoaogaaGreat
open Go.RowKit

set_option maxRecDepth 100000 in
theorem sameName_any (h1 h2 : Int) (n1 l1 v1 n2 l2 v2 : ByteArray) (r : Bool) (w : World) (hr : Hid ((decide (h1 = h2) && decide (n1.data.toList = n2.data.toList)) = r)) :
    Calls Tryz.prog 47 #[.agg #[.int .i64 h1, .string n1, .string l1, .string v1], .agg #[.int .i64 h2, .string n2, .string l2, .string v2]] w (NewRes (.bool r) w) := by
  have hq := hr.out
  by_cases hh : h1 = h2
  · have e1 : (h1 == h2) = true := by simpa using hh
    by_cases hn : n1.data.toList = n2.data.toList
    · have e2 : (n1.toList == n2.toList) = true := by rw [Lib.toList_data, Lib.toList_data, hn]; simp
      obtain rfl : true = r := by rw [← hq]; simp [hh, hn]
      clear hq hr hh hn
      go_enter Tryz.func47, Tryz.ntmps47
      go_wp2
      go_ret
      exact ⟨rfl, ((Keeps.refl _ _).alloc _).alloc _⟩
    · have e2 : (n1.toList == n2.toList) = false := by rw [Lib.toList_data, Lib.toList_data]; simpa using hn
      obtain rfl : false = r := by rw [← hq]; simp [hn]
      clear hq hr hh hn
      go_enter Tryz.func47, Tryz.ntmps47
      go_wp2
      go_ret
      exact ⟨rfl, ((Keeps.refl _ _).alloc _).alloc _⟩
  · have e1 : (h1 == h2) = false := by simpa using hh
    obtain rfl : false = r := by rw [← hq]; simp [hh]
    clear hq hr hh
    go_enter Tryz.func47, Tryz.ntmps47
    go_wp2
    go_ret
    exact ⟨rfl, ((Keeps.refl _ _).alloc _).alloc _⟩

set_option maxRecDepth 100000 in
set_option maxHeartbeats 4000000 in
/-- a leaf that is set -/
theorem value_there (v : Value) (ls : List LineD) (q : LineD) (h : Int) (N F V : ByteArray) (w : World) (hv : Hid (RowsAt 4 lineVals w v ls)) (hl : ls.length ≤ 64) (hlt : Hid (LinesLt ls 9223372036854775807)) (hr : Hid (rightC ls = true))
    (hth : Hid (thereB ⟨h, N.data.toList, F.data.toList, []⟩ ls = true)) (hq : Hid (ls[posL ⟨h, N.data.toList, F.data.toList, []⟩ ls]? = some q)) (hV : Hid (V = ⟨q.value.toArray⟩)) :
    Calls Tryz.prog 37 #[v, .int .i64 h, .string N, .string F] w (NewRes (.string V) w) := by
  obtain ⟨p, c, rfl⟩ := hv.out.slice
  have hLn := Lib.hid hv.out.lines
  obtain ⟨at', hat⟩ : ∃ k, posL ⟨h, N.data.toList, F.data.toList, []⟩ ls = k := ⟨_, rfl⟩
  have hat' := Lib.hid hat
  have hq2 := hq.out
  rw [hat] at hq2
  have hal : at' < ls.length := (List.getElem?_eq_some_iff.1 hq2).1
  obtain ⟨g, o, rfl, hrows⟩ := hv.out.open (by omega)
  have hcell : w.cell? ⟨g, o + at' * 4 + 3, none⟩ = some (.string V) := by
    have := hrows at' q hq2 3 (strv q.value) rfl
    rw [hV.out]; exact this
  have hcell' := Lib.hid hcell
  have m1 : (0 : Int) ≤ (at' : Int) := by omega
  have m2 : (at' : Int) < (ls.length : Int) := by omega
  clear hq2 hrows hcell hat hq hv
  go_enter Tryz.func37, Tryz.ntmps37
  go_wp2_with fail
  refine (right_c _ ls true _ hLn (by omega) hlt hr).mono ?_
  rintro e w2 ⟨rfl, k2⟩
  have k2' := Lib.hid k2; clear k2
  go_wp2_with fail
  refine (find_c _ ls h N F ⟨#[]⟩ at' true _ (Lib.hid (hLn.out.keep k2'.out (fun _ _ _ f => f))) (by omega) hat' hth).mono ?_
  rintro e w3 ⟨rfl, k3⟩
  have k3' := Lib.hid (k2'.out.trans k3)
  have hc3 : w3.cell? ⟨g, o + at' * 4 + 3, none⟩ = some (.string V) := by rw [k3'.out.cell (p := ⟨g, o + at' * 4 + 3, none⟩) (World.block_lt_of_cell? w _ hcell'.out) id]; exact hcell'.out
  clear k3 k2' hLn
  go_wp2
  go_ret
  exact ⟨rfl, k3'.out⟩
set_option maxRecDepth 100000 in
set_option maxHeartbeats 4000000 in
/-- a leaf that isn't set, and has a default -/
theorem value_default (v : Value) (ls : List LineD) (r : RowD) (h : Int) (N F V : ByteArray) (w : World) (hv : Hid (RowsAt 4 lineVals w v ls)) (hl : ls.length ≤ 64) (hlt : Hid (LinesLt ls 9223372036854775807)) (hr : Hid (rightC ls = true))
    (hth : Hid (thereB ⟨h, N.data.toList, F.data.toList, []⟩ ls = false)) (hf : Hid (findD h F.data.toList = some r)) (hV : Hid (V = ⟨r.df.toArray⟩)) :
    Calls Tryz.prog 37 #[v, .int .i64 h, .string N, .string F] w (NewRes (.string V) w) := by
  obtain ⟨p, c, rfl⟩ := hv.out.slice
  have hLn := Lib.hid hv.out.lines
  obtain ⟨at', hat⟩ : ∃ k, posL ⟨h, N.data.toList, F.data.toList, []⟩ ls = k := ⟨_, rfl⟩
  have hat' := Lib.hid hat
  obtain ⟨Nm, hNm⟩ : ∃ Nm : ByteArray, Nm = ⟨r.name.toArray⟩ := ⟨_, rfl⟩
  have hNm' := Lib.hid hNm
  clear hat hNm hv
  go_enter Tryz.func37, Tryz.ntmps37
  go_wp2_with fail
  refine (right_c _ ls true _ hLn (by omega) hlt hr).mono ?_
  rintro e w2 ⟨rfl, k2⟩
  have k2' := Lib.hid k2; clear k2
  go_wp2_with fail
  refine (find_c _ ls h N F ⟨#[]⟩ at' false _ (Lib.hid (hLn.out.keep k2'.out (fun _ _ _ f => f))) (by omega) hat' hth).mono ?_
  rintro e w3 ⟨rfl, k3⟩
  have k3' := Lib.hid (k2'.out.trans k3)
  clear k3 k2' hLn
  go_wp2_with fail
  refine (find_yes h F r Nm V _ hf hNm' hV).mono ?_
  rintro e w5 ⟨p5, cc, rfl, s5, k5⟩
  have k5' := Lib.hid (k3'.out.trans k5)
  clear s5 k5 k3'
  have c6 := (show (w5.alloc (.cells #[.int .i64 r.head, .string Nm, .int .i64 r.kind, .int .i64 r.lo, .int .i64 r.hi, .slice p5 r.cs.length cc, .string V, .int .i64 r.cl] 147)).cell? ⟨w5.heap.size, 6, none⟩ = some (.string V) by simp [go_sem])
  go_wp2_with ((with_reducible refine at_store 11 ?_); refine wpList_store_new rfl 147 (.tmp 11) (.tmp 35) rfl _ #[.int .i64 r.head, .string Nm, .int .i64 r.kind, .int .i64 r.lo, .int .i64 r.hi, .slice p5 r.cs.length cc, .string V, .int .i64 r.cl] rfl rfl rowInfo rfl (row_one _ _ _ _ _ _ _ _ _ _) ?_)
  go_ret
  exact ⟨rfl, k5'.out.alloc _⟩
end Go.Proofs.YtialookpnoaogaaGreat
/- conf.Names, walked (gen_cfk.py). -/
set_option linter.unusedVariables false
set_option linter.unusedSimpArgs false
namespace Go.Proofs.YtialookpnoaogaaGreat
open Go.RowKit

def newName (h : Int) (p : Option LineD) (q : LineD) : Bool := decide (q.head = h) && (match p with | none => true | some p => !(decide (p.head = q.head) && decide (p.name = q.name)))
theorem namesFrom_snoc (h : Int) (q : LineD) : ∀ (ls : List LineD) (p : Option LineD), namesFrom h p (ls ++ [q]) = namesFrom h p ls ++ (if newName h (match ls.getLast? with | some r => some r | none => p) q = true then [q.name] else []) := by
  intro ls
  induction ls with
  | nil =>
    intro p
    simp only [List.nil_append, namesFrom, List.append_nil, List.getLast?_nil]
    congr 1
    unfold newName
    cases p <;> simp
  | cons r ls ih =>
    intro p
    simp only [List.cons_append, namesFrom]
    rw [ih, List.append_assoc]
    congr 3
    cases ls with
    | nil => simp
    | cons s ls =>
      rw [List.getLast?_cons_cons]
      cases hgl : (s :: ls).getLast? with
      | none => simp at hgl
      | some r => rfl
def prevOf (ls : List LineD) (k : Nat) : Option LineD := match k with | 0 => none | j + 1 => ls[j]?
theorem names_step {h : Int} {ls : List LineD} {k : Nat} {q : LineD} (hq : ls[k]? = some q) : namesFrom h none (ls.take (k + 1)) = namesFrom h none (ls.take k) ++ (if newName h (prevOf ls k) q = true then [q.name] else []) := by
  obtain ⟨hk, e⟩ := List.getElem?_eq_some_iff.1 hq
  rw [List.take_succ_eq_append_getElem hk, e, namesFrom_snoc]
  congr 3
  cases k with
  | zero => simp [prevOf]
  | succ j =>
    rw [List.getLast?_take]
    simp [prevOf, List.getElem?_eq_getElem (show j < ls.length by omega)]
def nv1 (l : List UInt8) : List Value := [strv l]
def NamesPost (xs : List (List UInt8)) (w : World) (e : Ending) (w' : World) : Prop :=
  ∃ p c, e = .returned (.slice p xs.length c) ∧ OwnR 9 1 nv1 w w' (.slice p xs.length c) xs ∧ Keeps (fun _ => False) w w'
theorem strAll : ∃ i, Tryz.prog.info? 9 = some i ∧ i.zero = some (.string ⟨#[]⟩) ∧ i.size = 1 ∧ i.bytes = 16 := by
  have h : (Tryz.prog.info? 9).map (fun i => (i.zero, i.size, i.bytes)) = some (some (.string ⟨#[]⟩), 1, 16) := by kernel_rfl
  obtain ⟨i, hi, e⟩ := Option.map_eq_some_iff.1 h
  injection e with e1 e; injection e with e2 e3
  exact ⟨i, hi, e1, e2, e3⟩
theorem ite_len (c : Prop) [Decidable c] (x : List UInt8) : (if c then [x] else ([] : List (List UInt8))).length ≤ 1 := by split <;> simp
theorem names_len_le (h : Int) : ∀ (ls : List LineD) (p : Option LineD), (namesFrom h p ls).length ≤ ls.length := by
  intro ls
  induction ls with
  | nil => intro p; simp [namesFrom]
  | cons r ls ih =>
    intro p
    simp only [namesFrom, List.length_append, List.length_cons]
    exact Nat.le_trans (Nat.add_le_add (ite_len _ _) (ih _)) (by omega)

set_option maxRecDepth 100000 in
set_option maxHeartbeats 4000000 in
theorem names_any (v : Value) (ls : List LineD) (h : Int) (w : World) (hv : Hid (RowsAt 4 lineVals w v ls)) (hl : ls.length ≤ 64) (hlt : Hid (LinesLt ls 9223372036854775807)) (hr : Hid (rightC ls = true)) (h0 : h ≠ 0) :
    Calls Tryz.prog 19 #[v, .int .i64 h] w (NamesPost (namesFrom h none ls) w) := by
  obtain ⟨p, c, rfl⟩ := hv.out.slice
  obtain ⟨i0, hi0, hi1, hi2, hi3⟩ := strAll
  have hLn := Lib.hid hv.out.lines
  have e0 : (h == 0) = false := by simpa using h0
  clear h0
  go_enter Tryz.func19, Tryz.ntmps19
  go_wp2_with fail
  refine (right_c _ ls true _ hLn (by omega) hlt hr).mono ?_
  rintro e w2 ⟨rfl, k2⟩
  have k2' := Lib.hid k2
  have hv2 := Lib.hid (hv.out.keep k2)
  clear k2 hLn hr
  go_wp2_with fail
  go_loopw [17, 5] (fun iv nv wr => ∃ (k : Nat) (q : Option Addr) (d : Nat), k ≤ ls.length ∧ iv = .int .i64 k ∧ nv = .slice q (namesFrom h none (ls.take k)).length d ∧ Hid (OwnR 9 1 nv1 w2 wr nv (namesFrom h none (ls.take k))) ∧ Hid (Keeps (fun _ => False) w2 wr)) (fun iv _ _ => ls.length - (intOf iv).toNat)
  case atStart => exact ⟨0, none, 0, by omega, rfl, rfl, Lib.hid (OwnR.nil _ _ (Nat.le_refl _)), Lib.hid (Keeps.refl _ _)⟩
  case round =>
    obtain ⟨k, qa, d, hk, rfl, rfl, hO, hkr⟩ := hrel
    by_cases hlk : k < ls.length
    · obtain ⟨g, o, rfl, hrows⟩ := hv2.out.open (by omega)
      obtain ⟨q, hq⟩ : ∃ q, ls[k]? = some q := ⟨_, List.getElem?_eq_getElem hlk⟩
      obtain ⟨N, hN⟩ : ∃ N : ByteArray, N = ⟨q.name.toArray⟩ := ⟨_, rfl⟩
      obtain ⟨F, hF⟩ : ∃ N : ByteArray, N = ⟨q.leaf.toArray⟩ := ⟨_, rfl⟩
      obtain ⟨V, hV⟩ : ∃ N : ByteArray, N = ⟨q.value.toArray⟩ := ⟨_, rfl⟩
      have hrow : Hid (wr.rangeAt g (o + k * 4) [.int .i64 q.head, .string N, .string F, .string V]) := Lib.hid (by rw [hN, hF, hV]; exact hkr.out.rangeAt (hrows k q hq) id)
      have hNl : Hid (N.data.toList = q.name) := Lib.hid (by rw [hN])
      have hstep := Lib.hid (names_step (h := h) hq)
      have hnl : Hid ((namesFrom h none (ls.take k)).length ≤ 64) := Lib.hid (by have := names_len_le h (ls.take k) none; rw [List.length_take] at this; omega)
      have hBx : Hid (BlkAt (wr.alloc (.cells #[.int .i64 q.head, .string N, .string F, .string V] 79)) wr.heap.size 79 [.int .i64 q.head, .string N, .string F, .string V]) := Lib.hid (BlkAt.new _ _ _)
      have hkx : Hid (Keeps (fun _ => False) w2 (wr.alloc (.cells #[.int .i64 q.head, .string N, .string F, .string V] 79))) := Lib.hid (hkr.out.alloc _)
      have hOx : Hid (OwnR 9 1 nv1 w2 (wr.alloc (.cells #[.int .i64 q.head, .string N, .string F, .string V] 79)) (.slice qa (namesFrom h none (ls.take k)).length d) (namesFrom h none (ls.take k))) := Lib.hid (hO.out.keep ((Keeps.refl (fun _ => False) _).alloc _) (fun _ _ f => f))
      have hrows' := Lib.hid hrows; have hN' := Lib.hid hN; have hq' := Lib.hid hq
      clear hrows hN hF hV hq hO
      go_upto_region 7 with (first | ((with_reducible refine at_slot 21 ?_); refine wpList_load_mid rfl 79 (.tmp 20) rfl g (o + k * 4) rfl [.int .i64 q.head, .string N, .string F, .string V] _ hrow.out Tryz.underlying79 rfl lineInfo ?_) | ((with_reducible refine at_store 7 ?_); refine wpList_store_new rfl 79 (.tmp 7) (.tmp 21) rfl _ #[.int .i64 q.head, .string N, .string F, .string V] rfl rfl lineInfo rfl (line_one _ _ _ _) ?_))
      generalize hgx : wr.heap.size = gx at hBx ⊢
      have hgx' := Lib.hid hgx
      generalize hWx : wr.alloc (.cells #[.int .i64 q.head, .string N, .string F, .string V] 79) = Wx at hBx hkx hOx ⊢
      have hWx' := Lib.hid hWx
      clear hgx hWx
      obtain ⟨zh, hzh⟩ : ∃ z, decide (q.head = h) = z := ⟨_, rfl⟩
      have hzh' := Lib.hid hzh
      cases zh with
      | false =>
        have e1 : (q.head == h) = false := by simpa using hzh
        clear hzh
        refine wp_region_noPanic ?_
        refine wp_region_held_drew (S := (fun W => Keeps (fun _ => False) Wx W)) (by kernel_rfl) (((Keeps.refl _ _).drew)) (fun hHeld => ?_)
        refine tk 0 rfl ?_
        refine tkL 1 rfl (yieldsIf_load_cell (by rfl) 3 (.tmp 22) rfl gx 0 rfl _ (fun _ s => (hBx.out.keep s id).cell 0 _ rfl) (fun w s => load_int w _ _ _ s)) ?_
        refine tk 2 rfl ?_
        refine tk 3 rfl ?_
        refine tk 4 rfl ?_
        refine tkS 5 rfl ?_
        refine tkS 6 rfl ?_
        refine tkS 7 rfl ?_
        refine tkS 8 rfl ?_
        refine tkS 9 rfl ?_
        refine tkS 10 rfl ?_
        refine tkS 11 rfl ?_
        refine tkS 12 rfl ?_
        refine tkS 13 rfl ?_
        refine tkS 14 rfl ?_
        refine tkS 15 rfl ?_
        refine tkS 16 rfl ?_
        refine tk 17 rfl ?_
        refine wpAnyH_done (by kernel_rfl) (NoPanic.normal ?_) _
        have hkk := Lib.hid (hkx.out.trans hHeld)
        have hOk := Lib.hid (hOx.out.keep hHeld (fun _ _ f => f))
        have hsame : Hid (namesFrom h none (ls.take (k + 1)) = namesFrom h none (ls.take (k))) := Lib.hid (by
          rw [hstep.out, if_neg, List.append_nil]
          unfold newName; rw [hzh'.out]; exact Bool.false_ne_true)
        clear hHeld
        go_wp2_with fail
        refine ⟨⟨k + 1, qa, d, by omega, by go_num, by rw [hsame.out], by rw [hsame.out]; exact hOk, hkk⟩, by simp [intOf]; omega⟩
      | true =>
        have e1 : (q.head == h) = true := by simpa using hzh
        clear hzh
        cases k with
        | zero =>
          refine wp_region_noPanic ?_
          refine wp_region_held_drew (S := (fun W => Keeps (fun _ => False) Wx W)) (by kernel_rfl) (((Keeps.refl _ _).drew)) (fun hHeld => ?_)
          refine tk 0 rfl ?_
          refine tkL 1 rfl (yieldsIf_load_cell (by rfl) 3 (.tmp 22) rfl gx 0 rfl _ (fun _ s => (hBx.out.keep s id).cell 0 _ rfl) (fun w s => load_int w _ _ _ s)) ?_
          refine tk 2 rfl ?_
          refine tk 3 rfl ?_
          refine tk 4 rfl ?_
          refine tk 5 rfl ?_
          refine tk 6 rfl ?_
          refine tk 7 rfl ?_
          refine tkS 8 rfl ?_
          refine tkS 9 rfl ?_
          refine tkS 10 rfl ?_
          refine tkS 11 rfl ?_
          refine tkS 12 rfl ?_
          refine tkS 13 rfl ?_
          refine tkS 14 rfl ?_
          refine tkS 15 rfl ?_
          refine tk 16 rfl ?_
          refine tk 17 rfl ?_
          refine wpAnyH_done (by kernel_rfl) (NoPanic.normal ?_) _
          have hkk := Lib.hid (hkx.out.trans hHeld)
          have hOk := Lib.hid (hOx.out.keep hHeld (fun _ _ f => f))
          have hBk := Lib.hid (hBx.out.keep hHeld id)
          have hsame : Hid (namesFrom h none (ls.take (0 + 1)) = namesFrom h none (ls.take (0)) ++ [N.data.toList]) := Lib.hid (by
            rw [hstep.out, if_pos, hNl.out]
            show newName h none q = true; unfold newName; rw [hzh'.out]; rfl)
          clear hHeld hOx hkx hBx
          have cN := hBk.out.cell 1 _ rfl
          go_wp2_with ((with_reducible refine at_slot 44 ?_); go_must (refine wpList_append_r rfl (.tmp 40) (.tmp 43) 57 9 rfl i0 _ 16 Tryz.underlying57 hi0 hi1 hi2 hi3 rfl (by decide) (by decide) (fun _ => rfl) w2 _ (namesFrom h none (ls.take (0))).length (namesFrom h none (ls.take (0))) rfl rfl (hOk.out.keep ((Keeps.refl (fun _ => False) _).alloc _) (fun _ _ f => f)) _ rfl N.data.toList (cells_new rfl [.string N] _) (fun u hu => (by simp [nv1] at hu; subst hu; rfl)) (by have := hnl.out; omega) ?_); intro q8 d8 w8 hO8 hg8)
          have hk8 := Lib.hid (OwnR.keeps (hOk.out.keep ((Keeps.refl (fun _ => False) _).alloc _) (fun _ _ f => f)) (hkk.out.alloc _) hg8.out)
          refine ⟨⟨0 + 1, q8, d8, by omega, by go_num, by rw [hsame.out]; simp, by rw [hsame.out]; exact hO8, hk8⟩, by simp [intOf]; omega⟩
        | succ j =>
          obtain ⟨b, hbq⟩ : ∃ b, ls[j]? = some b := ⟨_, List.getElem?_eq_getElem (by omega)⟩
          obtain ⟨Nb, hNb⟩ : ∃ N : ByteArray, N = ⟨b.name.toArray⟩ := ⟨_, rfl⟩
          obtain ⟨Fb, hFb⟩ : ∃ N : ByteArray, N = ⟨b.leaf.toArray⟩ := ⟨_, rfl⟩
          obtain ⟨Vb, hVb⟩ : ∃ N : ByteArray, N = ⟨b.value.toArray⟩ := ⟨_, rfl⟩
          have hprev : Hid (Wx.rangeAt g (o + j * 4) [.int .i64 b.head, .string Nb, .string Fb, .string Vb]) := Lib.hid (by rw [hNb, hFb, hVb]; exact hkx.out.rangeAt (hrows'.out j b hbq) id)
          obtain ⟨zs, hzs⟩ : ∃ z, (decide (b.head = q.head) && decide (Nb.data.toList = N.data.toList)) = z := ⟨_, rfl⟩
          have hzs' := Lib.hid hzs
          have hNbl : Hid (Nb.data.toList = b.name) := Lib.hid (by rw [hNb])
          have hbq' := Lib.hid hbq
          clear hNb hFb hVb hzs hbq
          have l1 : IntKind.i64.wrap (j : Int) = (j : Int) := IntWalk.i64_in _ (by omega)
          have l3 : (0 : Int) ≤ (j : Int) := by omega
          have l4 : (j : Int) < ls.length := by omega
          have l5 : (0 : Int) < (j : Int) + 1 := by omega
          have l6 : ((j : Int) + 1 == 0) = false := by simp; omega
          cases zs with
          | true =>
            refine wp_region_noPanic ?_
            refine wp_region_held_drew (S := (fun W => Keeps (fun _ => False) Wx W)) (by kernel_rfl) (((Keeps.refl _ _).drew)) (fun hHeld => ?_)
            refine tk 0 rfl ?_
            refine tkL 1 rfl (yieldsIf_load_cell (by rfl) 3 (.tmp 22) rfl gx 0 rfl _ (fun _ s => (hBx.out.keep s id).cell 0 _ rfl) (fun w s => load_int w _ _ _ s)) ?_
            refine tk 2 rfl ?_
            refine tk 3 rfl ?_
            refine tk 4 rfl ?_
            refine tk 5 rfl ?_
            refine tk 6 rfl ?_
            refine tk 7 rfl ?_
            refine tk 8 rfl ?_
            refine tk 9 rfl ?_
            refine tk 10 rfl ?_
            refine tk 11 rfl ?_
            refine tkL 12 rfl (yieldsIf_load_mid (by rfl) 79 (.tmp 33) rfl g (o + j * 4) rfl [.int .i64 b.head, .string Nb, .string Fb, .string Vb] _ (fun _ s => s.rangeAt hprev.out id) Tryz.underlying79 rfl lineInfo) ?_
            refine tkL 13 rfl (yieldsIf_load_mid (by rfl) 79 (.tmp 7) rfl gx 0 rfl [.int .i64 q.head, .string N, .string F, .string V] _ (fun _ s => (hBx.out.keep s id).range) Tryz.underlying79 rfl lineInfo) ?_
            refine stepL 14 rfl (by kernel_rfl) (fun K hK => ?_)
            go_simp
            (refine (sameName_any b.head q.head Nb Fb Vb N F V _ _ hzs').mono ?_; rintro e w5 ⟨rfl, k5⟩; have k5' := Lib.hid k5; clear k5)
            go_wp2_with fail
            refine hK.out _ _ ((hHeld.trans k5'.out)) (fun hHeld => ?_)
            clear hK K
            try simp only [Act.put, sA, sZ, sS]
            refine tk 15 rfl ?_
            refine tk 16 rfl ?_
            refine tk 17 rfl ?_
            refine wpAnyH_done (by kernel_rfl) (NoPanic.normal ?_) _
            have hkk := Lib.hid (hkx.out.trans hHeld)
            have hOk := Lib.hid (hOx.out.keep hHeld (fun _ _ f => f))
            have hsame : Hid (namesFrom h none (ls.take (j + 1 + 1)) = namesFrom h none (ls.take (j + 1))) := Lib.hid (by
              rw [hstep.out, if_neg, List.append_nil]
              show ¬ (newName h (ls[j]?) q = true); rw [hbq'.out]; have hz := hzs'.out; rw [hNl.out, hNbl.out] at hz; unfold newName; rw [hzh'.out]; simp only [hz]; decide)
            clear hHeld
            go_wp2_with fail
            refine ⟨⟨j + 1 + 1, qa, d, by omega, by go_num, by rw [hsame.out], by rw [hsame.out]; exact hOk, hkk⟩, by simp [intOf]; omega⟩
          | false =>
            refine wp_region_noPanic ?_
            refine wp_region_held_drew (S := (fun W => Keeps (fun _ => False) Wx W)) (by kernel_rfl) (((Keeps.refl _ _).drew)) (fun hHeld => ?_)
            refine tk 0 rfl ?_
            refine tkL 1 rfl (yieldsIf_load_cell (by rfl) 3 (.tmp 22) rfl gx 0 rfl _ (fun _ s => (hBx.out.keep s id).cell 0 _ rfl) (fun w s => load_int w _ _ _ s)) ?_
            refine tk 2 rfl ?_
            refine tk 3 rfl ?_
            refine tk 4 rfl ?_
            refine tk 5 rfl ?_
            refine tk 6 rfl ?_
            refine tk 7 rfl ?_
            refine tk 8 rfl ?_
            refine tk 9 rfl ?_
            refine tk 10 rfl ?_
            refine tk 11 rfl ?_
            refine tkL 12 rfl (yieldsIf_load_mid (by rfl) 79 (.tmp 33) rfl g (o + j * 4) rfl [.int .i64 b.head, .string Nb, .string Fb, .string Vb] _ (fun _ s => s.rangeAt hprev.out id) Tryz.underlying79 rfl lineInfo) ?_
            refine tkL 13 rfl (yieldsIf_load_mid (by rfl) 79 (.tmp 7) rfl gx 0 rfl [.int .i64 q.head, .string N, .string F, .string V] _ (fun _ s => (hBx.out.keep s id).range) Tryz.underlying79 rfl lineInfo) ?_
            refine stepL 14 rfl (by kernel_rfl) (fun K hK => ?_)
            go_simp
            (refine (sameName_any b.head q.head Nb Fb Vb N F V _ _ hzs').mono ?_; rintro e w5 ⟨rfl, k5⟩; have k5' := Lib.hid k5; clear k5)
            go_wp2_with fail
            refine hK.out _ _ ((hHeld.trans k5'.out)) (fun hHeld => ?_)
            clear hK K
            try simp only [Act.put, sA, sZ, sS]
            refine tk 15 rfl ?_
            refine tk 16 rfl ?_
            refine tk 17 rfl ?_
            refine wpAnyH_done (by kernel_rfl) (NoPanic.normal ?_) _
            have hkk := Lib.hid (hkx.out.trans hHeld)
            have hOk := Lib.hid (hOx.out.keep hHeld (fun _ _ f => f))
            have hBk := Lib.hid (hBx.out.keep hHeld id)
            have hsame : Hid (namesFrom h none (ls.take (j + 1 + 1)) = namesFrom h none (ls.take (j + 1)) ++ [N.data.toList]) := Lib.hid (by
              rw [hstep.out, if_pos, hNl.out]
              show newName h (ls[j]?) q = true; rw [hbq'.out]; have hz := hzs'.out; rw [hNl.out, hNbl.out] at hz; unfold newName; rw [hzh'.out]; simp only [hz]; decide)
            clear hHeld hOx hkx hBx
            have cN := hBk.out.cell 1 _ rfl
            go_wp2_with ((with_reducible refine at_slot 44 ?_); go_must (refine wpList_append_r rfl (.tmp 40) (.tmp 43) 57 9 rfl i0 _ 16 Tryz.underlying57 hi0 hi1 hi2 hi3 rfl (by decide) (by decide) (fun _ => rfl) w2 _ (namesFrom h none (ls.take (j + 1))).length (namesFrom h none (ls.take (j + 1))) rfl rfl (hOk.out.keep ((Keeps.refl (fun _ => False) _).alloc _) (fun _ _ f => f)) _ rfl N.data.toList (cells_new rfl [.string N] _) (fun u hu => (by simp [nv1] at hu; subst hu; rfl)) (by have := hnl.out; omega) ?_); intro q8 d8 w8 hO8 hg8)
            have hk8 := Lib.hid (OwnR.keeps (hOk.out.keep ((Keeps.refl (fun _ => False) _).alloc _) (fun _ _ f => f)) (hkk.out.alloc _) hg8.out)
            refine ⟨⟨j + 1 + 1, q8, d8, by omega, by go_num, by rw [hsame.out]; simp, by rw [hsame.out]; exact hO8, hk8⟩, by simp [intOf]; omega⟩
    · obtain rfl : k = ls.length := by omega
      rw [List.take_length] at hO
      have hO' := Lib.hid (hO.out.older (w0 := w) k2'.out.size)
      have hfin := Lib.hid (k2'.out.trans hkr.out)
      rw [List.take_length]
      clear hO hkr
      go_wp2_with fail
      go_ret
      exact ⟨qa, d, rfl, hO'.out, hfin.out⟩
end Go.Proofs.YtialookpnoaogaaGreat
/- The code's Value is the document's. -/
set_option linter.unusedVariables false
set_option linter.unusedSimpArgs false
namespace Go.Proofs.YtialookpnoaogaaGreat
open Go.RowKit

theorem posL_key {x q : LineD} (h : q.head = x.head ∧ q.name = x.name ∧ q.leaf = x.leaf) : ∀ ls : List LineD, posL q ls = posL x ls := by
  intro ls
  induction ls with
  | nil => rfl
  | cons a ls ih =>
    have e : lessB a q = lessB a x := by unfold lessB; rw [h.1, h.2.1, h.2.2]
    rw [posL, posL, e, ih]
theorem thereB_key {x q : LineD} (h : q.head = x.head ∧ q.name = x.name ∧ q.leaf = x.leaf) (ls : List LineD) : thereB q ls = thereB x ls := by
  unfold thereB
  rw [posL_key h]
  cases ls[posL x ls]? with
  | none => rfl
  | some a =>
    have e : lessB q a = lessB x a := by unfold lessB; rw [h.1, h.2.1, h.2.2]
    simp [e]
theorem keyB_iff {h : Int} {n l : List UInt8} {q : LineD} : keyB h n l q = true ↔ q.head = h ∧ q.name = n ∧ q.leaf = l := by
  unfold keyB
  simp [Bool.and_eq_true, and_assoc]
theorem find_there {h : Int} {n l : List UInt8} {ls : List LineD} (hr : rises ls) (ht : thereB ⟨h, n, l, []⟩ ls = true) : ∃ q, ls[posL ⟨h, n, l, []⟩ ls]? = some q ∧ ls.find? (keyB h n l) = some q := by
  have ht2 := ht
  unfold thereB at ht2
  cases hq : ls[posL ⟨h, n, l, []⟩ ls]? with
  | none => rw [hq] at ht2; cases ht2
  | some q =>
    rw [hq] at ht2
    have h1 : lessB ⟨h, n, l, []⟩ q = false := by simpa using ht2
    have h2 := posL_at hq
    have hk := key_eq h2 h1
    refine ⟨q, rfl, find_first hq (fun j r hj hjr => ?_) (keyB_iff.2 hk)⟩
    have h3 := posL_lt hj hjr
    rw [Bool.eq_false_iff]
    intro e
    exact less_key h3 (keyB_iff.1 e)
theorem find_not {h : Int} {n l : List UInt8} {ls : List LineD} (hr : rises ls) (ht : thereB ⟨h, n, l, []⟩ ls = false) : ls.find? (keyB h n l) = none := by
  rw [List.find?_eq_none]
  intro q hq e
  have hk := keyB_iff.1 e
  have h1 := there_at hr hq
  rw [thereB_key (x := ⟨h, n, l, []⟩) hk] at h1
  rw [ht] at h1; cases h1
set_option maxRecDepth 100000 in
set_option maxHeartbeats 4000000 in
/-- a leaf that isn't set, and is none -/
theorem value_none (v : Value) (ls : List LineD) (h : Int) (N F : ByteArray) (w : World) (hv : Hid (RowsAt 4 lineVals w v ls)) (hl : ls.length ≤ 64) (hlt : Hid (LinesLt ls 9223372036854775807)) (hr : Hid (rightC ls = true))
    (hth : Hid (thereB ⟨h, N.data.toList, F.data.toList, []⟩ ls = false)) (hf : Hid (findD h F.data.toList = none)) :
    Calls Tryz.prog 37 #[v, .int .i64 h, .string N, .string F] w (NewRes (.string ⟨#[]⟩) w) := by
  obtain ⟨p, c, rfl⟩ := hv.out.slice
  have hLn := Lib.hid hv.out.lines
  obtain ⟨at', hat⟩ : ∃ k, posL ⟨h, N.data.toList, F.data.toList, []⟩ ls = k := ⟨_, rfl⟩
  have hat' := Lib.hid hat
  clear hat hv
  go_enter Tryz.func37, Tryz.ntmps37
  go_wp2_with fail
  refine (right_c _ ls true _ hLn (by omega) hlt hr).mono ?_
  rintro e w2 ⟨rfl, k2⟩
  have k2' := Lib.hid k2; clear k2
  go_wp2_with fail
  refine (find_c _ ls h N F ⟨#[]⟩ at' false _ (Lib.hid (hLn.out.keep k2'.out (fun _ _ _ f => f))) (by omega) hat' hth).mono ?_
  rintro e w3 ⟨rfl, k3⟩
  have k3' := Lib.hid (k2'.out.trans k3)
  clear k3 k2' hLn
  go_wp2_with fail
  refine (find_no h F _ hf).mono ?_
  rintro e w5 ⟨rfl, k5⟩
  have k5' := Lib.hid (k3'.out.trans k5)
  clear k5 k3'
  have c6 := (show (w5.alloc (.cells #[.int .i64 0, .string ⟨#[]⟩, .int .i64 0, .int .i64 0, .int .i64 0, .slice none 0 0, .string ⟨#[]⟩, .int .i64 0] 147)).cell? ⟨w5.heap.size, 6, none⟩ = some (.string ⟨#[]⟩) by simp [go_sem])
  go_wp2_with ((with_reducible refine at_store 11 ?_); refine wpList_store_new rfl 147 (.tmp 11) (.tmp 35) rfl _ #[.int .i64 0, .string ⟨#[]⟩, .int .i64 0, .int .i64 0, .int .i64 0, .slice none 0 0, .string ⟨#[]⟩, .int .i64 0] rfl rfl rowInfo rfl (row_one _ _ _ _ _ _ _ _ _ _) ?_)
  go_ret
  exact ⟨rfl, k5'.out.alloc _⟩
/-- Value of a right configuration, whatever is asked -/
theorem value_any (v : Value) (ls : List LineD) (h : Int) (N F V : ByteArray) (w : World) (hv : Hid (RowsAt 4 lineVals w v ls)) (hr : Hid (rightC ls = true)) (hV : Hid (V = ⟨(valueR ls h N.data.toList F.data.toList).toArray⟩)) :
    Calls Tryz.prog 37 #[v, .int .i64 h, .string N, .string F] w (NewRes (.string V) w) := by
  have hl := right_len hr.out
  have hlt := Lib.hid (right_lt hr.out 9223372036854775807 (by omega))
  have hrs := right_rises hr.out
  cases ht : thereB ⟨h, N.data.toList, F.data.toList, []⟩ ls with
  | true =>
    obtain ⟨q, h1, h2⟩ := find_there hrs ht
    exact value_there v ls q h N F V w hv hl hlt hr (Lib.hid ht) (Lib.hid h1) (Lib.hid (by rw [hV.out]; unfold valueR; rw [h2]))
  | false =>
    have h2 := find_not hrs ht
    cases hf : findD h F.data.toList with
    | some r => exact value_default v ls r h N F V w hv hl hlt hr (Lib.hid ht) (Lib.hid hf) (Lib.hid (by rw [hV.out]; unfold valueR; rw [h2, hf]))
    | none =>
      have e : V = ⟨#[]⟩ := by rw [hV.out]; unfold valueR; rw [h2, hf]
      rw [e]
      exact value_none v ls h N F w hv hl hlt hr (Lib.hid ht) (Lib.hid hf)
end Go.Proofs.YtialookpnoaogaaGreat
