/- The code's Value, for a seat without the document's (out of CGJ, CGN, CGO). -/
import Derived.Test.YtmclnamgihphcaaMP07
import Derived.Test.YtmclnamgihphcaaMP06
import Derived.Test.YtmclnamgihphcaaMP08
import Derived.Test.YtmclnamgihphcaaMP02
import Derived.BigQuiet
import Derived.Test.YtmclnamgihphcaaMP03
set_option linter.unusedVariables false
set_option linter.unusedSimpArgs false
set_option linter.unusedVariables false
set_option linter.unusedSimpArgs false
namespace Go.Proofs.Ytmclnamgihphcaa
open Go.RowKit

def keyB (h : Int) (n l : List UInt8) (q : LineD) : Bool := decide (q.head = h) && decide (q.name = n) && decide (q.leaf = l)
def valueR (ls : List LineD) (h : Int) (n l : List UInt8) : List UInt8 := match ls.find? (keyB h n l) with
  | some q => q.value
  | none => match findD h l with
    | some r => r.df
    | none => []
theorem find_first {ls : List LineD} {k : Nat} {q : LineD} {f : LineD → Bool} (hq : ls[k]? = some q) (hno : ∀ j r, j < k → ls[j]? = some r → f r = false) (h : f q = true) : ls.find? f = some q := by
  rw [List.find?_eq_some_iff_getElem]
  obtain ⟨hk, e⟩ := List.getElem?_eq_some_iff.1 hq
  exact ⟨h, k, hk, e, fun j hj => by
    have := hno j _ hj (List.getElem?_eq_getElem (by omega))
    simpa using this⟩
theorem find_nowhere {ls : List LineD} {f : LineD → Bool} (hno : ∀ j r, j < ls.length → ls[j]? = some r → f r = false) : ls.find? f = none := by
  rw [List.find?_eq_none]
  intro q hq
  obtain ⟨i, hi⟩ := List.getElem?_of_mem hq
  rw [hno i q (List.getElem?_eq_some_iff.1 hi).1 hi]; simp

theorem less_irr (a : LineD) : lessB a a = false := by
  cases h : lessB a a with
  | false => rfl
  | true => have := less_asymm h; rw [h] at this; cases this
theorem key_eq {a b : LineD} (h1 : lessB a b = false) (h2 : lessB b a = false) : a.head = b.head ∧ a.name = b.name ∧ a.leaf = b.leaf := by
  have a1 := (not_congr (lessB_iff a b)).1 (by rw [h1]; exact Bool.false_ne_true)
  have a2 := (not_congr (lessB_iff b a)).1 (by rw [h2]; exact Bool.false_ne_true)
  have eh : a.head = b.head := by
    have : ¬ a.head < b.head := fun h' => a1 (.inl h')
    have : ¬ b.head < a.head := fun h' => a2 (.inl h')
    omega
  have en : a.name = b.name := bl_tri (Bool.eq_false_iff.2 fun h' => a1 (.inr ⟨eh, .inl h'⟩)) (Bool.eq_false_iff.2 fun h' => a2 (.inr ⟨eh.symm, .inl h'⟩))
  exact ⟨eh, en, bl_tri (Bool.eq_false_iff.2 fun h' => a1 (.inr ⟨eh, .inr ⟨en, h'⟩⟩)) (Bool.eq_false_iff.2 fun h' => a2 (.inr ⟨eh.symm, .inr ⟨en.symm, h'⟩⟩))⟩
theorem less_key {a b : LineD} (h : lessB a b = true) : ¬ (a.head = b.head ∧ a.name = b.name ∧ a.leaf = b.leaf) := by
  rintro ⟨h1, h2, h3⟩
  rw [lessB_iff] at h
  rw [h1, h2, h3] at h
  rcases h with h | ⟨_, h | ⟨_, h⟩⟩
  · omega
  · rw [bl_irr] at h; cases h
  · rw [bl_irr] at h; cases h
/-- each line stands at its place -/
theorem find_at {q : LineD} : ∀ {ls : List LineD}, rises ls → q ∈ ls → ls[posL q ls]? = some q := by
  intro ls
  induction ls with
  | nil => intro _ h; cases h
  | cons a ls ih =>
    intro h hq
    rcases List.mem_cons.1 hq with rfl | hq
    · rw [posL, if_neg (by rw [less_irr]; exact Bool.false_ne_true)]; rfl
    · rw [posL, if_pos (rises_head h q hq)]
      simpa using ih (rises_tail h) hq
theorem there_at {q : LineD} {ls : List LineD} (h : rises ls) (hq : q ∈ ls) : thereB q ls = true := by
  unfold thereB
  rw [find_at h hq]
  simp [less_irr]
theorem posL_key {x q : LineD} (h : q.head = x.head ∧ q.name = x.name ∧ q.leaf = x.leaf) : ∀ ls : List LineD, posL q ls = posL x ls := by
  intro ls
  induction ls with
  | nil => rfl
  | cons a ls ih =>
    have e : lessB a q = lessB a x := by unfold lessB; rw [h.1, h.2.1, h.2.2]
    rw [posL, posL, e, ih]
theorem thereB_key {x q : LineD} (h : q.head = x.head ∧ q.name = x.name ∧ q.leaf = x.leaf) (ls : List LineD) : thereB q ls = thereB x ls := by
  unfold thereB
  rw [posL_key h]
  cases ls[posL x ls]? with
  | none => rfl
  | some a =>
    have e : lessB q a = lessB x a := by unfold lessB; rw [h.1, h.2.1, h.2.2]
    simp [e]
theorem keyB_iff {h : Int} {n l : List UInt8} {q : LineD} : keyB h n l q = true ↔ q.head = h ∧ q.name = n ∧ q.leaf = l := by
  unfold keyB
  simp [Bool.and_eq_true, and_assoc]
theorem find_there {h : Int} {n l : List UInt8} {ls : List LineD} (hr : rises ls) (ht : thereB ⟨h, n, l, []⟩ ls = true) : ∃ q, ls[posL ⟨h, n, l, []⟩ ls]? = some q ∧ ls.find? (keyB h n l) = some q := by
  have ht2 := ht
  unfold thereB at ht2
  cases hq : ls[posL ⟨h, n, l, []⟩ ls]? with
  | none => rw [hq] at ht2; cases ht2
  | some q =>
    rw [hq] at ht2
    have h1 : lessB ⟨h, n, l, []⟩ q = false := by simpa using ht2
    have h2 := posL_at hq
    have hk := key_eq h2 h1
    refine ⟨q, rfl, find_first hq (fun j r hj hjr => ?_) (keyB_iff.2 hk)⟩
    have h3 := posL_lt hj hjr
    rw [Bool.eq_false_iff]
    intro e
    exact less_key h3 (keyB_iff.1 e)
theorem find_not {h : Int} {n l : List UInt8} {ls : List LineD} (hr : rises ls) (ht : thereB ⟨h, n, l, []⟩ ls = false) : ls.find? (keyB h n l) = none := by
  rw [List.find?_eq_none]
  intro q hq e
  have hk := keyB_iff.1 e
  have h1 := there_at hr hq
  rw [thereB_key (x := ⟨h, n, l, []⟩) hk] at h1
  rw [ht] at h1; cases h1
set_option maxRecDepth 100000 in
set_option maxHeartbeats 4000000 in
/-- a leaf that isn't set, and is none -/
theorem value_none (v : Value) (ls : List LineD) (h : Int) (N F : ByteArray) (w : World) (hv : Hid (RowsAt 4 lineVals w v ls)) (hl : ls.length ≤ 64) (hlt : Hid (LinesLt ls 9223372036854775807)) (hr : Hid (rightC ls = true))
    (hth : Hid (thereB ⟨h, N.data.toList, F.data.toList, []⟩ ls = false)) (hf : Hid (findD h F.data.toList = none)) :
    Calls Try.prog 46 #[v, .int .i64 h, .string N, .string F] w (NewRes (.string ⟨#[]⟩) w) := by
  obtain ⟨p, c, rfl⟩ := hv.out.slice
  have hLn := Lib.hid hv.out.lines
  obtain ⟨at', hat⟩ : ∃ k, posL ⟨h, N.data.toList, F.data.toList, []⟩ ls = k := ⟨_, rfl⟩
  have hat' := Lib.hid hat
  clear hat hv
  go_enter Try.func46, Try.ntmps46
  go_wp2_with fail
  refine (right_c _ ls true _ hLn (by omega) hlt hr).mono ?_
  rintro e w2 ⟨rfl, k2⟩
  have k2' := Lib.hid k2; clear k2
  go_wp2_with fail
  refine (find_c _ ls h N F ⟨#[]⟩ at' false _ (Lib.hid (hLn.out.keep k2'.out (fun _ _ _ f => f))) (by omega) hat' hth).mono ?_
  rintro e w3 ⟨rfl, k3⟩
  have k3' := Lib.hid (k2'.out.trans k3)
  clear k3 k2' hLn
  go_wp2_with fail
  refine (find_no h F _ hf).mono ?_
  rintro e w5 ⟨rfl, k5⟩
  have k5' := Lib.hid (k3'.out.trans k5)
  clear k5 k3'
  have c6 := (show (w5.alloc (.cells #[.int .i64 0, .string ⟨#[]⟩, .int .i64 0, .int .i64 0, .int .i64 0, .slice none 0 0, .string ⟨#[]⟩, .int .i64 0] 120)).cell? ⟨w5.heap.size, 6, none⟩ = some (.string ⟨#[]⟩) by simp [go_sem])
  go_wp2_with ((with_reducible refine at_store 11 ?_); refine wpList_store_new rfl 120 (.tmp 11) (.tmp 35) rfl _ #[.int .i64 0, .string ⟨#[]⟩, .int .i64 0, .int .i64 0, .int .i64 0, .slice none 0 0, .string ⟨#[]⟩, .int .i64 0] rfl rfl rowInfo rfl (row_one _ _ _ _ _ _ _ _ _ _) ?_)
  go_ret
  exact ⟨rfl, k5'.out.alloc _⟩
/-- Value of a right configuration, whatever is asked -/
theorem value_any (v : Value) (ls : List LineD) (h : Int) (N F V : ByteArray) (w : World) (hv : Hid (RowsAt 4 lineVals w v ls)) (hr : Hid (rightC ls = true)) (hV : Hid (V = ⟨(valueR ls h N.data.toList F.data.toList).toArray⟩)) :
    Calls Try.prog 46 #[v, .int .i64 h, .string N, .string F] w (NewRes (.string V) w) := by
  have hl := right_len hr.out
  have hlt := Lib.hid (right_lt hr.out 9223372036854775807 (by omega))
  have hrs := right_rises hr.out
  cases ht : thereB ⟨h, N.data.toList, F.data.toList, []⟩ ls with
  | true =>
    obtain ⟨q, h1, h2⟩ := find_there hrs ht
    exact value_there v ls q h N F V w hv hl hlt hr (Lib.hid ht) (Lib.hid h1) (Lib.hid (by rw [hV.out]; unfold valueR; rw [h2]))
  | false =>
    have h2 := find_not hrs ht
    cases hf : findD h F.data.toList with
    | some r => exact value_default v ls r h N F V w hv hl hlt hr (Lib.hid ht) (Lib.hid hf) (Lib.hid (by rw [hV.out]; unfold valueR; rw [h2, hf]))
    | none =>
      have e : V = ⟨#[]⟩ := by rw [hV.out]; unfold valueR; rw [h2, hf]
      rw [e]
      exact value_none v ls h N F w hv hl hlt hr (Lib.hid ht) (Lib.hid hf)
end Go.Proofs.Ytmclnamgihphcaa
/- conf.Names of a right configuration (the first part of RUN, for a seat without the document's). -/
set_option linter.unusedVariables false
set_option linter.unusedSimpArgs false
namespace Go.Proofs.Ytmclnamgihphcaa
open Go.RowKit

def namesA (h : Int) (ls : List LineD) : List (List UInt8) := if h = 0 then [] else namesFrom h none ls
theorem namesA_len (h : Int) (ls : List LineD) : (namesA h ls).length ≤ ls.length := by
  unfold namesA
  split
  · simp
  · exact names_len_le h ls none
def NamesP (xs : List (List UInt8)) (w : World) (e : Ending) (w' : World) : Prop :=
  ∃ p c, e = .returned (.slice p xs.length c) ∧ StrsAt w' (.slice p xs.length c) xs ∧ Keeps (fun _ => False) w w'
theorem rows_strs {w : World} {v : Value} {xs : List (List UInt8)} (h : RowsAt 1 nv1 w v xs) : StrsAt w v xs := by
  obtain ⟨p, c, rfl, -, -, hr⟩ := h
  refine ⟨p, c, rfl, fun h0 => ?_⟩
  obtain ⟨g, o, rfl, hr2⟩ := hr h0
  refine ⟨g, o, rfl, fun j u hu => ?_⟩
  rw [List.getElem?_map] at hu
  cases hx : xs[j]? with
  | none => rw [hx] at hu; cases hu
  | some x =>
    rw [hx] at hu
    injection hu with hu
    have := hr2 j x hx 0 u (by rw [← hu]; rfl)
    rw [Nat.mul_one, Nat.add_zero] at this
    exact this
theorem nv1_len (x : List UInt8) : (nv1 x).length = 1 := rfl

set_option maxRecDepth 100000 in
set_option maxHeartbeats 2000000 in
theorem names_all (v : Value) (ls : List LineD) (h : Int) (w : World) (hv : Hid (RowsAt 4 lineVals w v ls)) (hr : Hid (rightC ls = true)) :
    Calls Try.prog 27 #[v, .int .i64 h] w (NamesP (namesA h ls) w) := by
  by_cases h0 : h = 0
  · subst h0
    have e : namesA 0 ls = [] := rfl
    rw [e]
    obtain ⟨p, c, rfl⟩ := hv.out.slice
    go_enter Try.func27, Try.ntmps27
    go_wp2_with fail
    go_ret
    exact ⟨none, 0, rfl, ⟨none, 0, rfl, fun h => absurd h (by simp)⟩, Keeps.refl _ _⟩
  · have e : namesA h ls = namesFrom h none ls := if_neg h0
    rw [e]
    refine (names_any v ls h w hv (right_len hr.out) (Lib.hid (right_lt hr.out 9223372036854775807 (by omega))) hr h0).mono ?_
    rintro e w2 ⟨p, c, rfl, hO, k⟩
    exact ⟨p, c, rfl, rows_strs (hO.at nv1_len), k⟩
end Go.Proofs.Ytmclnamgihphcaa
/- plan's small functions: isWhole, isType, ofLeaf. -/
set_option linter.unusedVariables false
set_option linter.unusedSimpArgs false
namespace Go.Proofs.Ytmclnamgihphcaa
open Go.RowKit

theorem ba_eqr (X : ByteArray) (l : List UInt8) : (X.toList == l) = decide (X.data.toList = l) := by
  rw [Lib.toList_data]
  by_cases h : X.data.toList = l
  · rw [decide_eq_true h, h]; simp
  · rw [decide_eq_false h]; simpa using h
def idW : List UInt8 := [114, 111, 117, 116, 101, 114, 45, 105, 100]
def typW : List UInt8 := [116, 121, 112, 101]
def wholeB (c : ChD) : Bool := decide (c.line.head = 0) && decide (c.line.leaf = idW)
def typeB (c : ChD) : Bool := decide (c.line.head = 1) && decide (c.line.leaf = typW)
theorem changeInfo : (Try.prog.info? 70).map (·.size) = some 6 := by kernel_rfl
theorem range_pre {w : World} {g o : Nat} {a b : List Value} (h : w.rangeAt g o (a ++ b)) : w.rangeAt g o a := fun j u hu => h j u (by
  rw [List.getElem?_append_left (List.getElem?_eq_some_iff.1 hu).1]; exact hu)
set_option maxRecDepth 100000 in
set_option maxHeartbeats 2000000 in
theorem plWhole1_r (h : Int) (N F V O W : ByteArray) (z : Bool) (w : World) (hz : Hid ((decide (h = 0) && decide (F.data.toList = idW)) = z)) :
    Calls Try.prog 29 #[.agg #[.int .i64 h, .string N, .string F, .string V, .string O, .string W]] w (NewRes (.bool z) w) := by
  obtain ⟨z1, h1⟩ : ∃ z, decide (h = 0) = z := ⟨_, rfl⟩
  obtain ⟨z2, h2⟩ : ∃ z, decide (F.data.toList = idW) = z := ⟨_, rfl⟩
  have hzz := hz.out
  rw [h1, h2] at hzz
  have e1 : (h == 0) = z1 := by rw [← h1]; by_cases e : h = 0 <;> simp [e]
  have e2 := ba_eqr F idW
  rw [h2] at e2
  unfold idW at e2
  have hzz' := Lib.hid hzz
  have hk : Hid (Keeps (fun _ => False) w (w.alloc (.cells #[.int .i64 h, .string N, .string F, .string V, .string O, .string W] 70))) := Lib.hid ((Keeps.refl _ _).alloc _)
  clear h1 h2 hzz hz
  go_enter Try.func29, Try.ntmps29
  cases z1 with
  | true =>
    go_wp2_with fail
    go_ret
    exact ⟨by rw [← hzz'.out]; simp, hk.out⟩
  | false =>
    go_wp2_with fail
    go_ret
    exact ⟨by rw [← hzz'.out]; rfl, hk.out⟩
set_option maxRecDepth 100000 in
set_option maxHeartbeats 2000000 in
theorem plType_r (h : Int) (N F V : ByteArray) (z : Bool) (w : World) (hz : Hid ((decide (h = 1) && decide (F.data.toList = typW)) = z)) :
    Calls Try.prog 48 #[.agg #[.int .i64 h, .string N, .string F, .string V]] w (NewRes (.bool z) w) := by
  obtain ⟨z1, h1⟩ : ∃ z, decide (h = 1) = z := ⟨_, rfl⟩
  obtain ⟨z2, h2⟩ : ∃ z, decide (F.data.toList = typW) = z := ⟨_, rfl⟩
  have hzz := hz.out
  rw [h1, h2] at hzz
  have e1 : (h == 1) = z1 := by rw [← h1]; by_cases e : h = 1 <;> simp [e]
  have e2 := ba_eqr F typW
  rw [h2] at e2
  unfold typW at e2
  have hzz' := Lib.hid hzz
  have hk : Hid (Keeps (fun _ => False) w (w.alloc (.cells #[.int .i64 h, .string N, .string F, .string V] 53))) := Lib.hid ((Keeps.refl _ _).alloc _)
  clear h1 h2 hzz hz
  go_enter Try.func48, Try.ntmps48
  cases z1 with
  | true =>
    go_wp2_with fail
    go_ret
    exact ⟨by rw [← hzz'.out]; simp, hk.out⟩
  | false =>
    go_wp2_with fail
    go_ret
    exact ⟨by rw [← hzz'.out]; rfl, hk.out⟩
def anyC (cs : List ChD) (k : Nat) : Bool := (cs.drop k).any wholeB
theorem anyC_step (cs : List ChD) (k : Nat) (c : ChD) (h : cs[k]? = some c) : anyC cs k = (wholeB c || anyC cs (k + 1)) := by
  obtain ⟨hk, e⟩ := List.getElem?_eq_some_iff.1 h
  unfold anyC
  rw [List.drop_eq_getElem_cons hk, e, List.any_cons]
theorem anyC_end (cs : List ChD) : anyC cs cs.length = false := by unfold anyC; simp
set_option maxRecDepth 100000 in
set_option maxHeartbeats 2000000 in
theorem slIFCh_any (sl : Value) (cs : List ChD) (hl : cs.length ≤ 1000000000) (z : Bool) (w : World) (h : Hid (RowsAt 6 cVals w sl cs)) (hz : Hid (cs.any wholeB = z)) :
    Calls Try.prog 44 #[sl, .func (.func 29) #[] #[]] w (fun e w' => (∃ r : Int, e = .returned (.int .i64 r) ∧ decide (0 ≤ r) = z) ∧ Keeps (fun _ => False) w w') := by
  obtain ⟨p, c, rfl⟩ := h.out.slice
  go_enter Try.func44, Try.ntmps44
  go_wp2_with fail
  go_loopw [8] (fun iv wr => ∃ k : Nat, k ≤ cs.length ∧ iv = .int .i64 k ∧ Hid (anyC cs k = z) ∧ Hid (Keeps (fun _ => False) w wr)) (fun iv _ => cs.length - (intOf iv).toNat)
  case atStart => exact ⟨0, by omega, rfl, Lib.hid hz.out, Lib.hid (Keeps.refl _ _)⟩
  case round =>
    obtain ⟨k, hk, rfl, hany, hkr⟩ := hrel
    by_cases hlk : k < cs.length
    · obtain ⟨g, o, rfl, hrows⟩ := h.out.open (by omega)
      obtain ⟨l, hll⟩ : ∃ l, cs[k]? = some l := ⟨_, List.getElem?_eq_getElem hlk⟩
      obtain ⟨N, hN⟩ : ∃ N : ByteArray, N = ⟨l.line.name.toArray⟩ := ⟨_, rfl⟩
      obtain ⟨F, hF⟩ : ∃ N : ByteArray, N = ⟨l.line.leaf.toArray⟩ := ⟨_, rfl⟩
      obtain ⟨V, hV⟩ : ∃ N : ByteArray, N = ⟨l.line.value.toArray⟩ := ⟨_, rfl⟩
      obtain ⟨O, hO⟩ : ∃ N : ByteArray, N = ⟨l.old.toArray⟩ := ⟨_, rfl⟩
      obtain ⟨W, hW⟩ : ∃ N : ByteArray, N = ⟨l.new.toArray⟩ := ⟨_, rfl⟩
      have hrow : Hid (wr.rangeAt g (o + k * 6) [.int .i64 l.line.head, .string N, .string F, .string V, .string O, .string W]) := Lib.hid (by rw [hN, hF, hV, hO, hW]; exact hkr.out.rangeAt (hrows k l hll) id)
      have hst := anyC_step cs k l hll
      rw [hany.out] at hst
      obtain ⟨x, hx⟩ : ∃ x, wholeB l = x := ⟨_, rfl⟩
      rw [hx] at hst
      have hx' : Hid ((decide (l.line.head = 0) && decide (F.data.toList = idW)) = x) := Lib.hid (by rw [hF]; exact hx)
      have hst' := Lib.hid hst
      clear hx hst hrows hll hany hN hF hV hO hW
      go_wp2_with ((with_reducible refine at_slot 15 ?_); refine wpList_load_mid rfl 70 (.tmp 14) rfl g (o + k * 6) rfl _ _ hrow.out Try.underlying70 rfl changeInfo ?_)
      refine (plWhole1_r _ N F V O W x _ hx').mono ?_
      rintro e w2 ⟨rfl, k2⟩
      have k2' := Lib.hid (hkr.out.trans k2); clear k2
      cases x with
      | true =>
        have hz1 : Hid (z = true) := Lib.hid hst'.out
        clear hst'
        go_wp2_with fail
        go_ret
        exact ⟨⟨_, rfl, by rw [hz1.out]; simp⟩, k2'.out⟩
      | false =>
        have hz1 : Hid (anyC cs (k + 1) = z) := Lib.hid hst'.out.symm
        clear hst'
        go_wp2_with fail
        exact ⟨⟨k + 1, by omega, by go_num, hz1, k2'⟩, by simp [intOf]; omega⟩
    · obtain rfl : k = cs.length := by omega
      have hz1 : Hid (z = false) := Lib.hid (by rw [← hany.out, anyC_end])
      clear hany
      go_wp2_with fail
      go_ret
      exact ⟨⟨_, rfl, by rw [hz1.out]; rfl⟩, hkr.out⟩
theorem slCFCh_any (sl : Value) (cs : List ChD) (hl : cs.length ≤ 1000000000) (z : Bool) (w : World) (h : Hid (RowsAt 6 cVals w sl cs)) (hz : Hid (cs.any wholeB = z)) :
    Calls Try.prog 28 #[sl, .func (.func 29) #[] #[]] w (NewRes (.bool z) w) := by
  go_enter Try.func28, Try.ntmps28
  go_wp2_with fail
  refine (slIFCh_any sl cs hl z _ h hz).mono ?_
  rintro e w2 ⟨⟨r, rfl, hr⟩, k2⟩
  have hr' := Lib.hid hr; have k2' := Lib.hid k2
  clear hr k2
  go_wp2_with fail
  go_ret
  exact ⟨by rw [hr'.out]; rfl, k2'.out⟩
def wholeC (a : List LineD) (cs : List ChD) : Bool := !(namesA 2 a).isEmpty && cs.any wholeB
set_option maxRecDepth 100000 in
set_option maxHeartbeats 2000000 in
theorem plWhole_any (v u : Value) (a : List LineD) (cs : List ChD) (z : Bool) (w : World) (hv : Hid (RowsAt 4 lineVals w v a)) (hr : Hid (rightC a = true)) (hu : Hid (RowsAt 6 cVals w u cs)) (hl : cs.length ≤ 1000000000) (hz : Hid (wholeC a cs = z)) :
    Calls Try.prog 11 #[v, u] w (NewRes (.bool z) w) := by
  have hnl := namesA_len 2 a
  have hal := right_len hr.out
  go_enter Try.func11, Try.ntmps11
  go_wp2_with fail
  refine (names_all _ a 2 _ hv hr).mono ?_
  rintro e w1 ⟨p1, c1, rfl, -, k1⟩
  have hu1 := Lib.hid (hu.out.keep k1)
  have hk1 := Lib.hid k1
  clear k1
  by_cases h0 : (namesA 2 a).length = 0
  · have e0 : (((namesA 2 a).length : Int) == 0) = true := by simp [h0]
    have hz0 : Hid (z = false) := Lib.hid (by
      rw [← hz.out]; unfold wholeC
      rw [List.eq_nil_of_length_eq_zero h0]; rfl)
    clear h0 hz
    go_wp2_with fail
    go_ret
    exact ⟨by rw [hz0.out]; rfl, hk1.out⟩
  · have e0 : (((namesA 2 a).length : Int) == 0) = false := by simpa using h0
    have hz0 : Hid (cs.any wholeB = z) := Lib.hid (by
      rw [← hz.out]; unfold wholeC
      cases hn : namesA 2 a with
      | nil => rw [hn] at h0; exact absurd rfl h0
      | cons => rfl)
    clear h0 hz
    go_wp2_with fail
    refine (slCFCh_any _ cs hl z _ hu1 hz0).mono ?_
    rintro e w2 ⟨rfl, k2⟩
    have hk2 := Lib.hid (hk1.out.trans k2)
    clear k2
    go_wp2_with fail
    go_ret
    exact ⟨rfl, hk2.out⟩
def leafK (l : List UInt8) : Int := match findD 2 l with
  | some r => if r.cl = 5 then 3 else if r.cl = 4 then 4 else if r.cl = 3 then 5 else if r.cl = 2 then 7 else if r.cl = 1 then 8 else 9
  | none => 9
set_option maxRecDepth 100000 in
set_option maxHeartbeats 4000000 in
theorem plLeaf_any (L : ByteArray) (k : Int) (w : World) (hk : Hid (leafK L.data.toList = k)) :
    Calls Try.prog 47 #[.string L] w (NewRes (.int .i64 k) w) := by
  go_enter Try.func47, Try.ntmps47
  go_wp2_with fail
  obtain ⟨f, hf⟩ : ∃ f, findD 2 L.data.toList = f := ⟨_, rfl⟩
  have hkk := hk.out
  unfold leafK at hkk
  rw [hf] at hkk
  refine (find_any 2 L f _ (Lib.hid hf)).mono ?_
  clear hf hk
  cases f with
  | none =>
    rintro e w1 ⟨rfl, k1⟩
    have hk1 := Lib.hid (k1.alloc (.cells zeroRow 120))
    unfold zeroRow at hk1 ⊢
    have hkk' : Hid (k = 9) := Lib.hid hkk.symm
    clear k1 hkk
    go_wp2_with ((with_reducible refine at_store 3 ?_); refine wpList_store_new rfl 120 (.tmp 3) (.tmp 8) rfl _ #[.int .i64 0, .string ⟨#[]⟩, .int .i64 0, .int .i64 0, .int .i64 0, .slice none 0 0, .string ⟨#[]⟩, .int .i64 0] rfl rfl rowInfo rfl (row_one _ _ _ _ _ _ _ _ _ _) ?_)
    go_ret
    exact ⟨by rw [hkk'.out]; rfl, hk1.out⟩
  | some r =>
    rintro e w1 ⟨p, cc, rfl, -, k1⟩
    have hk1 := Lib.hid (k1.alloc (.cells #[.int .i64 r.head, strv r.name, .int .i64 r.kind, .int .i64 r.lo, .int .i64 r.hi, .slice p r.cs.length cc, strv r.df, .int .i64 r.cl] 120))
    unfold strv at hk1 ⊢
    have hkk' := Lib.hid hkk
    clear k1 hkk
    obtain ⟨n5, h5⟩ : ∃ z, decide (r.cl = 5) = z := ⟨_, rfl⟩
    obtain ⟨n4, h4⟩ : ∃ z, decide (r.cl = 4) = z := ⟨_, rfl⟩
    obtain ⟨n3, h3⟩ : ∃ z, decide (r.cl = 3) = z := ⟨_, rfl⟩
    obtain ⟨n2, h2⟩ : ∃ z, decide (r.cl = 2) = z := ⟨_, rfl⟩
    obtain ⟨n1, h1⟩ : ∃ z, decide (r.cl = 1) = z := ⟨_, rfl⟩
    have e5 : (r.cl == 5) = n5 := by rw [← h5]; by_cases e : r.cl = 5 <;> simp [e]
    have e4 : (r.cl == 4) = n4 := by rw [← h4]; by_cases e : r.cl = 4 <;> simp [e]
    have e3 : (r.cl == 3) = n3 := by rw [← h3]; by_cases e : r.cl = 3 <;> simp [e]
    have e2 : (r.cl == 2) = n2 := by rw [← h2]; by_cases e : r.cl = 2 <;> simp [e]
    have e1 : (r.cl == 1) = n1 := by rw [← h1]; by_cases e : r.cl = 1 <;> simp [e]
    have hv : Hid (k = if n5 = true then 3 else if n4 = true then 4 else if n3 = true then 5 else if n2 = true then 7 else if n1 = true then 8 else 9) := Lib.hid (by
      rw [← hkk'.out, ← h5, ← h4, ← h3, ← h2, ← h1]
      simp only [decide_eq_true_eq])
    clear h5 h4 h3 h2 h1 hkk'
    generalize r.cl = cl at e5 e4 e3 e2 e1 hk1 ⊢
    cases n5 with
    | true => (go_wp2_with ((with_reducible refine at_store 3 ?_); refine wpList_store_new rfl 120 (.tmp 3) (.tmp 8) rfl _ #[.int .i64 r.head, .string ⟨r.name.toArray⟩, .int .i64 r.kind, .int .i64 r.lo, .int .i64 r.hi, .slice p r.cs.length cc, .string ⟨r.df.toArray⟩, .int .i64 cl] rfl rfl rowInfo rfl (row_one _ _ _ _ _ _ _ _ _ _) ?_)); go_ret; exact ⟨by rw [hv.out]; rfl, hk1.out⟩
    | false =>
      cases n4 with
      | true => (go_wp2_with ((with_reducible refine at_store 3 ?_); refine wpList_store_new rfl 120 (.tmp 3) (.tmp 8) rfl _ #[.int .i64 r.head, .string ⟨r.name.toArray⟩, .int .i64 r.kind, .int .i64 r.lo, .int .i64 r.hi, .slice p r.cs.length cc, .string ⟨r.df.toArray⟩, .int .i64 cl] rfl rfl rowInfo rfl (row_one _ _ _ _ _ _ _ _ _ _) ?_)); go_ret; exact ⟨by rw [hv.out]; rfl, hk1.out⟩
      | false =>
        cases n3 with
        | true => (go_wp2_with ((with_reducible refine at_store 3 ?_); refine wpList_store_new rfl 120 (.tmp 3) (.tmp 8) rfl _ #[.int .i64 r.head, .string ⟨r.name.toArray⟩, .int .i64 r.kind, .int .i64 r.lo, .int .i64 r.hi, .slice p r.cs.length cc, .string ⟨r.df.toArray⟩, .int .i64 cl] rfl rfl rowInfo rfl (row_one _ _ _ _ _ _ _ _ _ _) ?_)); go_ret; exact ⟨by rw [hv.out]; rfl, hk1.out⟩
        | false =>
          cases n2 with
          | true => (go_wp2_with ((with_reducible refine at_store 3 ?_); refine wpList_store_new rfl 120 (.tmp 3) (.tmp 8) rfl _ #[.int .i64 r.head, .string ⟨r.name.toArray⟩, .int .i64 r.kind, .int .i64 r.lo, .int .i64 r.hi, .slice p r.cs.length cc, .string ⟨r.df.toArray⟩, .int .i64 cl] rfl rfl rowInfo rfl (row_one _ _ _ _ _ _ _ _ _ _) ?_)); go_ret; exact ⟨by rw [hv.out]; rfl, hk1.out⟩
          | false =>
            cases n1 with
            | true => (go_wp2_with ((with_reducible refine at_store 3 ?_); refine wpList_store_new rfl 120 (.tmp 3) (.tmp 8) rfl _ #[.int .i64 r.head, .string ⟨r.name.toArray⟩, .int .i64 r.kind, .int .i64 r.lo, .int .i64 r.hi, .slice p r.cs.length cc, .string ⟨r.df.toArray⟩, .int .i64 cl] rfl rfl rowInfo rfl (row_one _ _ _ _ _ _ _ _ _ _) ?_)); go_ret; exact ⟨by rw [hv.out]; rfl, hk1.out⟩
            | false => (go_wp2_with ((with_reducible refine at_store 3 ?_); refine wpList_store_new rfl 120 (.tmp 3) (.tmp 8) rfl _ #[.int .i64 r.head, .string ⟨r.name.toArray⟩, .int .i64 r.kind, .int .i64 r.lo, .int .i64 r.hi, .slice p r.cs.length cc, .string ⟨r.df.toArray⟩, .int .i64 cl] rfl rfl rowInfo rfl (row_one _ _ _ _ _ _ _ _ _ _) ?_)); go_ret; exact ⟨by rw [hv.out]; rfl, hk1.out⟩
end Go.Proofs.Ytmclnamgihphcaa
/- plan.ofFace, ofAreas. -/
set_option linter.unusedVariables false
set_option linter.unusedSimpArgs false
namespace Go.Proofs.Ytmclnamgihphcaa
open Go.RowKit

structure ActD where
  kind : Int
  name : List UInt8
def aVals (a : ActD) : List Value := [.int .i64 a.kind, strv a.name]
theorem aVals_len (c : ActD) : (aVals c).length = 2 := rfl
theorem aVals_one (c : ActD) : ∀ u ∈ aVals c, u.oneCell' = true := by
  intro u hu
  simp only [aVals, List.mem_cons, List.not_mem_nil, or_false] at hu
  rcases hu with rfl | rfl <;> first | rfl | exact strv_one _
theorem actAll : ∃ i, Try.prog.info? 33 = some i ∧ i.zero = some (.agg #[.int .i64 0, .string ⟨#[]⟩]) ∧ i.size = 2 ∧ i.bytes = 24 := by
  have h : (Try.prog.info? 33).map (fun i => (i.zero, i.size, i.bytes)) = some (some (.agg #[.int .i64 0, .string ⟨#[]⟩]), 2, 24) := by kernel_rfl
  obtain ⟨i, hi, e⟩ := Option.map_eq_some_iff.1 h
  injection e with e1 e; injection e with e2 e3
  exact ⟨i, hi, e1, e2, e3⟩
theorem actInfo : (Try.prog.info? 33).map (·.size) = some 2 := by kernel_rfl
theorem change_one (a : Int) (n f v o u : ByteArray) : (#[.int .i64 a, .string n, .string f, .string v, .string o, .string u] : Array Value).all (·.oneCell') = true := by simp; exact ⟨rfl, rfl, rfl, rfl, rfl, rfl⟩
theorem strs_get {w : World} {p : Option Addr} {n c : Nat} {xs : List (List UInt8)} (h : StrsAt w (.slice p n c) xs) {k : Nat} {x : List UInt8} (hk : xs[k]? = some x) : ∃ g o, p = some ⟨g, o, none⟩ ∧ w.cell? ⟨g, o + k, none⟩ = some (.string ⟨x.toArray⟩) := by
  obtain ⟨p', c', e, hr⟩ := h
  injection e with e1 e2 e3
  subst e1
  obtain ⟨g, o, rfl, hr2⟩ := hr (by have := (List.getElem?_eq_some_iff.1 hk).1; omega)
  refine ⟨g, o, rfl, ?_⟩
  have := hr2 k (strv x) (by rw [List.getElem?_map, hk]; rfl)
  exact this
theorem eq_list (a b : ByteArray) : (a.toList == b.toList) = decide (a.data.toList = b.data.toList) := by
  by_cases e : a.data.toList = b.data.toList
  · rw [beq_list e, decide_eq_true e]
  · rw [bne_list e, decide_eq_false e]
theorem min_if (x y : Int) : min x y = if y < x then y else x := by rw [Int.min_def]; split <;> split <;> omega
theorem alloc_size (w : World) (o : Obj) : (w.alloc o).heap.size = w.heap.size + 1 := Array.size_push ..
def areaW : List UInt8 := [97, 114, 101, 97]
def costW : List UInt8 := [99, 111, 115, 116]
def stepF (n area : List UInt8) (least : Int) (c : ChD) : Int := if c.line.head = 2 ∧ c.line.name = n then min least (leafK c.line.leaf) else if typeB c = true ∧ c.line.name = area then min least 5 else least
def faceK (b : List LineD) (n : List UInt8) (cs : List ChD) : Int := cs.foldl (stepF n (valueR b 2 n areaW)) 10
theorem fold_take {α β : Type} (f : β → α → β) (a : β) {cs : List α} {k : Nat} {c : α} (h : cs[k]? = some c) : (cs.take (k + 1)).foldl f a = f ((cs.take k).foldl f a) c := by
  rw [List.take_add_one, h, List.foldl_append]; rfl
def isCost (c : ChD) : Bool := decide (c.line.head = 1) && decide (c.line.leaf = costW)
def areasC (cs : List ChD) : List ActD := cs.flatMap (fun c => if isCost c = true then [⟨7, c.line.name⟩] else [])
theorem flat_take {α β : Type} (f : α → List β) {cs : List α} {k : Nat} {c : α} (h : cs[k]? = some c) : (cs.take (k + 1)).flatMap f = (cs.take k).flatMap f ++ f c := by
  rw [List.take_add_one, h, List.flatMap_append]; simp
theorem flat_len {α β : Type} {f : α → List β} (h : ∀ x, (f x).length ≤ 1) : ∀ l : List α, (l.flatMap f).length ≤ l.length := by
  intro l
  induction l with
  | nil => simp
  | cons a l ih => rw [List.flatMap_cons, List.length_append, List.length_cons]; have := h a; omega

set_option maxRecDepth 100000 in
set_option maxHeartbeats 16000000 in
theorem plFace_any (v u : Value) (b : List LineD) (cs : List ChD) (Nm : ByteArray) (r : Int) (w : World) (hv : Hid (RowsAt 4 lineVals w v b)) (hr : Hid (rightC b = true)) (hu : Hid (RowsAt 6 cVals w u cs)) (hl : cs.length ≤ 1000000000) (hz : Hid (faceK b Nm.data.toList cs = r)) :
    Calls Try.prog 31 #[v, .string Nm, u] w (NewRes (.int .i64 r) w) := by
  obtain ⟨q, d, rfl⟩ := hu.out.slice
  obtain ⟨AR, hAR⟩ : ∃ V : ByteArray, V = ⟨(valueR b 2 Nm.data.toList (⟨#[97, 114, 101, 97]⟩ : ByteArray).data.toList).toArray⟩ := ⟨_, rfl⟩
  have hAR' := Lib.hid hAR
  have hz' : Hid (cs.foldl (stepF Nm.data.toList AR.data.toList) 10 = r) := Lib.hid (by rw [hAR, ← hz.out]; rfl)
  clear hAR hz
  go_enter Try.func31, Try.ntmps31
  go_wp2_with fail
  refine (value_any _ b 2 Nm ⟨#[97, 114, 101, 97]⟩ AR _ hv hr hAR').mono ?_
  rintro e w1 ⟨rfl, k1⟩
  have hu1 := Lib.hid (hu.out.keep k1)
  have hk1 := Lib.hid k1
  clear k1 hu hv hr hAR'
  go_wp2_with fail
  go_loopw [16, 8] (fun iv lv wr => ∃ (k : Nat) (x : Int), k ≤ cs.length ∧ iv = .int .i64 k ∧ lv = .int .i64 x ∧ Hid ((cs.take k).foldl (stepF Nm.data.toList AR.data.toList) 10 = x) ∧ Hid (Keeps (fun _ => False) w1 wr)) (fun iv _ _ => cs.length - (intOf iv).toNat)
  case atStart => exact ⟨0, 10, by omega, rfl, rfl, Lib.hid rfl, Lib.hid (Keeps.refl _ _)⟩
  case round =>
    obtain ⟨k, x, hk, rfl, rfl, hx, hkr⟩ := hrel
    by_cases hlk : k < cs.length
    · obtain ⟨g, o, rfl, hrows⟩ := hu1.out.open (by omega)
      obtain ⟨l, hll⟩ : ∃ l, cs[k]? = some l := ⟨_, List.getElem?_eq_getElem hlk⟩
      obtain ⟨N, hN⟩ : ∃ N : ByteArray, N = ⟨l.line.name.toArray⟩ := ⟨_, rfl⟩
      obtain ⟨F, hF⟩ : ∃ N : ByteArray, N = ⟨l.line.leaf.toArray⟩ := ⟨_, rfl⟩
      obtain ⟨V, hV⟩ : ∃ N : ByteArray, N = ⟨l.line.value.toArray⟩ := ⟨_, rfl⟩
      obtain ⟨O, hO⟩ : ∃ N : ByteArray, N = ⟨l.old.toArray⟩ := ⟨_, rfl⟩
      obtain ⟨W, hW⟩ : ∃ N : ByteArray, N = ⟨l.new.toArray⟩ := ⟨_, rfl⟩
      have hrow : Hid (wr.rangeAt g (o + k * 6) [.int .i64 l.line.head, .string N, .string F, .string V, .string O, .string W]) := Lib.hid (by rw [hN, hF, hV, hO, hW]; exact hkr.out.rangeAt (hrows k l hll) id)
      have hst : Hid ((cs.take (k + 1)).foldl (stepF Nm.data.toList AR.data.toList) 10 = stepF Nm.data.toList AR.data.toList x l) := Lib.hid (by rw [fold_take _ _ hll, hx.out])
      have hln : Hid (N.data.toList = l.line.name ∧ F.data.toList = l.line.leaf) := Lib.hid (by rw [hN, hF]; exact ⟨rfl, rfl⟩)
      generalize hhd : l.line.head = hd at hrow
      have hhd' := Lib.hid hhd
      obtain ⟨z1, h1⟩ : ∃ z, decide (hd = 2) = z := ⟨_, rfl⟩
      obtain ⟨z2, h2⟩ : ∃ z, decide (N.data.toList = Nm.data.toList) = z := ⟨_, rfl⟩
      obtain ⟨zt, ht⟩ : ∃ z, typeB l = z := ⟨_, rfl⟩
      obtain ⟨z3, h3⟩ : ∃ z, decide (N.data.toList = AR.data.toList) = z := ⟨_, rfl⟩
      obtain ⟨y, hy⟩ : ∃ y, leafK F.data.toList = y := ⟨_, rfl⟩
      obtain ⟨m1, hm1⟩ : ∃ m, (if y < x then y else x) = m := ⟨_, rfl⟩
      obtain ⟨m2, hm2⟩ : ∃ m, (if 5 < x then 5 else x) = m := ⟨_, rfl⟩
      have hsv : Hid ((cs.take (k + 1)).foldl (stepF Nm.data.toList AR.data.toList) 10 = if (z1 && z2) = true then m1 else if (zt && z3) = true then m2 else x) := Lib.hid (by
        rw [hst.out, ← h1, ← h2, ← h3, ← ht, ← hm1, ← hm2, ← hy, hln.out.1, hln.out.2, ← hhd]
        unfold stepF
        rw [min_if, min_if]
        simp only [Bool.and_eq_true, decide_eq_true_eq])
      have hm1' := Lib.hid hm1
      have hm2' := Lib.hid hm2
      have htt : Hid ((decide (hd = 1) && decide (F.data.toList = typW)) = zt) := Lib.hid (by rw [← ht, hln.out.2, ← hhd]; rfl)
      have hyy := Lib.hid hy
      have e1 : (hd == 2) = z1 := by rw [← h1]; by_cases e : hd = 2 <;> simp [e]
      have e2 : (N.toList == Nm.toList) = z2 := by rw [← h2]; exact eq_list N Nm
      have e3 : (N.toList == AR.toList) = z3 := by rw [← h3]; exact eq_list N AR
      have hB : Hid ((wr.alloc (.cells #[.int .i64 hd, .string N, .string F, .string V, .string O, .string W] 70)).rangeAt wr.heap.size 0 [.int .i64 hd, .string N, .string F, .string V]) := Lib.hid (range_pre (b := [.string O, .string W]) (BlkAt.new wr 70 [.int .i64 hd, .string N, .string F, .string V, .string O, .string W]).range)
      have hkb := Lib.hid (hkr.out.alloc (.cells #[.int .i64 hd, .string N, .string F, .string V, .string O, .string W] 70))
      clear hm1 hm2 h1 h2 h3 ht hy hhd hst hln hrows hll hN hF hV hO hW hx hkr
      go_upto_region 6 with (first | ((with_reducible refine at_slot 19 ?_); refine wpList_load_mid rfl 70 (.tmp 18) rfl g (o + k * 6) rfl _ _ hrow.out Try.underlying70 rfl changeInfo ?_) | ((with_reducible refine at_store 10 ?_); refine wpList_store_new rfl 70 (.tmp 10) (.tmp 19) rfl _ #[.int .i64 hd, .string N, .string F, .string V, .string O, .string W] rfl rfl changeInfo rfl (change_one _ _ _ _ _ _) ?_))
      cases z1 with
      | true =>
        cases z2 with
        | true =>
          go_wp2_with fail
          refine (plLeaf_any F y _ hyy).mono ?_
          rintro e w2 ⟨rfl, k2⟩
          have hk2 := Lib.hid (hkb.out.trans k2)
          clear k2 hkb hB htt hyy
          go_wp2_with fail
          exact ⟨⟨k + 1, m1, by omega, by go_num, by rw [hm1'.out], by simpa using hsv, hk2⟩, by simp [intOf]; omega⟩
        | false =>
          go_wp2_with fail
          refine (plType_r hd N F V zt _ htt).mono ?_
          rintro e w2 ⟨rfl, k2⟩
          have hk2 := Lib.hid (hkb.out.trans k2)
          have c1 : w2.cell? ⟨wr.heap.size, 1, none⟩ = some (.string N) := (k2.rangeAt hB.out id) 1 _ rfl
          clear k2 hkb hB htt hyy
          cases zt with
          | true =>
            cases z3 with
            | true =>
              go_wp2_with fail
              exact ⟨⟨k + 1, m2, by omega, by go_num, by rw [hm2'.out], by simpa using hsv, hk2⟩, by simp [intOf]; omega⟩
            | false =>
              go_wp2_with fail
              exact ⟨⟨k + 1, x, by omega, by go_num, rfl, by simpa using hsv, hk2⟩, by simp [intOf]; omega⟩
          | false =>
            go_wp2_with fail
            exact ⟨⟨k + 1, x, by omega, by go_num, rfl, by simpa using hsv, hk2⟩, by simp [intOf]; omega⟩
      | false =>
        go_wp2_with fail
        refine (plType_r hd N F V zt _ htt).mono ?_
        rintro e w2 ⟨rfl, k2⟩
        have hk2 := Lib.hid (hkb.out.trans k2)
        have c1 : w2.cell? ⟨wr.heap.size, 1, none⟩ = some (.string N) := (k2.rangeAt hB.out id) 1 _ rfl
        clear k2 hkb hB htt hyy
        cases zt with
        | true =>
          cases z3 with
          | true =>
            go_wp2_with fail
            exact ⟨⟨k + 1, m2, by omega, by go_num, by rw [hm2'.out], by simpa using hsv, hk2⟩, by simp [intOf]; omega⟩
          | false =>
            go_wp2_with fail
            exact ⟨⟨k + 1, x, by omega, by go_num, rfl, by simpa using hsv, hk2⟩, by simp [intOf]; omega⟩
        | false =>
          go_wp2_with fail
          exact ⟨⟨k + 1, x, by omega, by go_num, rfl, by simpa using hsv, hk2⟩, by simp [intOf]; omega⟩
    · obtain rfl : k = cs.length := by omega
      rw [List.take_length] at hx
      have hxr : Hid (x = r) := Lib.hid (hx.out.symm.trans hz'.out)
      clear hx hlk
      go_wp2_with fail
      go_ret
      exact ⟨by rw [hxr.out]; rfl, hk1.out.trans hkr.out⟩

set_option maxRecDepth 100000 in
set_option maxHeartbeats 16000000 in
theorem plAreas_any (u : Value) (cs : List ChD) (w : World) (hu : Hid (RowsAt 6 cVals w u cs)) (hl : cs.length ≤ 1000000) :
    Calls Try.prog 13 #[u] w (fun e w' => ∃ p c, e = .returned (.slice p (areasC cs).length c) ∧ OwnR 33 2 aVals w w' (.slice p (areasC cs).length c) (areasC cs) ∧ Keeps (fun _ => False) w w') := by
  obtain ⟨q, d, rfl⟩ := hu.out.slice
  obtain ⟨i0, hi0, hi1, hi2, hi3⟩ := actAll
  go_enter Try.func13, Try.ntmps13
  go_wp2_with fail
  go_loopw [8, 3] (fun iv lv wr => ∃ (k : Nat) (L : List ActD) (pa : Option Addr) (ca : Nat), k ≤ cs.length ∧ iv = .int .i64 k ∧ lv = .slice pa L.length ca ∧ L.length ≤ k ∧ Hid (L = areasC (cs.take k)) ∧ Hid (OwnR 33 2 aVals w wr lv L) ∧ Hid (Keeps (fun _ => False) w wr)) (fun iv _ _ => cs.length - (intOf iv).toNat)
  case atStart => exact ⟨0, [], none, 0, by omega, rfl, rfl, by simp, Lib.hid rfl, Lib.hid (OwnR.nil _ _ (Nat.le_refl _)), Lib.hid (Keeps.refl _ _)⟩
  case round =>
    obtain ⟨k, L, pa, ca, hk, rfl, rfl, hLl, hL, hOw, hkr⟩ := hrel
    by_cases hlk : k < cs.length
    · obtain ⟨g, o, rfl, hrows⟩ := hu.out.open (by omega)
      obtain ⟨l, hll⟩ : ∃ l, cs[k]? = some l := ⟨_, List.getElem?_eq_getElem hlk⟩
      obtain ⟨N, hN⟩ : ∃ N : ByteArray, N = ⟨l.line.name.toArray⟩ := ⟨_, rfl⟩
      obtain ⟨F, hF⟩ : ∃ N : ByteArray, N = ⟨l.line.leaf.toArray⟩ := ⟨_, rfl⟩
      obtain ⟨V, hV⟩ : ∃ N : ByteArray, N = ⟨l.line.value.toArray⟩ := ⟨_, rfl⟩
      obtain ⟨O, hO⟩ : ∃ N : ByteArray, N = ⟨l.old.toArray⟩ := ⟨_, rfl⟩
      obtain ⟨W, hW⟩ : ∃ N : ByteArray, N = ⟨l.new.toArray⟩ := ⟨_, rfl⟩
      have hrow : Hid (wr.rangeAt g (o + k * 6) [.int .i64 l.line.head, .string N, .string F, .string V, .string O, .string W]) := Lib.hid (by rw [hN, hF, hV, hO, hW]; exact hkr.out.rangeAt (hrows k l hll) id)
      generalize hhd : l.line.head = hd at hrow
      obtain ⟨z1, h1⟩ : ∃ z, decide (hd = 1) = z := ⟨_, rfl⟩
      obtain ⟨z2, h2⟩ : ∃ z, decide (F.data.toList = costW) = z := ⟨_, rfl⟩
      have hst : Hid (areasC (cs.take (k + 1)) = L ++ (if (z1 && z2) = true then [⟨7, N.data.toList⟩] else [])) := Lib.hid (by
        unfold areasC
        rw [flat_take _ hll, hL.out, ← h1, ← h2, hN, hF, ← hhd]
        rfl)
      have e1 : (hd == 1) = z1 := by rw [← h1]; by_cases e : hd = 1 <;> simp [e]
      have e2 := ba_eqr F costW
      rw [h2] at e2
      unfold costW at e2
      have hO9 := Lib.hid (hOw.out.keep ((Keeps.refl (fun _ => False) wr).alloc (.cells #[.int .i64 hd, .string N, .string F, .string V, .string O, .string W] 70)) (fun _ _ f => f))
      have hK9 := Lib.hid (hkr.out.alloc (.cells #[.int .i64 hd, .string N, .string F, .string V, .string O, .string W] 70))
      clear h1 h2 hhd hrows hll hN hF hV hO hW hL hkr hOw
      go_upto_region 5 with (first | ((with_reducible refine at_slot 11 ?_); refine wpList_load_mid rfl 70 (.tmp 10) rfl g (o + k * 6) rfl _ _ hrow.out Try.underlying70 rfl changeInfo ?_) | ((with_reducible refine at_store 5 ?_); refine wpList_store_new rfl 70 (.tmp 5) (.tmp 11) rfl _ #[.int .i64 hd, .string N, .string F, .string V, .string O, .string W] rfl rfl changeInfo rfl (change_one _ _ _ _ _ _) ?_))
      cases z1 with
      | true =>
        cases z2 with
        | true =>
          go_wp2_with ((with_reducible refine at_slot 28 ?_); go_must (refine wpList_append_r rfl (.tmp 22) (.tmp 27) 24 33 rfl i0 _ 24 Try.underlying24 hi0 hi1 hi2 hi3 rfl (by decide) (by decide) aVals_len w _ L.length L rfl rfl (hO9.out.keep ((Keeps.refl (fun _ => False) _).alloc _) (fun _ _ f => f)) _ rfl ⟨7, N.data.toList⟩ (cells_new (w := wr.alloc (.cells #[.int .i64 hd, .string N, .string F, .string V, .string O, .string W] 70)) (n := wr.heap.size + 1) (alloc_size _ _).symm [.int .i64 7, .string N] _) (aVals_one _) (by omega) ?_); intro q8 d8 w8 hO8 hg8)
          have hK8 := Lib.hid ((hO9.out.keep ((Keeps.refl (fun _ => False) _).alloc (.cells #[.int .i64 7, .string N] 33)) (fun _ _ f => f)).keeps (hK9.out.alloc _) hg8.out)
          exact ⟨⟨k + 1, L ++ [⟨7, N.data.toList⟩], q8, d8, by omega, by go_num, by simp, by simp; omega, by simpa using Lib.hid hst.out.symm, by simpa using hO8, hK8⟩, by simp [intOf]; omega⟩
        | false =>
          go_wp2_with fail
          exact ⟨⟨k + 1, L, pa, ca, by omega, by go_num, rfl, by omega, by simpa using Lib.hid hst.out.symm, hO9, hK9⟩, by simp [intOf]; omega⟩
      | false =>
        go_wp2_with fail
        exact ⟨⟨k + 1, L, pa, ca, by omega, by go_num, rfl, by omega, by simpa using Lib.hid hst.out.symm, hO9, hK9⟩, by simp [intOf]; omega⟩
    · obtain rfl : k = cs.length := by omega
      rw [List.take_length] at hL
      clear hlk
      go_wp2_with fail
      go_ret
      rw [← hL.out]
      exact ⟨pa, ca, rfl, hOw.out, hkr.out⟩
end Go.Proofs.Ytmclnamgihphcaa
/- plan.ofFaces. -/
set_option linter.unusedVariables false
set_option linter.unusedSimpArgs false
namespace Go.Proofs.Ytmclnamgihphcaa
open Go.RowKit

def face1 (b : List LineD) (inB : List (List UInt8)) (cs : List ChD) (n : List UInt8) : List ActD := if (if inB.contains n = true then faceK b n cs else 2) = 10 then [] else [⟨if inB.contains n = true then faceK b n cs else 2, n⟩]
def face2 (inA : List (List UInt8)) (n : List UInt8) : List ActD := if inA.contains n = true then [] else [⟨6, n⟩]
def facesC (a b : List LineD) (cs : List ChD) : List ActD := (namesA 2 a).flatMap (face1 b (namesA 2 b) cs) ++ (namesA 2 b).flatMap (face2 (namesA 2 a))
theorem face1_len (b : List LineD) (inB : List (List UInt8)) (cs : List ChD) (n : List UInt8) : (face1 b inB cs n).length ≤ 1 := by unfold face1; (repeat' split) <;> first | exact Nat.zero_le _ | exact Nat.le_refl _
theorem face2_len (inA : List (List UInt8)) (n : List UInt8) : (face2 inA n).length ≤ 1 := by unfold face2; split; exact Nat.zero_le _; exact Nat.le_refl _
theorem facesC_len (a b : List LineD) (cs : List ChD) : (facesC a b cs).length ≤ (namesA 2 a).length + (namesA 2 b).length := by
  unfold facesC
  rw [List.length_append]
  have h1 := flat_len (face1_len b (namesA 2 b) cs) (namesA 2 a)
  have h2 := flat_len (face2_len (namesA 2 a)) (namesA 2 b)
  omega
theorem names_short {ls : List LineD} (hr : rightC ls = true) (h : Int) (x : List UInt8) (hx : (namesA h ls).contains x = true) : True := trivial
def ActRes (L : List ActD) (w : World) (e : Ending) (w' : World) : Prop :=
  ∃ p c, e = .returned (.slice p L.length c) ∧ OwnR 33 2 aVals w w' (.slice p L.length c) L ∧ Keeps (fun _ => False) w w'
theorem strs_keep {w w' : World} {v : Value} {xs : List (List UInt8)} (h : StrsAt w v xs) (k : Keeps (fun _ => False) w w') : StrsAt w' v xs := by
  obtain ⟨p, c, e, hr⟩ := h
  refine ⟨p, c, e, fun h0 => ?_⟩
  obtain ⟨g, o, h1, h2⟩ := hr h0
  exact ⟨g, o, h1, k.rangeAt h2 id⟩

set_option maxRecDepth 100000 in
set_option maxHeartbeats 16000000 in
theorem plFaces_any (v u c : Value) (a b : List LineD) (cs : List ChD) (w : World) (hv : Hid (RowsAt 4 lineVals w v a)) (hra : Hid (rightC a = true)) (hu : Hid (RowsAt 4 lineVals w u b)) (hrb : Hid (rightC b = true)) (hc : Hid (RowsAt 6 cVals w c cs)) (hl : cs.length ≤ 1000000) :
    Calls Try.prog 12 #[v, u, c] w (ActRes (facesC a b cs) w) := by
  obtain ⟨i0, hi0, hi1, hi2, hi3⟩ := actAll
  have hla := right_len hra.out
  have hlb := right_len hrb.out
  have hna := namesA_len 2 a
  have hnb := namesA_len 2 b
  go_enter Try.func12, Try.ntmps12
  go_wp2_with fail
  refine (names_all _ a 2 _ hv hra).mono ?_
  rintro e w1 ⟨p1, c1, rfl, hA1, k1⟩
  have hA1' := Lib.hid hA1
  have hu1 := Lib.hid (hu.out.keep k1)
  have hc1 := Lib.hid (hc.out.keep k1)
  have hk1 := Lib.hid k1
  clear k1 hA1 hv hu hc
  go_wp2_with fail
  refine (names_all _ b 2 _ hu1 hrb).mono ?_
  rintro e w2 ⟨p2, c2, rfl, hB2, k2⟩
  have hA2 := Lib.hid (strs_keep hA1'.out k2)
  have hB2' := Lib.hid hB2
  have hu2 := Lib.hid (hu1.out.keep k2)
  have hc2 := Lib.hid (hc1.out.keep k2)
  have hk2 := Lib.hid (hk1.out.trans k2)
  clear k2 hB2 hA1' hu1 hc1 hk1
  have hres : Hid ((namesA 2 a).flatMap (face1 b (namesA 2 b) cs) ++ (namesA 2 b).flatMap (face2 (namesA 2 a)) = facesC a b cs) := Lib.hid rfl
  generalize namesA 2 a = A at hA2 hna hres ⊢
  generalize namesA 2 b = B at hB2' hnb hres ⊢
  have hA64 : A.length ≤ 64 := by omega
  have hB64 : B.length ≤ 64 := by omega
  clear hna hnb hla hlb
  go_wp2_with fail
  go_loopw [21, 9] (fun iv lv wr => ∃ (k : Nat) (L : List ActD) (pa : Option Addr) (ca : Nat), k ≤ A.length ∧ iv = .int .i64 k ∧ lv = .slice pa L.length ca ∧ L.length ≤ k ∧ Hid (L = (A.take k).flatMap (face1 b B cs)) ∧ Hid (OwnR 33 2 aVals w2 wr lv L) ∧ Hid (Keeps (fun _ => False) w2 wr)) (fun iv _ _ => A.length - (intOf iv).toNat)
  case atStart => exact ⟨0, [], none, 0, by omega, rfl, rfl, by simp, Lib.hid rfl, Lib.hid (OwnR.nil _ _ (Nat.le_refl _)), Lib.hid (Keeps.refl _ _)⟩
  case round =>
    obtain ⟨k, L, pa, ca, hk, rfl, rfl, hLl, hL, hOw, hkr⟩ := hrel
    by_cases hlk : k < A.length
    · obtain ⟨x, hx⟩ : ∃ x, A[k]? = some x := ⟨_, List.getElem?_eq_getElem hlk⟩
      obtain ⟨g, o, rfl, hcx⟩ := strs_get hA2.out hx
      obtain ⟨X, hX⟩ : ∃ X : ByteArray, X = ⟨x.toArray⟩ := ⟨_, rfl⟩
      have c0 : wr.cell? ⟨g, o + k, none⟩ = some (.string X) := by rw [hX]; exact (hkr.out.cell (p := ⟨g, o + k, none⟩) (World.block_lt_of_cell? w2 _ hcx) id).trans hcx
      obtain ⟨z, hz⟩ : ∃ z, B.contains X.data.toList = z := ⟨_, rfl⟩
      have hz' := Lib.hid hz
      have hst : Hid ((A.take (k + 1)).flatMap (face1 b B cs) = L ++ face1 b B cs X.data.toList) := Lib.hid (by rw [flat_take _ hx, hL.out, hX])
      have hBr := Lib.hid (strs_keep hB2'.out hkr.out)
      have n1 : (0 : Int) ≤ (k : Int) := by omega
      have n2 : (k : Int) < (A.length : Int) := by omega
      clear hz hX hcx hx hL
      go_wp2_with fail
      refine (slicesContains_any _ B X z _ hBr.out (by omega) hz').mono ?_
      rintro e w3 ⟨rfl, rfl⟩
      have hO3 := hOw
      have hk3 := hkr
      clear hOw hkr hBr c0
      cases z with
      | false =>
        have hf1 : Hid (face1 b B cs X.data.toList = [⟨2, X.data.toList⟩]) := Lib.hid (by unfold face1; rw [hz'.out]; simp)
        clear hz'
        go_wp2_with ((with_reducible refine at_slot 39 ?_); go_must (refine wpList_append_r rfl (.tmp 34) (.tmp 38) 24 33 rfl i0 _ 24 Try.underlying24 hi0 hi1 hi2 hi3 rfl (by decide) (by decide) aVals_len w2 _ L.length L rfl rfl (hO3.out.keep ((Keeps.refl (fun _ => False) _).alloc _) (fun _ _ f => f)) _ rfl ⟨2, X.data.toList⟩ (cells_new rfl [.int .i64 2, .string X] _) (aVals_one _) (by omega) ?_); intro q8 d8 w8 hO8 hg8)
        have hK8 := Lib.hid ((hO3.out.keep ((Keeps.refl (fun _ => False) wr).alloc (.cells #[.int .i64 2, .string X] 33)) (fun _ _ f => f)).keeps (hk3.out.alloc _) hg8.out)
        exact ⟨⟨k + 1, L ++ [⟨2, X.data.toList⟩], q8, d8, by omega, by go_num, by simp, by simp; omega, Lib.hid (by rw [hst.out, hf1.out]), by simpa using hO8, hK8⟩, by simp [intOf]; omega⟩
      | true =>
        obtain ⟨r, hr⟩ : ∃ r, faceK b X.data.toList cs = r := ⟨_, rfl⟩
        have hr' := Lib.hid hr
        have hu3 := Lib.hid (hu2.out.keep hk3.out)
        have hc3 := Lib.hid (hc2.out.keep hk3.out)
        clear hr
        go_wp2_with fail
        refine (plFace_any _ _ b cs X r _ hu3 hrb hc3 (by omega) hr').mono ?_
        rintro e w4 ⟨rfl, k4⟩
        have hO4 := Lib.hid (hO3.out.keep k4 (fun _ _ f => f))
        have hk4 := Lib.hid (hk3.out.trans k4)
        clear k4 hO3 hk3 hu3 hc3
        by_cases h10 : r = 10
        · have hf1 : Hid (face1 b B cs X.data.toList = []) := Lib.hid (by unfold face1; rw [hz'.out, hr'.out]; simp [h10])
          have e1 : (r == 10) = true := by simp [h10]
          clear hz' hr' h10
          go_wp2_with fail
          exact ⟨⟨k + 1, L, pa, ca, by omega, by go_num, rfl, by omega, Lib.hid (by rw [hst.out, hf1.out, List.append_nil]), hO4, hk4⟩, by simp [intOf]; omega⟩
        · have hf1 : Hid (face1 b B cs X.data.toList = [⟨r, X.data.toList⟩]) := Lib.hid (by unfold face1; rw [hz'.out, hr'.out]; simp [h10])
          have e1 : (r == 10) = false := by simp [h10]
          clear hz' hr' h10
          go_wp2_with ((with_reducible refine at_slot 39 ?_); go_must (refine wpList_append_r rfl (.tmp 34) (.tmp 38) 24 33 rfl i0 _ 24 Try.underlying24 hi0 hi1 hi2 hi3 rfl (by decide) (by decide) aVals_len w2 _ L.length L rfl rfl (hO4.out.keep ((Keeps.refl (fun _ => False) _).alloc _) (fun _ _ f => f)) _ rfl ⟨r, X.data.toList⟩ (cells_new rfl [.int .i64 r, .string X] _) (aVals_one _) (by omega) ?_); intro q8 d8 w8 hO8 hg8)
          have hK8 := Lib.hid ((hO4.out.keep ((Keeps.refl (fun _ => False) w4).alloc (.cells #[.int .i64 r, .string X] 33)) (fun _ _ f => f)).keeps (hk4.out.alloc _) hg8.out)
          exact ⟨⟨k + 1, L ++ [⟨r, X.data.toList⟩], q8, d8, by omega, by go_num, by simp, by simp; omega, Lib.hid (by rw [hst.out, hf1.out]), by simpa using hO8, hK8⟩, by simp [intOf]; omega⟩
    · obtain rfl : k = A.length := by omega
      rw [List.take_length] at hL
      clear hlk hk
      generalize hgz : wr = w5 at hOw hkr ⊢
      clear hgz
      have hL0 : Hid (L = L ++ ((B.take 0).flatMap (face2 A))) := Lib.hid (by simp)
      go_wp2_with fail
      go_loopw [43, 9] (fun iv lv wr => ∃ (j : Nat) (M : List ActD) (pb : Option Addr) (cb : Nat), j ≤ B.length ∧ iv = .int .i64 j ∧ lv = .slice pb M.length cb ∧ M.length ≤ A.length + j ∧ Hid (M = L ++ (B.take j).flatMap (face2 A)) ∧ Hid (OwnR 33 2 aVals w2 wr lv M) ∧ Hid (Keeps (fun _ => False) w2 wr)) (fun iv _ _ => B.length - (intOf iv).toNat)
      case atStart => exact ⟨0, L, pa, ca, by omega, rfl, rfl, by omega, hL0, hOw, hkr⟩
      case round =>
        obtain ⟨j, M, pb, cb, hj, rfl, rfl, hMl, hM, hOm, hkm⟩ := hrel
        clear hOw hkr
        by_cases hlj : j < B.length
        · obtain ⟨x, hx⟩ : ∃ x, B[j]? = some x := ⟨_, List.getElem?_eq_getElem hlj⟩
          obtain ⟨g, o, rfl, hcx⟩ := strs_get hB2'.out hx
          obtain ⟨X, hX⟩ : ∃ X : ByteArray, X = ⟨x.toArray⟩ := ⟨_, rfl⟩
          have c0 : wr.cell? ⟨g, o + j, none⟩ = some (.string X) := by rw [hX]; exact (hkm.out.cell (p := ⟨g, o + j, none⟩) (World.block_lt_of_cell? w2 _ hcx) id).trans hcx
          obtain ⟨z, hz⟩ : ∃ z, A.contains X.data.toList = z := ⟨_, rfl⟩
          have hz' := Lib.hid hz
          have hst : Hid (L ++ (B.take (j + 1)).flatMap (face2 A) = M ++ face2 A X.data.toList) := Lib.hid (by rw [flat_take _ hx, hM.out, hX, List.append_assoc])
          have hAr := Lib.hid (strs_keep hA2.out hkm.out)
          have n1 : (0 : Int) ≤ (j : Int) := by omega
          have n2 : (j : Int) < (B.length : Int) := by omega
          clear hz hX hcx hx hM
          go_wp2_with fail
          refine (slicesContains_any _ A X z _ hAr.out (by omega) hz').mono ?_
          rintro e w6 ⟨rfl, rfl⟩
          have hO6 := hOm
          have hk6 := hkm
          clear hOm hkm hAr c0
          cases z with
          | true =>
            have hf2 : Hid (face2 A X.data.toList = []) := Lib.hid (by unfold face2; rw [hz'.out]; rfl)
            clear hz'
            go_wp2_with fail
            exact ⟨⟨j + 1, M, pb, cb, by omega, by go_num, rfl, by omega, Lib.hid (by rw [hst.out, hf2.out, List.append_nil]), hO6, hk6⟩, by simp [intOf]; omega⟩
          | false =>
            have hf2 : Hid (face2 A X.data.toList = [⟨6, X.data.toList⟩]) := Lib.hid (by unfold face2; rw [hz'.out]; rfl)
            clear hz'
            go_wp2_with ((with_reducible refine at_slot 55 ?_); go_must (refine wpList_append_r rfl (.tmp 51) (.tmp 54) 24 33 rfl i0 _ 24 Try.underlying24 hi0 hi1 hi2 hi3 rfl (by decide) (by decide) aVals_len w2 _ M.length M rfl rfl (hO6.out.keep ((Keeps.refl (fun _ => False) _).alloc _) (fun _ _ f => f)) _ rfl ⟨6, X.data.toList⟩ (cells_new rfl [.int .i64 6, .string X] _) (aVals_one _) (by omega) ?_); intro q8 d8 w8 hO8 hg8)
            have hK8 := Lib.hid ((hO6.out.keep ((Keeps.refl (fun _ => False) wr).alloc (.cells #[.int .i64 6, .string X] 33)) (fun _ _ f => f)).keeps (hk6.out.alloc _) hg8.out)
            exact ⟨⟨j + 1, M ++ [⟨6, X.data.toList⟩], q8, d8, by omega, by go_num, by simp, by simp; omega, Lib.hid (by rw [hst.out, hf2.out]), by simpa using hO8, hK8⟩, by simp [intOf]; omega⟩
        · obtain rfl : j = B.length := by omega
          rw [List.take_length] at hM
          clear hlj
          go_wp2_with fail
          go_ret
          rw [← hres.out, ← hL.out, ← hM.out]
          exact ⟨pb, cb, rfl, hOm.out.older hk2.out.size, hk2.out.trans hkm.out⟩
end Go.Proofs.Ytmclnamgihphcaa
