/- Right lines are short; a right configuration with a right line more is right, plain. -/
import Derived.Test.YtdjmhjgfjbcdkaaU06
import Derived.Test.YtdjmhjgfjbcdkaaU08
set_option linter.unusedVariables false
set_option linter.unusedSimpArgs false
set_option linter.unusedVariables false
set_option linter.unusedSimpArgs false
namespace Go.Proofs.Ytdjmhjgfjbcdkaa
open Go.RowKit

theorem decL_len {l : List UInt8} {n : Nat} (h : decL l = some n) : l.length ≤ 9 := by
  unfold decL at h
  split at h
  · rename_i h'
    simp only [Bool.and_eq_true] at h'
    have := h'.1; unfold decShape at this; rw [decide_eq_true_eq] at this; exact this.2.1
  · cases h
theorem addrGo_len : ∀ (k n : Nat) (s : List UInt8) (m : Nat), 1 ≤ k → addrGo k n s = some m → s.length ≤ 10 * k := by
  intro k
  induction k with
  | zero => intro n s m h; omega
  | succ k ih =>
    intro n s m _ h
    by_cases hd : 46 ∈ s
    · rw [addrGo_yes hd] at h
      cases hb : decL (s.take (before 46 s)) with
      | none => rw [hb] at h; cases h
      | some b =>
        rw [hb] at h
        simp only at h
        split at h
        · rename_i hc
          have h1 := decL_len hb
          have h2 := ih _ _ _ (by omega) h
          rw [List.length_take] at h1
          rw [List.length_drop] at h2
          omega
        · cases h
    · rw [addrGo_no hd] at h
      cases hb : decL s with
      | none => rw [hb] at h; cases h
      | some b => have := decL_len hb; omega
theorem addrL_len {s : List UInt8} (h : (addrL s).isSome = true) : s.length ≤ 40 := by
  obtain ⟨m, hm⟩ := Option.isSome_iff_exists.1 h
  exact addrGo_len 4 0 s m (by omega) hm
theorem netL_len {s : List UInt8} (h : (netL s).isSome = true) : s.length ≤ 50 := by
  unfold netL at h
  split at h
  · cases ha : addrL (s.take (before 47 s)) with
    | none => rw [ha] at h; simp at h
    | some a =>
      cases hb : decL (s.drop (before 47 s + 1)) with
      | none => rw [ha, hb] at h; simp at h
      | some b =>
        have h1 := addrL_len (s := s.take (before 47 s)) (by rw [ha]; rfl)
        have h2 := decL_len hb
        rw [List.length_take] at h1
        rw [List.length_drop] at h2
        omega
  · cases h
theorem isWordB_len {s : List UInt8} (h : isWordB s = true) : s.length ≤ 31 := by
  unfold isWordB at h
  rw [Bool.and_eq_true, decide_eq_true_eq] at h
  exact h.1.2
theorem line_small {l : LineD} (h : lineB l = true) : l.name.length ≤ 100 ∧ l.leaf.length ≤ 100 ∧ l.value.length ≤ 100 := by
  unfold lineB at h
  cases hf : findD l.head l.leaf with
  | none => rw [hf] at h; cases h
  | some r =>
    rw [hf] at h
    simp only [Bool.and_eq_true] at h
    have hm : r ∈ tableD := List.mem_of_find?_eq_some hf
    have hp := List.find?_some hf
    rw [decide_eq_true_eq] at hp
    have hall : ∀ q ∈ tableD, q.name.length ≤ 30 ∧ ∀ c ∈ q.cs, c.length ≤ 30 := by decide
    obtain ⟨h1, h2⟩ := hall r hm
    refine ⟨?_, by rw [← hp.2]; omega, ?_⟩
    · have hn := h.1
      unfold namedB at hn
      split at hn
      · have : l.name = [] := by simpa using hn
        rw [this]; simp
      · split at hn
        · have := addrL_len hn; omega
        · split at hn
          · rw [Bool.and_eq_true] at hn
            have := isWordB_len hn.1; omega
          · cases hn
    · have hv := h.2
      unfold rightB at hv
      split at hv
      · have := addrL_len hv; omega
      · split at hv
        · have := netL_len hv; omega
        · split at hv
          · cases hd : decL l.value with
            | none => rw [hd] at hv; cases hv
            | some n => have := decL_len hd; omega
          · split at hv
            · have := h2 l.value (by simpa using hv); omega
            · split at hv
              · rw [Bool.and_eq_true] at hv
                have := isWordB_len hv.2; omega
              · cases hv
theorem riseB_line {ls : List LineD} : ∀ {k : Nat}, riseB ls k = true → ∀ i l, i < k → ls[i]? = some l → lineB l = true := by
  intro k
  induction k with
  | zero => intro _ i l hi; omega
  | succ k ih =>
    intro h i l hi hl
    rw [riseB, Bool.and_eq_true] at h
    by_cases e : i < k
    · exact ih h.1 i l e hl
    · obtain rfl : i = k := by omega
      have h2 := h.2
      rw [hl] at h2
      simp only [Bool.and_eq_true] at h2
      exact h2.1
theorem right_line {ls : List LineD} (h : rightC ls = true) : ∀ l ∈ ls, lineB l = true := fun l hl => by
  unfold rightC at h
  rw [Bool.and_eq_true] at h
  obtain ⟨i, hi⟩ := List.getElem?_of_mem hl
  exact riseB_line h.2 i l (List.getElem?_eq_some_iff.1 hi).1 hi
theorem right_len {ls : List LineD} (h : rightC ls = true) : ls.length ≤ 64 := by
  unfold rightC at h
  rw [Bool.and_eq_true, decide_eq_true_eq] at h
  exact h.1
theorem right_lt {ls : List LineD} (h : rightC ls = true) (m : Nat) (hm : 100 ≤ m) : LinesLt ls m := fun l hl => by
  have := line_small (right_line h l hl)
  omega
theorem rises_at {ls : List LineD} (h : rises ls) : ∀ i a b, ls[i]? = some a → ls[i + 1]? = some b → lessB a b = true := by
  induction ls with
  | nil => intro i a b ha; simp at ha
  | cons q ls ih =>
    intro i a b ha hb
    cases i with
    | zero =>
      simp at ha; subst ha
      exact rises_head h b (List.mem_of_getElem? (by simpa using hb))
    | succ i => exact ih (rises_tail h) i a b (by simpa using ha) (by simpa using hb)
theorem riseB_of {ls : List LineD} (h1 : ∀ l ∈ ls, lineB l = true) (h2 : rises ls) : ∀ k, k ≤ ls.length → riseB ls k = true := by
  intro k
  induction k with
  | zero => intro _; rfl
  | succ k ih =>
    intro hk
    rw [riseB, ih (by omega), Bool.true_and]
    have hq : ls[k]? = some ls[k] := List.getElem?_eq_getElem (by omega)
    rw [hq]
    simp only [h1 _ (List.getElem_mem _), Bool.true_and]
    cases k with
    | zero => rfl
    | succ j =>
      have hj : ls[j]? = some ls[j] := List.getElem?_eq_getElem (by omega)
      simp only [hj]
      exact rises_at h2 j _ _ hj hq
theorem right_of {ls : List LineD} (h1 : ∀ l ∈ ls, lineB l = true) (h2 : rises ls) (h3 : ls.length ≤ 64) : rightC ls = true := by
  unfold rightC
  rw [riseB_of h1 h2 _ (Nat.le_refl _)]
  simp [h3]
theorem setC_ahead {x q : LineD} {ls : List LineD} (h : lessB q x = true) : setC x (q :: ls) = q :: setC x ls := by
  have hp : posL x (q :: ls) = posL x ls + 1 := by rw [posL, if_pos h]
  have ht : thereB x (q :: ls) = thereB x ls := by unfold thereB; rw [hp]; simp
  unfold setC
  rw [hp, ht]
  split <;> simp [Nat.add_right_comm]
theorem setC_here {x q : LineD} {ls : List LineD} (h : lessB q x = false) (h2 : lessB x q = true) : setC x (q :: ls) = x :: q :: ls := by
  have hp : posL x (q :: ls) = 0 := by rw [posL, if_neg (by rw [h]; exact Bool.false_ne_true)]
  have ht : thereB x (q :: ls) = false := by unfold thereB; rw [hp]; simp [h2]
  unfold setC
  rw [hp, ht]; simp
theorem setC_same {x q : LineD} {ls : List LineD} (h : lessB q x = false) (h2 : lessB x q = false) : setC x (q :: ls) = x :: ls := by
  have hp : posL x (q :: ls) = 0 := by rw [posL, if_neg (by rw [h]; exact Bool.false_ne_true)]
  have ht : thereB x (q :: ls) = true := by unfold thereB; rw [hp]; simp [h2]
  unfold setC
  rw [hp, ht]; simp
theorem mem_setC {x l : LineD} : ∀ {ls : List LineD}, l ∈ setC x ls → l = x ∨ l ∈ ls := by
  intro ls h
  unfold setC at h
  rcases List.mem_append.1 h with h | h
  · exact .inr (List.mem_of_mem_take h)
  · rcases List.mem_cons.1 h with h | h
    · exact .inl h
    · exact .inr (List.mem_of_mem_drop h)
theorem rises_cons {a : LineD} {ls : List LineD} (h : ∀ b ∈ ls, lessB a b = true) (h2 : rises ls) : rises (a :: ls) := by
  cases ls with
  | nil => trivial
  | cons b ls => exact ⟨h b (List.mem_cons_self ..), h2⟩
theorem rises_setC {x : LineD} : ∀ {ls : List LineD}, rises ls → rises (setC x ls) := by
  intro ls
  induction ls with
  | nil => intro _; trivial
  | cons q ls ih =>
    intro h
    cases hq : lessB q x with
    | true =>
      rw [setC_ahead hq]
      refine rises_cons (fun b hb => ?_) (ih (rises_tail h))
      rcases mem_setC hb with rfl | hb
      · exact hq
      · exact rises_head h b hb
    | false =>
      cases hx : lessB x q with
      | true =>
        rw [setC_here hq hx]
        exact rises_cons (fun b hb => by
          rcases List.mem_cons.1 hb with rfl | hb
          · exact hx
          · exact less_trans hx (rises_head h b hb)) h
      | false =>
        rw [setC_same hq hx]
        exact rises_cons (fun b hb => le_trans_less hq (rises_head h b hb)) (rises_tail h)
theorem right_setC {x : LineD} {ls : List LineD} (h : rightC ls = true) (hx : lineB x = true) (hl : (setC x ls).length ≤ 64) : rightC (setC x ls) = true :=
  right_of (fun l hl => by
    rcases mem_setC hl with rfl | hl
    · exact hx
    · exact right_line h l hl) (rises_setC (right_rises h)) hl
/-- what Build makes -/
def stepB (c : List LineD) (x : LineD) : List LineD := if lineB x = true ∧ (setC x c).length ≤ 64 then setC x c else c
def buildC (ls : List LineD) : List LineD := (ls.take 100).foldl stepB []
theorem stepB_right {c : List LineD} (x : LineD) (h : rightC c = true) : rightC (stepB c x) = true := by
  unfold stepB
  split
  · rename_i h2; exact right_setC h h2.1 h2.2
  · exact h
theorem fold_right : ∀ (ls c : List LineD), rightC c = true → rightC (ls.foldl stepB c) = true := by
  intro ls
  induction ls with
  | nil => intro c h; exact h
  | cons x ls ih => intro c h; rw [List.foldl_cons]; exact ih _ (stepB_right x h)
theorem build_right (ls : List LineD) : rightC (buildC ls) = true := fold_right _ _ (by decide +kernel)
end Go.Proofs.Ytdjmhjgfjbcdkaa
/- The document's Set of a wrong line; the law's Build, walked (gen_cgf.py). -/
set_option linter.unusedVariables false
set_option linter.unusedSimpArgs false
namespace Go.Proofs.Ytdjmhjgfjbcdkaa
open Go.RowKit

set_option maxRecDepth 100000 in
set_option maxHeartbeats 4000000 in
theorem rSet_no (v : Value) (ls : List LineD) (h : Int) (N F V : ByteArray) (w : World) (hv : Hid (RowsAt 4 lineVals w v ls)) (hlt : Hid (LinesLt ls 8796093022000)) (hn : N.size ≤ 8796093022000) (hvs : V.size ≤ 8796093022000)
    (hlen : ls.length ≤ 64) (hr : Hid (rightC ls = true)) (hx : Hid (lineB ⟨h, N.data.toList, F.data.toList, V.data.toList⟩ = false)) :
    Calls Try.prog 14 #[v, .agg #[.int .i64 h, .string N, .string F, .string V]] w (NewRes (.tuple #[.slice none 0 0, .int .i64 1]) w) := by
  obtain ⟨p, c, rfl⟩ := hv.out.slice
  have hLn := Lib.hid hv.out.lines
  have hB : Hid (BlkAt (w.alloc (.cells #[.int .i64 h, .string N, .string F, .string V] 28)) w.heap.size 28 [.int .i64 h, .string N, .string F, .string V]) := Lib.hid (BlkAt.new _ _ _)
  have hK0 : Hid (Keeps (fun _ => False) w (w.alloc (.cells #[.int .i64 h, .string N, .string F, .string V] 28))) := Lib.hid ((Keeps.refl _ _).alloc _)
  go_enter Try.func14, Try.ntmps14
  go_upto_region 1 with fail
  generalize w.alloc (.cells #[.int .i64 h, .string N, .string F, .string V] 28) = w1 at hB hK0 ⊢
  generalize hgb : w.heap.size = gb at hB ⊢
  clear hgb
  go_wp2_with fail
  refine (rRight_c _ ls true _ (Lib.hid (hLn.out.keep hK0.out (fun _ _ _ f => f))) (by omega) hlt hr).mono ?_
  rintro e w2 ⟨rfl, k2⟩
  have k2' := Lib.hid k2
  clear k2
  have hB2 := Lib.hid (hB.out.keep k2'.out id)
  go_wp2_with ((with_reducible refine at_slot 13 ?_); refine wpList_load_mid_g (by rfl) 28 (.tmp 3) rfl gb 0 rfl [.int .i64 h, .string N, .string F, .string V] _ hB2.out.range Try.underlying28 rfl line5InfoG ?_)
  refine (rRightLine_any h N F V false _ hn hvs hx).mono ?_
  rintro e w3 ⟨rfl, k3⟩
  have hK3 := Lib.hid (hK0.out.trans (k2'.out.trans k3))
  clear k3 k2' hB hB2 hK0 hLn
  go_wp2_with fail
  go_ret2
  exact ⟨rfl, hK3.out⟩

def bK (ls : List LineD) (k : Nat) : List LineD := (ls.take k).foldl stepB []
theorem bK_step {q : LineD} {ls : List LineD} {k : Nat} (hq : ls[k]? = some q) : bK ls (k + 1) = stepB (bK ls k) q := by
  obtain ⟨hk, e⟩ := List.getElem?_eq_some_iff.1 hq
  unfold bK
  rw [List.take_succ_eq_append_getElem hk, e, List.foldl_append]; rfl
theorem bK_right (ls : List LineD) (k : Nat) : rightC (bK ls k) = true := fold_right _ _ (by decide +kernel)

set_option maxRecDepth 100000 in
set_option maxHeartbeats 4000000 in
theorem build_any (v : Value) (ls : List LineD) (w : World) (hv : Hid (RowsAt 4 lineVals w v ls)) (hl : ls.length ≤ 1000000000000) (hlt : Hid (LinesLt ls 8796093022000)) :
    Calls Try.prog 31 #[v] w (CopyPost 28 (buildC ls) w) := by
  obtain ⟨p, c, rfl⟩ := hv.out.slice
  go_enter Try.func31, Try.ntmps31
  go_wp2_with fail
  go_loopw [4, 3] (fun iv cv wr => ∃ (k : Nat) (q : Option Addr) (d : Nat), k ≤ ls.length ∧ k ≤ 100 ∧ iv = .int .i64 k ∧ cv = .slice q (bK ls k).length d ∧ Hid (OwnR 28 4 lineVals w wr cv (bK ls k)) ∧ Hid (Keeps (fun _ => False) w wr)) (fun iv _ _ => 100 - (intOf iv).toNat)
  case atStart => exact ⟨0, none, 0, by omega, by omega, rfl, rfl, Lib.hid (OwnR.nil _ _ (Nat.le_refl _)), Lib.hid (Keeps.refl _ _)⟩
  case round =>
    obtain ⟨k, qa, d, hk, hk2, rfl, rfl, hO, hKw⟩ := hrel
    have hbr := Lib.hid (bK_right ls k)
    generalize hbk : bK ls k = B at hO hbr ⊢
    have hbk' := Lib.hid hbk
    clear hbk
    by_cases hlk : k < ls.length
    · by_cases h100 : k < 100
      · obtain ⟨g, o, rfl, hrows⟩ := hv.out.open (by omega)
        obtain ⟨q, hq⟩ : ∃ q, ls[k]? = some q := ⟨_, List.getElem?_eq_getElem hlk⟩
        have hsz := hlt.out q (List.mem_of_getElem? hq)
        obtain ⟨Nq, hN⟩ : ∃ N : ByteArray, N = ⟨q.name.toArray⟩ := ⟨_, rfl⟩
        obtain ⟨Fq, hF⟩ : ∃ N : ByteArray, N = ⟨q.leaf.toArray⟩ := ⟨_, rfl⟩
        obtain ⟨Vq, hV⟩ : ∃ N : ByteArray, N = ⟨q.value.toArray⟩ := ⟨_, rfl⟩
        have hNs : Nq.size ≤ 8796093022000 := by rw [hN]; exact hsz.1
        have hVs : Vq.size ≤ 8796093022000 := by rw [hV]; exact hsz.2.2
        have hrow : Hid (wr.rangeAt g (o + k * 4) [.int .i64 q.head, .string Nq, .string Fq, .string Vq]) := Lib.hid (by rw [hN, hF, hV]; exact hKw.out.rangeAt (hrows k q hq) id)
        have hqd : Hid (q = ⟨q.head, Nq.data.toList, Fq.data.toList, Vq.data.toList⟩) := Lib.hid (by rw [hN, hF, hV])
        have hstep := Lib.hid (bK_step hq)
        rw [hbk'.out] at hstep
        have m1 : (0 : Int) ≤ (k : Int) := by omega
        have m2 : (k : Int) < (ls.length : Int) := by omega
        have hR : Hid (RowsAt 4 lineVals wr (.slice qa B.length d) B) := Lib.hid (hO.out.at lineVals_len)
        have hB64 := right_len hbr.out
        have hBlt := Lib.hid (right_lt hbr.out 8796093022000 (by omega))
        clear hrows hN hF hV hq hsz
        go_wp2_with ((with_reducible refine at_slot 22 ?_); refine wpList_load_mid rfl 28 (.tmp 21) rfl g (o + k * 4) rfl [.int .i64 q.head, .string Nq, .string Fq, .string Vq] _ hrow.out Try.underlying28 rfl line5InfoG ?_)
        cases hz : lineB ⟨q.head, Nq.data.toList, Fq.data.toList, Vq.data.toList⟩ with
        | false =>
          have hz' := Lib.hid hz
          have hsame : Hid (bK ls (k + 1) = B) := Lib.hid (by rw [hstep.out]; unfold stepB; rw [if_neg]; rw [hqd.out, hz]; simp)
          clear hz
          refine (rSet_no _ B q.head Nq Fq Vq wr hR hBlt hNs hVs hB64 hbr hz').mono ?_
          rintro e w3 ⟨rfl, k3⟩
          have hO3 := Lib.hid (hO.out.keep k3 (fun _ _ f => f))
          have hK3 := Lib.hid (hKw.out.trans k3)
          clear k3
          go_wp2_with fail
          exact ⟨⟨k + 1, qa, d, by omega, by omega, by go_num, by rw [hsame.out], by rw [hsame.out]; exact hO3, hK3⟩, by simp [intOf]; omega⟩
        | true =>
          have hz' := Lib.hid hz
          clear hz
          refine (rSet_c _ B q.head Nq Fq Vq wr hR hBlt hNs hVs hB64 hbr hz').mono ?_
          rintro e w3 ⟨p1, p2, k3⟩
          rw [← hqd.out] at p1 p2
          have hK3 := Lib.hid (hKw.out.trans k3)
          by_cases h65 : (setC q B).length ≤ 64
          · obtain ⟨q3, d3, rfl, hO3⟩ := p1 h65
            have hsame : Hid (bK ls (k + 1) = setC q B) := Lib.hid (by rw [hstep.out]; unfold stepB; rw [if_pos]; exact ⟨by rw [hqd.out]; exact hz'.out, h65⟩)
            have hO3' := Lib.hid (hO3.older (w0 := w) hKw.out.size)
            clear hO3 k3 p1 p2 h65
            go_wp2_with fail
            exact ⟨⟨k + 1, q3, d3, by omega, by omega, by go_num, by rw [hsame.out], by rw [hsame.out]; exact hO3', hK3⟩, by simp [intOf]; omega⟩
          · obtain rfl := p2 (by omega)
            have hsame : Hid (bK ls (k + 1) = B) := Lib.hid (by rw [hstep.out]; unfold stepB; rw [if_neg]; exact fun e => h65 e.2)
            have hO3 := Lib.hid (hO.out.keep k3 (fun _ _ f => f))
            clear k3 p1 p2 h65
            go_wp2_with fail
            exact ⟨⟨k + 1, qa, d, by omega, by omega, by go_num, by rw [hsame.out], by rw [hsame.out]; exact hO3, hK3⟩, by simp [intOf]; omega⟩
      · obtain rfl : k = 100 := by omega
        have hend : Hid (buildC ls = B) := Lib.hid (by rw [← hbk'.out]; rfl)
        clear h100 hk2
        go_wp2_with fail
        go_ret
        rw [hend.out]
        exact ⟨qa, d, rfl, hO.out, hKw.out⟩
    · obtain rfl : k = ls.length := by omega
      have hend : Hid (buildC ls = B) := Lib.hid (by
        rw [← hbk'.out]; unfold buildC bK
        rw [List.take_of_length_le hk2, List.take_length])
      go_wp2_with fail
      go_ret
      rw [hend.out]
      exact ⟨qa, d, rfl, hO.out, hKw.out⟩
end Go.Proofs.Ytdjmhjgfjbcdkaa
/- Delete, the code's and the document's, of a right configuration (gen_cgh.py). -/
set_option linter.unusedVariables false
set_option linter.unusedSimpArgs false
namespace Go.Proofs.Ytdjmhjgfjbcdkaa
open Go.RowKit

def keepB (h : Int) (n l : List UInt8) (q : LineD) : Bool := decide (q.head ≠ h) || decide (q.name ≠ n) || (decide (l ≠ []) && decide (q.leaf ≠ l))
def delC (h : Int) (n l : List UInt8) (ls : List LineD) : List LineD := ls.filter (keepB h n l)
def dK (h : Int) (n l : List UInt8) (ls : List LineD) (k : Nat) : List LineD := (ls.take k).filter (keepB h n l)
theorem dK_step {h : Int} {n l : List UInt8} {q : LineD} {ls : List LineD} {k : Nat} (hq : ls[k]? = some q) : dK h n l ls (k + 1) = dK h n l ls k ++ (if keepB h n l q = true then [q] else []) := by
  obtain ⟨hk, e⟩ := List.getElem?_eq_some_iff.1 hq
  unfold dK
  rw [List.take_succ_eq_append_getElem hk, e, List.filter_append]
  congr 1
  simp [List.filter_cons]
theorem dK_len (h : Int) (n l : List UInt8) (ls : List LineD) (k : Nat) : (dK h n l ls k).length ≤ k := by
  have h1 := List.length_filter_le (keepB h n l) (ls.take k)
  rw [List.length_take] at h1
  unfold dK
  omega
def DelPost (t : TypeId) (zs : List LineD) (n : Nat) (w : World) (e : Ending) (w' : World) : Prop :=
  (zs.length = n → e = .returned (.tuple #[.slice none 0 0, .int .i64 6])) ∧ (zs.length ≠ n → ∃ p c, e = .returned (.tuple #[.slice p zs.length c, .int .i64 0]) ∧ OwnR t 4 lineVals w w' (.slice p zs.length c) zs) ∧ Keeps (fun _ => False) w w'
theorem bne_list {a b : ByteArray} (h : a.data.toList ≠ b.data.toList) : (a.toList == b.toList) = false := by rw [Lib.toList_data, Lib.toList_data]; simpa using h
theorem beq_list {a b : ByteArray} (h : a.data.toList = b.data.toList) : (a.toList == b.toList) = true := by rw [Lib.toList_data, Lib.toList_data]; simpa using h
theorem empty_list {a : ByteArray} (h : a.data.toList = []) : a.toList.isEmpty = true := by rw [Lib.toList_data, h]; rfl
theorem nonempty_list {a : ByteArray} (h : a.data.toList ≠ []) : a.toList.isEmpty = false := by rw [Lib.toList_data]; cases hh : a.data.toList with | nil => exact absurd hh h | cons => rfl

set_option maxRecDepth 100000 in
set_option maxHeartbeats 8000000 in
theorem del_c (v : Value) (ls : List LineD) (h : Int) (N L : ByteArray) (w : World) (hv : Hid (RowsAt 4 lineVals w v ls)) (hlt : Hid (LinesLt ls 9223372036854775807)) (hlen : ls.length ≤ 64) (hr : Hid (rightC ls = true)) :
    Calls Try.prog 9 #[v, .int .i64 h, .string N, .string L] w (DelPost 36 (delC h N.data.toList L.data.toList ls) ls.length w) := by
  obtain ⟨p, c, rfl⟩ := hv.out.slice
  obtain ⟨i0, hi0, hi1, hi2, hi3⟩ := lineAll
  have hLn := Lib.hid hv.out.lines
  go_enter Try.func9, Try.ntmps9
  go_wp2_with fail
  refine (right_c _ ls true _ hLn (by omega) hlt hr).mono ?_
  rintro e w2 ⟨rfl, k2⟩
  have hK2 := Lib.hid k2
  have hv2 := Lib.hid (hv.out.keep k2)
  clear k2 hLn hlt hr
  go_wp2_with fail
  go_loopw [18, 10] (fun iv ov wr => ∃ (k : Nat) (q : Option Addr) (d : Nat), k ≤ ls.length ∧ iv = .int .i64 k ∧ ov = .slice q (dK h N.data.toList L.data.toList ls k).length d ∧ Hid (OwnR 36 4 lineVals w2 wr ov (dK h N.data.toList L.data.toList ls k)) ∧ Hid (Keeps (fun _ => False) w2 wr)) (fun iv _ _ => ls.length - (intOf iv).toNat)
  case atStart => exact ⟨0, none, 0, by omega, rfl, rfl, Lib.hid (OwnR.nil _ _ (Nat.le_refl _)), Lib.hid (Keeps.refl _ _)⟩
  case round =>
    obtain ⟨k, qa, d, hk, rfl, rfl, hO, hKw⟩ := hrel
    have hdl := dK_len h N.data.toList L.data.toList ls k
    generalize hdk : dK h N.data.toList L.data.toList ls k = D at hO hdl ⊢
    have hdk' := Lib.hid hdk
    clear hdk
    by_cases hlk : k < ls.length
    · obtain ⟨g, o, rfl, hrows⟩ := hv2.out.open (by omega)
      obtain ⟨q, hq⟩ : ∃ q, ls[k]? = some q := ⟨_, List.getElem?_eq_getElem hlk⟩
      obtain ⟨Nq, hN⟩ : ∃ N : ByteArray, N = ⟨q.name.toArray⟩ := ⟨_, rfl⟩
      obtain ⟨Fq, hF⟩ : ∃ N : ByteArray, N = ⟨q.leaf.toArray⟩ := ⟨_, rfl⟩
      obtain ⟨Vq, hV⟩ : ∃ N : ByteArray, N = ⟨q.value.toArray⟩ := ⟨_, rfl⟩
      have hrow : Hid (wr.rangeAt g (o + k * 4) [.int .i64 q.head, .string Nq, .string Fq, .string Vq]) := Lib.hid (by rw [hN, hF, hV]; exact hKw.out.rangeAt (hrows k q hq) id)
      have hqd : Hid (q = ⟨q.head, Nq.data.toList, Fq.data.toList, Vq.data.toList⟩) := Lib.hid (by rw [hN, hF, hV])
      have hstep := Lib.hid (dK_step (h := h) (n := N.data.toList) (l := L.data.toList) hq)
      rw [hdk'.out] at hstep
      have hdl' := Lib.hid hdl
      have m1 : (0 : Int) ≤ (k : Int) := by omega
      have m2 : (k : Int) < (ls.length : Int) := by omega
      clear hrows hN hF hV hq hdl hdk'
      have hBx : Hid (BlkAt (wr.alloc (.cells #[.int .i64 q.head, .string Nq, .string Fq, .string Vq] 36)) wr.heap.size 36 [.int .i64 q.head, .string Nq, .string Fq, .string Vq]) := Lib.hid (BlkAt.new _ _ _)
      have hkx : Hid (Keeps (fun _ => False) w2 (wr.alloc (.cells #[.int .i64 q.head, .string Nq, .string Fq, .string Vq] 36))) := Lib.hid (hKw.out.alloc _)
      have hOx : Hid (OwnR 36 4 lineVals w2 (wr.alloc (.cells #[.int .i64 q.head, .string Nq, .string Fq, .string Vq] 36)) (.slice qa D.length d) D) := Lib.hid (hO.out.keep ((Keeps.refl (fun _ => False) _).alloc _) (fun _ _ f => f))
      go_upto_region 7 with (first | ((with_reducible refine at_slot 21 ?_); refine wpList_load_mid rfl 36 (.tmp 20) rfl g (o + k * 4) rfl [.int .i64 q.head, .string Nq, .string Fq, .string Vq] _ hrow.out Try.underlying36 rfl lineInfo ?_) | ((with_reducible refine at_store 12 ?_); refine wpList_store_new rfl 36 (.tmp 12) (.tmp 21) rfl _ #[.int .i64 q.head, .string Nq, .string Fq, .string Vq] rfl rfl lineInfo rfl (line_one _ _ _ _) ?_))
      generalize hgx : wr.heap.size = gx at hBx ⊢
      generalize hWx : wr.alloc (.cells #[.int .i64 q.head, .string Nq, .string Fq, .string Vq] 36) = W0 at hBx hkx hOx ⊢
      clear hgx hWx hO hKw hrow
      have c0 := hBx.out.cell 0 _ rfl
      have c1 := hBx.out.cell 1 _ rfl
      have c2 := hBx.out.cell 2 _ rfl
      by_cases a1 : q.head = h
      · have e1 : (q.head != h) = false := by simp [a1]
        have a1' := Lib.hid a1; clear a1
        by_cases a2 : Nq.data.toList = N.data.toList
        · have e2 := beq_list a2
          have a2' := Lib.hid a2; clear a2
          by_cases a3 : L.data.toList = []
          · have e3 := empty_list a3
            have a3' := Lib.hid a3; clear a3
            have hsame : Hid (dK h N.data.toList L.data.toList ls (k + 1) = D) := Lib.hid (by
              rw [hstep.out, if_neg, List.append_nil]
              rw [hqd.out]; unfold keepB; simp [a1'.out, a2'.out, a3'.out])
            go_wp2_with fail
            refine ⟨⟨k + 1, qa, d, by omega, by go_num, by rw [hsame.out], by rw [hsame.out]; exact hOx, hkx⟩, by simp [intOf]; omega⟩
          · have e3 := nonempty_list a3
            have a3' := Lib.hid a3; clear a3
            by_cases a4 : Fq.data.toList = L.data.toList
            · have e4 := beq_list a4
              have a4' := Lib.hid a4; clear a4
              have hsame : Hid (dK h N.data.toList L.data.toList ls (k + 1) = D) := Lib.hid (by
                rw [hstep.out, if_neg, List.append_nil]
                rw [hqd.out]; unfold keepB; simp [a1'.out, a2'.out, a4'.out])
              go_wp2_with fail
              refine ⟨⟨k + 1, qa, d, by omega, by go_num, by rw [hsame.out], by rw [hsame.out]; exact hOx, hkx⟩, by simp [intOf]; omega⟩
            · have e4 := bne_list a4
              have a4' := Lib.hid a4; clear a4
              have b4 : (Fq.data.toList ≠ L.data.toList) := a4'.out
              have b3 : (L.data.toList ≠ []) := a3'.out
              have hkk : Hid (keepB h N.data.toList L.data.toList ⟨q.head, Nq.data.toList, Fq.data.toList, Vq.data.toList⟩ = true) := Lib.hid (by unfold keepB; simp [b3, b4])
              clear b3 b4
              have hsame : Hid (dK h N.data.toList L.data.toList ls (k + 1) = D ++ [(⟨q.head, Nq.data.toList, Fq.data.toList, Vq.data.toList⟩ : LineD)]) := Lib.hid (by
                rw [hstep.out, if_pos, ← hqd.out]
                rw [hqd.out]; exact hkk.out)
              go_wp2_with (first | ((with_reducible refine at_slot 43 ?_); refine wpList_load_mid rfl 36 (.tmp 12) rfl gx 0 rfl [.int .i64 q.head, .string Nq, .string Fq, .string Vq] _ hBx.out.range Try.underlying36 rfl lineInfo ?_) | ((with_reducible refine at_slot 45 ?_); go_must (refine wpList_append_r rfl (.tmp 42) (.tmp 44) 25 36 rfl i0 _ 56 Try.underlying25 hi0 hi1 hi2 hi3 rfl (by decide) (by decide) lineVals_len w2 _ D.length D rfl rfl (hOx.out.keep ((Keeps.refl (fun _ => False) _).alloc _) (fun _ _ f => f)) _ rfl ⟨q.head, Nq.data.toList, Fq.data.toList, Vq.data.toList⟩ (cells_new rfl _ _) (lineVals_one _) (by have := hdl'.out; omega) ?_); intro q8 d8 w8 hO8 hg8))
              have hK8 := Lib.hid (OwnR.keeps (hOx.out.keep ((Keeps.refl (fun _ => False) _).alloc _) (fun _ _ f => f)) (hkx.out.alloc _) hg8.out)
              refine ⟨⟨k + 1, q8, d8, by omega, by go_num, by rw [hsame.out]; simp, by rw [hsame.out]; exact hO8, hK8⟩, by simp [intOf]; omega⟩
        · have e2 := bne_list a2
          have a2' := Lib.hid a2; clear a2
          have b4 : (Nq.data.toList ≠ N.data.toList) := a2'.out
          have hkk : Hid (keepB h N.data.toList L.data.toList ⟨q.head, Nq.data.toList, Fq.data.toList, Vq.data.toList⟩ = true) := Lib.hid (by unfold keepB; simp [b4])
          clear b4
          have hsame : Hid (dK h N.data.toList L.data.toList ls (k + 1) = D ++ [(⟨q.head, Nq.data.toList, Fq.data.toList, Vq.data.toList⟩ : LineD)]) := Lib.hid (by
            rw [hstep.out, if_pos, ← hqd.out]
            rw [hqd.out]; exact hkk.out)
          go_wp2_with (first | ((with_reducible refine at_slot 43 ?_); refine wpList_load_mid rfl 36 (.tmp 12) rfl gx 0 rfl [.int .i64 q.head, .string Nq, .string Fq, .string Vq] _ hBx.out.range Try.underlying36 rfl lineInfo ?_) | ((with_reducible refine at_slot 45 ?_); go_must (refine wpList_append_r rfl (.tmp 42) (.tmp 44) 25 36 rfl i0 _ 56 Try.underlying25 hi0 hi1 hi2 hi3 rfl (by decide) (by decide) lineVals_len w2 _ D.length D rfl rfl (hOx.out.keep ((Keeps.refl (fun _ => False) _).alloc _) (fun _ _ f => f)) _ rfl ⟨q.head, Nq.data.toList, Fq.data.toList, Vq.data.toList⟩ (cells_new rfl _ _) (lineVals_one _) (by have := hdl'.out; omega) ?_); intro q8 d8 w8 hO8 hg8))
          have hK8 := Lib.hid (OwnR.keeps (hOx.out.keep ((Keeps.refl (fun _ => False) _).alloc _) (fun _ _ f => f)) (hkx.out.alloc _) hg8.out)
          refine ⟨⟨k + 1, q8, d8, by omega, by go_num, by rw [hsame.out]; simp, by rw [hsame.out]; exact hO8, hK8⟩, by simp [intOf]; omega⟩
      · have e1 : (q.head != h) = true := by simp [a1]
        have hkk : Hid (keepB h N.data.toList L.data.toList ⟨q.head, Nq.data.toList, Fq.data.toList, Vq.data.toList⟩ = true) := Lib.hid (by unfold keepB; simp [a1])
        clear a1
        have hsame : Hid (dK h N.data.toList L.data.toList ls (k + 1) = D ++ [(⟨q.head, Nq.data.toList, Fq.data.toList, Vq.data.toList⟩ : LineD)]) := Lib.hid (by
          rw [hstep.out, if_pos, ← hqd.out]
          rw [hqd.out]; exact hkk.out)
        go_wp2_with (first | ((with_reducible refine at_slot 43 ?_); refine wpList_load_mid rfl 36 (.tmp 12) rfl gx 0 rfl [.int .i64 q.head, .string Nq, .string Fq, .string Vq] _ hBx.out.range Try.underlying36 rfl lineInfo ?_) | ((with_reducible refine at_slot 45 ?_); go_must (refine wpList_append_r rfl (.tmp 42) (.tmp 44) 25 36 rfl i0 _ 56 Try.underlying25 hi0 hi1 hi2 hi3 rfl (by decide) (by decide) lineVals_len w2 _ D.length D rfl rfl (hOx.out.keep ((Keeps.refl (fun _ => False) _).alloc _) (fun _ _ f => f)) _ rfl ⟨q.head, Nq.data.toList, Fq.data.toList, Vq.data.toList⟩ (cells_new rfl _ _) (lineVals_one _) (by have := hdl'.out; omega) ?_); intro q8 d8 w8 hO8 hg8))
        have hK8 := Lib.hid (OwnR.keeps (hOx.out.keep ((Keeps.refl (fun _ => False) _).alloc _) (fun _ _ f => f)) (hkx.out.alloc _) hg8.out)
        refine ⟨⟨k + 1, q8, d8, by omega, by go_num, by rw [hsame.out]; simp, by rw [hsame.out]; exact hO8, hK8⟩, by simp [intOf]; omega⟩
    · obtain rfl : k = ls.length := by omega
      have hend : Hid (delC h N.data.toList L.data.toList ls = D) := Lib.hid (by rw [← hdk'.out]; unfold delC dK; rw [List.take_length])
      clear hlk hk hdl
      by_cases hsz : D.length = ls.length
      · have e5 : ((D.length : Int) == ls.length) = true := by simp [hsz]
        have hsz' := Lib.hid hsz
        clear hsz
        go_wp2_with fail
        go_ret2
        rw [hend.out]
        exact ⟨fun _ => rfl, fun hh => absurd hsz'.out hh, hK2.out.trans hKw.out⟩
      · have e5 : ((D.length : Int) == ls.length) = false := by simp; omega
        have hsz' := Lib.hid hsz
        clear hsz
        go_wp2_with fail
        go_ret2
        rw [hend.out]
        exact ⟨fun hh => absurd hh hsz'.out, fun _ => ⟨qa, d, rfl, hO.out.older hK2.out.size⟩, hK2.out.trans hKw.out⟩

set_option maxRecDepth 100000 in
set_option maxHeartbeats 8000000 in
theorem rDel_c (v : Value) (ls : List LineD) (h : Int) (N L : ByteArray) (w : World) (hv : Hid (RowsAt 4 lineVals w v ls)) (hlt : Hid (LinesLt ls 8796093022000)) (hlen : ls.length ≤ 64) (hr : Hid (rightC ls = true)) :
    Calls Try.prog 10 #[v, .int .i64 h, .string N, .string L] w (DelPost 28 (delC h N.data.toList L.data.toList ls) ls.length w) := by
  obtain ⟨p, c, rfl⟩ := hv.out.slice
  obtain ⟨i0, hi0, hi1, hi2, hi3⟩ := line5All
  have hLn := Lib.hid hv.out.lines
  go_enter Try.func10, Try.ntmps10
  go_wp2_with fail
  refine (rRight_c _ ls true _ hLn (by omega) hlt hr).mono ?_
  rintro e w2 ⟨rfl, k2⟩
  have hK2 := Lib.hid k2
  have hv2 := Lib.hid (hv.out.keep k2)
  clear k2 hLn hlt hr
  go_wp2_with fail
  go_loopw [11, 10] (fun iv ov wr => ∃ (k : Nat) (q : Option Addr) (d : Nat), k ≤ ls.length ∧ iv = .int .i64 k ∧ ov = .slice q (dK h N.data.toList L.data.toList ls k).length d ∧ Hid (OwnR 28 4 lineVals w2 wr ov (dK h N.data.toList L.data.toList ls k)) ∧ Hid (Keeps (fun _ => False) w2 wr)) (fun iv _ _ => ls.length - (intOf iv).toNat)
  case atStart => exact ⟨0, none, 0, by omega, rfl, rfl, Lib.hid (OwnR.nil _ _ (Nat.le_refl _)), Lib.hid (Keeps.refl _ _)⟩
  case round =>
    obtain ⟨k, qa, d, hk, rfl, rfl, hO, hKw⟩ := hrel
    have hdl := dK_len h N.data.toList L.data.toList ls k
    generalize hdk : dK h N.data.toList L.data.toList ls k = D at hO hdl ⊢
    have hdk' := Lib.hid hdk
    clear hdk
    by_cases hlk : k < ls.length
    · obtain ⟨g, o, rfl, hrows⟩ := hv2.out.open (by omega)
      obtain ⟨q, hq⟩ : ∃ q, ls[k]? = some q := ⟨_, List.getElem?_eq_getElem hlk⟩
      obtain ⟨Nq, hN⟩ : ∃ N : ByteArray, N = ⟨q.name.toArray⟩ := ⟨_, rfl⟩
      obtain ⟨Fq, hF⟩ : ∃ N : ByteArray, N = ⟨q.leaf.toArray⟩ := ⟨_, rfl⟩
      obtain ⟨Vq, hV⟩ : ∃ N : ByteArray, N = ⟨q.value.toArray⟩ := ⟨_, rfl⟩
      have hrow : Hid (wr.rangeAt g (o + k * 4) [.int .i64 q.head, .string Nq, .string Fq, .string Vq]) := Lib.hid (by rw [hN, hF, hV]; exact hKw.out.rangeAt (hrows k q hq) id)
      have hqd : Hid (q = ⟨q.head, Nq.data.toList, Fq.data.toList, Vq.data.toList⟩) := Lib.hid (by rw [hN, hF, hV])
      have hstep := Lib.hid (dK_step (h := h) (n := N.data.toList) (l := L.data.toList) hq)
      rw [hdk'.out] at hstep
      have hdl' := Lib.hid hdl
      have m1 : (0 : Int) ≤ (k : Int) := by omega
      have m2 : (k : Int) < (ls.length : Int) := by omega
      clear hrows hN hF hV hq hdl hdk'
      have hkx := hKw
      have hOx := hO
      generalize wr = W0 at hkx hOx hrow ⊢
      have c0 : W0.cell? ⟨g, o + k * 4, none⟩ = some (.int .i64 q.head) := hrow.out 0 _ rfl
      have c1 : W0.cell? ⟨g, o + k * 4 + 1, none⟩ = some (.string Nq) := hrow.out 1 _ rfl
      have c2 : W0.cell? ⟨g, o + k * 4 + 2, none⟩ = some (.string Fq) := hrow.out 2 _ rfl
      clear hO hKw
      by_cases a1 : q.head = h
      · have e1 : (q.head != h) = false := by simp [a1]
        have a1' := Lib.hid a1; clear a1
        by_cases a2 : Nq.data.toList = N.data.toList
        · have e2 := beq_list a2
          have a2' := Lib.hid a2; clear a2
          by_cases a3 : L.data.toList = []
          · have e3 := empty_list a3
            have a3' := Lib.hid a3; clear a3
            have hsame : Hid (dK h N.data.toList L.data.toList ls (k + 1) = D) := Lib.hid (by
              rw [hstep.out, if_neg, List.append_nil]
              rw [hqd.out]; unfold keepB; simp [a1'.out, a2'.out, a3'.out])
            go_wp2_with fail
            refine ⟨⟨k + 1, qa, d, by omega, by go_num, by rw [hsame.out], by rw [hsame.out]; exact hOx, hkx⟩, by simp [intOf]; omega⟩
          · have e3 := nonempty_list a3
            have a3' := Lib.hid a3; clear a3
            by_cases a4 : Fq.data.toList = L.data.toList
            · have e4 := beq_list a4
              have a4' := Lib.hid a4; clear a4
              have hsame : Hid (dK h N.data.toList L.data.toList ls (k + 1) = D) := Lib.hid (by
                rw [hstep.out, if_neg, List.append_nil]
                rw [hqd.out]; unfold keepB; simp [a1'.out, a2'.out, a4'.out])
              go_wp2_with fail
              refine ⟨⟨k + 1, qa, d, by omega, by go_num, by rw [hsame.out], by rw [hsame.out]; exact hOx, hkx⟩, by simp [intOf]; omega⟩
            · have e4 := bne_list a4
              have a4' := Lib.hid a4; clear a4
              have b4 : (Fq.data.toList ≠ L.data.toList) := a4'.out
              have b3 : (L.data.toList ≠ []) := a3'.out
              have hkk : Hid (keepB h N.data.toList L.data.toList ⟨q.head, Nq.data.toList, Fq.data.toList, Vq.data.toList⟩ = true) := Lib.hid (by unfold keepB; simp [b3, b4])
              clear b3 b4
              have hsame : Hid (dK h N.data.toList L.data.toList ls (k + 1) = D ++ [(⟨q.head, Nq.data.toList, Fq.data.toList, Vq.data.toList⟩ : LineD)]) := Lib.hid (by
                rw [hstep.out, if_pos, ← hqd.out]
                rw [hqd.out]; exact hkk.out)
              go_wp2_with (first | ((with_reducible refine at_slot 54 ?_); refine wpList_load_mid rfl 28 (.tmp 53) rfl g (o + k * 4) rfl [.int .i64 q.head, .string Nq, .string Fq, .string Vq] _ hrow.out Try.underlying28 rfl line5InfoG ?_) | ((with_reducible refine at_slot 56 ?_); go_must (refine wpList_append_r rfl (.tmp 50) (.tmp 55) 22 28 rfl i0 _ 56 Try.underlying22 hi0 hi1 hi2 hi3 rfl (by decide) (by decide) lineVals_len w2 _ D.length D rfl rfl (hOx.out.keep ((Keeps.refl (fun _ => False) _).alloc _) (fun _ _ f => f)) _ rfl ⟨q.head, Nq.data.toList, Fq.data.toList, Vq.data.toList⟩ (cells_new rfl _ _) (lineVals_one _) (by have := hdl'.out; omega) ?_); intro q8 d8 w8 hO8 hg8))
              have hK8 := Lib.hid (OwnR.keeps (hOx.out.keep ((Keeps.refl (fun _ => False) _).alloc _) (fun _ _ f => f)) (hkx.out.alloc _) hg8.out)
              refine ⟨⟨k + 1, q8, d8, by omega, by go_num, by rw [hsame.out]; simp, by rw [hsame.out]; exact hO8, hK8⟩, by simp [intOf]; omega⟩
        · have e2 := bne_list a2
          have a2' := Lib.hid a2; clear a2
          have b4 : (Nq.data.toList ≠ N.data.toList) := a2'.out
          have hkk : Hid (keepB h N.data.toList L.data.toList ⟨q.head, Nq.data.toList, Fq.data.toList, Vq.data.toList⟩ = true) := Lib.hid (by unfold keepB; simp [b4])
          clear b4
          have hsame : Hid (dK h N.data.toList L.data.toList ls (k + 1) = D ++ [(⟨q.head, Nq.data.toList, Fq.data.toList, Vq.data.toList⟩ : LineD)]) := Lib.hid (by
            rw [hstep.out, if_pos, ← hqd.out]
            rw [hqd.out]; exact hkk.out)
          go_wp2_with (first | ((with_reducible refine at_slot 54 ?_); refine wpList_load_mid rfl 28 (.tmp 53) rfl g (o + k * 4) rfl [.int .i64 q.head, .string Nq, .string Fq, .string Vq] _ hrow.out Try.underlying28 rfl line5InfoG ?_) | ((with_reducible refine at_slot 56 ?_); go_must (refine wpList_append_r rfl (.tmp 50) (.tmp 55) 22 28 rfl i0 _ 56 Try.underlying22 hi0 hi1 hi2 hi3 rfl (by decide) (by decide) lineVals_len w2 _ D.length D rfl rfl (hOx.out.keep ((Keeps.refl (fun _ => False) _).alloc _) (fun _ _ f => f)) _ rfl ⟨q.head, Nq.data.toList, Fq.data.toList, Vq.data.toList⟩ (cells_new rfl _ _) (lineVals_one _) (by have := hdl'.out; omega) ?_); intro q8 d8 w8 hO8 hg8))
          have hK8 := Lib.hid (OwnR.keeps (hOx.out.keep ((Keeps.refl (fun _ => False) _).alloc _) (fun _ _ f => f)) (hkx.out.alloc _) hg8.out)
          refine ⟨⟨k + 1, q8, d8, by omega, by go_num, by rw [hsame.out]; simp, by rw [hsame.out]; exact hO8, hK8⟩, by simp [intOf]; omega⟩
      · have e1 : (q.head != h) = true := by simp [a1]
        have hkk : Hid (keepB h N.data.toList L.data.toList ⟨q.head, Nq.data.toList, Fq.data.toList, Vq.data.toList⟩ = true) := Lib.hid (by unfold keepB; simp [a1])
        clear a1
        have hsame : Hid (dK h N.data.toList L.data.toList ls (k + 1) = D ++ [(⟨q.head, Nq.data.toList, Fq.data.toList, Vq.data.toList⟩ : LineD)]) := Lib.hid (by
          rw [hstep.out, if_pos, ← hqd.out]
          rw [hqd.out]; exact hkk.out)
        go_wp2_with (first | ((with_reducible refine at_slot 54 ?_); refine wpList_load_mid rfl 28 (.tmp 53) rfl g (o + k * 4) rfl [.int .i64 q.head, .string Nq, .string Fq, .string Vq] _ hrow.out Try.underlying28 rfl line5InfoG ?_) | ((with_reducible refine at_slot 56 ?_); go_must (refine wpList_append_r rfl (.tmp 50) (.tmp 55) 22 28 rfl i0 _ 56 Try.underlying22 hi0 hi1 hi2 hi3 rfl (by decide) (by decide) lineVals_len w2 _ D.length D rfl rfl (hOx.out.keep ((Keeps.refl (fun _ => False) _).alloc _) (fun _ _ f => f)) _ rfl ⟨q.head, Nq.data.toList, Fq.data.toList, Vq.data.toList⟩ (cells_new rfl _ _) (lineVals_one _) (by have := hdl'.out; omega) ?_); intro q8 d8 w8 hO8 hg8))
        have hK8 := Lib.hid (OwnR.keeps (hOx.out.keep ((Keeps.refl (fun _ => False) _).alloc _) (fun _ _ f => f)) (hkx.out.alloc _) hg8.out)
        refine ⟨⟨k + 1, q8, d8, by omega, by go_num, by rw [hsame.out]; simp, by rw [hsame.out]; exact hO8, hK8⟩, by simp [intOf]; omega⟩
    · obtain rfl : k = ls.length := by omega
      have hend : Hid (delC h N.data.toList L.data.toList ls = D) := Lib.hid (by rw [← hdk'.out]; unfold delC dK; rw [List.take_length])
      clear hlk hk hdl
      by_cases hsz : D.length = ls.length
      · have e5 : ((D.length : Int) == ls.length) = true := by simp [hsz]
        have hsz' := Lib.hid hsz
        clear hsz
        go_wp2_with fail
        go_ret2
        rw [hend.out]
        exact ⟨fun _ => rfl, fun hh => absurd hsz'.out hh, hK2.out.trans hKw.out⟩
      · have e5 : ((D.length : Int) == ls.length) = false := by simp; omega
        have hsz' := Lib.hid hsz
        clear hsz
        go_wp2_with fail
        go_ret2
        rw [hend.out]
        exact ⟨fun hh => absurd hh hsz'.out, fun _ => ⟨qa, d, rfl, hO.out.older hK2.out.size⟩, hK2.out.trans hKw.out⟩
end Go.Proofs.Ytdjmhjgfjbcdkaa
/- conf.Set of a wrong line; slices.Equal of lines; conf.Same, walked (gen_cgi.py). -/
set_option linter.unusedVariables false
set_option linter.unusedSimpArgs false
namespace Go.Proofs.Ytdjmhjgfjbcdkaa
open Go.RowKit

set_option maxRecDepth 100000 in
set_option maxHeartbeats 4000000 in
theorem set_no (v : Value) (ls : List LineD) (h : Int) (N F V : ByteArray) (w : World) (hv : Hid (RowsAt 4 lineVals w v ls)) (hlt : Hid (LinesLt ls 9223372036854775807)) (hn : N.size ≤ 9223372036854775807) (hvs : V.size ≤ 9223372036854775807)
    (hr : Hid (rightC ls = true)) (hx : Hid (lineB ⟨h, N.data.toList, F.data.toList, V.data.toList⟩ = false)) (hlen : ls.length ≤ 64) :
    Calls Try.prog 12 #[v, .agg #[.int .i64 h, .string N, .string F, .string V]] w (NewRes (.tuple #[.slice none 0 0, .int .i64 1]) w) := by
  obtain ⟨p, c, rfl⟩ := hv.out.slice
  have hLn := Lib.hid hv.out.lines
  have hB : Hid (BlkAt (w.alloc (.cells #[.int .i64 h, .string N, .string F, .string V] 36)) w.heap.size 36 [.int .i64 h, .string N, .string F, .string V]) := Lib.hid (BlkAt.new _ _ _)
  have hK0 : Hid (Keeps (fun _ => False) w (w.alloc (.cells #[.int .i64 h, .string N, .string F, .string V] 36))) := Lib.hid ((Keeps.refl _ _).alloc _)
  go_enter Try.func12, Try.ntmps12
  go_upto_region 1 with fail
  generalize w.alloc (.cells #[.int .i64 h, .string N, .string F, .string V] 36) = w1 at hB hK0 ⊢
  refine wp_region_noPanic ?_
  refine wp_region_held_drew (S := (fun W => Keeps (fun _ => False) w1 W)) (by kernel_rfl) (((Keeps.refl _ _).drew)) (fun hHeld => ?_)
  refine tk 0 rfl ?_
  refine stepL 1 rfl (by kernel_rfl) (fun K hK => ?_)
  go_simp
  (refine (right_c _ ls true _ (Lib.hid (hLn.out.keep (hK0.out.trans hHeld) (fun _ _ _ f => f))) (by omega) hlt hr).mono ?_; rintro e w2 ⟨rfl, k2⟩; have k2' := Lib.hid k2; clear k2)
  go_wp2_with fail
  refine hK.out _ _ ((hHeld.trans k2'.out)) (fun hHeld => ?_)
  clear hK K
  try simp only [Act.put, sA, sZ, sS]
  refine tk 2 rfl ?_
  refine tk 3 rfl ?_
  refine tkL 4 rfl (yieldsIf_load_mid (by rfl) 36 (.tmp 3) rfl w.heap.size 0 rfl [.int .i64 h, .string N, .string F, .string V] _ (fun _ s => (hB.out.keep s id).range) Try.underlying36 rfl lineInfo) ?_
  refine stepL 5 rfl (by kernel_rfl) (fun K hK => ?_)
  go_simp
  (refine (table_any _).mono ?_; rintro e w3 ⟨gt, rfl, hgt, t3, k3⟩; have k3' := Lib.hid k3; have t3' := Lib.hid t3; clear k3 t3 hgt)
  go_wp2_with fail
  refine hK.out _ _ ((hHeld.trans k3'.out)) (fun hHeld => ?_)
  clear hK K
  try simp only [Act.put, sA, sZ, sS]
  refine stepL 6 rfl (by kernel_rfl) (fun K hK => ?_)
  go_simp
  (refine (canBe_any h N F V gt _ false _ hn hvs t3' hx).mono ?_; rintro e w4 ⟨rfl, k4⟩; have k4' := Lib.hid k4; clear k4 t3')
  go_wp2_with fail
  refine hK.out _ _ ((hHeld.trans k4'.out)) (fun hHeld => ?_)
  clear hK K
  try simp only [Act.put, sA, sZ, sS]
  refine tk 7 rfl ?_
  refine tk 8 rfl ?_
  refine wpAnyH_done (by kernel_rfl) (NoPanic.normal ?_) _
  have hK4 := Lib.hid (hK0.out.trans hHeld)
  clear hHeld
  go_wp2_with fail
  go_ret2
  exact ⟨rfl, hK4.out⟩

theorem lineC_neq (W : World) (h1 h2 : Int) (n1 f1 v1 n2 f2 v2 : ByteArray) (z : Bool) (hz : (z = false) ↔ (h1 = h2 ∧ n1.toList = n2.toList ∧ f1.toList = f2.toList ∧ v1.toList = v2.toList)) :
    (binOp .neq 36 (.agg #[.int .i64 h1, .string n1, .string f1, .string v1]) (.agg #[.int .i64 h2, .string n2, .string f2, .string v2])).run Try.prog W = .ok (.bool z) W := by
  by_cases e1 : h1 = h2
  · subst e1
    by_cases e2 : n1.toList = n2.toList
    · by_cases e3 : f1.toList = f2.toList
      · by_cases e4 : v1.toList = v2.toList
        · obtain rfl : z = false := hz.2 ⟨rfl, e2, e3, e4⟩
          go_simp
        · obtain rfl : z = true := by cases z with | true => rfl | false => exact absurd (hz.1 rfl).2.2.2 e4
          go_simp
      · obtain rfl : z = true := by cases z with | true => rfl | false => exact absurd (hz.1 rfl).2.2.1 e3
        go_simp
    · obtain rfl : z = true := by cases z with | true => rfl | false => exact absurd (hz.1 rfl).2.1 e2
      go_simp
  · obtain rfl : z = true := by cases z with | true => rfl | false => exact absurd (hz.1 rfl).1 e1
    go_simp
theorem guardLineC (op : BinOp) (x y : Operand) (xs ys : Array Value) (w : World) : (eqGuard op 36 x y (.agg xs) (.agg ys)).run Try.prog w = .ok () w := run_eqGuard_agg w op 36 x y xs ys (by kernel_rfl)
set_option maxRecDepth 100000 in
set_option maxHeartbeats 4000000 in
theorem equal_c (v u : Value) (xs ys : List LineD) (z : Bool) (w : World) (hv : Hid (RowsAt 4 lineVals w v xs)) (hu : Hid (RowsAt 4 lineVals w u ys)) (hl : xs.length ≤ 1000000) (hl2 : ys.length ≤ 1000000) (hz : Hid ((z = true) ↔ xs = ys)) :
    Calls Try.prog 46 #[v, u] w (NewRes (.bool z) w) := by
  obtain ⟨p, c, rfl⟩ := hv.out.slice
  obtain ⟨p2, c2, rfl⟩ := hu.out.slice
  by_cases hlen : xs.length = ys.length
  · have hlen' := Lib.hid hlen
    have hne : ((xs.length : Int) != ys.length) = false := by simp [hlen]
    clear hlen
    go_enter Try.func46, Try.ntmps46
    go_wp2_with fail
    go_loopw [13] (fun iv wr => ∃ (k : Nat), k ≤ xs.length ∧ iv = .int .i64 k ∧ Hid (xs.take k = ys.take k) ∧ Hid (Keeps (fun _ => False) w wr)) (fun iv _ => xs.length - (intOf iv).toNat)
    case atStart => exact ⟨0, by omega, rfl, Lib.hid rfl, Lib.hid (Keeps.refl _ _)⟩
    case round =>
      obtain ⟨k, hk, rfl, hT, hKw⟩ := hrel
      by_cases hlk : k < xs.length
      · have hlk2 : k < ys.length := by have := hlen'.out; omega
        obtain ⟨g, o, rfl, hrows⟩ := hv.out.open (by omega)
        obtain ⟨g2, o2, rfl, hrows2⟩ := hu.out.open (by omega)
        obtain ⟨x, hx⟩ : ∃ q, xs[k]? = some q := ⟨_, List.getElem?_eq_getElem hlk⟩
        obtain ⟨y, hy⟩ : ∃ q, ys[k]? = some q := ⟨_, List.getElem?_eq_getElem hlk2⟩
        obtain ⟨Nx, hN⟩ : ∃ N : ByteArray, N = ⟨x.name.toArray⟩ := ⟨_, rfl⟩
        obtain ⟨Fx, hF⟩ : ∃ N : ByteArray, N = ⟨x.leaf.toArray⟩ := ⟨_, rfl⟩
        obtain ⟨Vx, hV⟩ : ∃ N : ByteArray, N = ⟨x.value.toArray⟩ := ⟨_, rfl⟩
        obtain ⟨Ny, hN2⟩ : ∃ N : ByteArray, N = ⟨y.name.toArray⟩ := ⟨_, rfl⟩
        obtain ⟨Fy, hF2⟩ : ∃ N : ByteArray, N = ⟨y.leaf.toArray⟩ := ⟨_, rfl⟩
        obtain ⟨Vy, hV2⟩ : ∃ N : ByteArray, N = ⟨y.value.toArray⟩ := ⟨_, rfl⟩
        have hrow : Hid (wr.rangeAt g (o + k * 4) [.int .i64 x.head, .string Nx, .string Fx, .string Vx]) := Lib.hid (by rw [hN, hF, hV]; exact hKw.out.rangeAt (hrows k x hx) id)
        have hrow2 : Hid (wr.rangeAt g2 (o2 + k * 4) [.int .i64 y.head, .string Ny, .string Fy, .string Vy]) := Lib.hid (by rw [hN2, hF2, hV2]; exact hKw.out.rangeAt (hrows2 k y hy) id)
        obtain ⟨zz, hzz⟩ : ∃ b : Bool, (b = false) ↔ x = y := by
          by_cases e : x = y
          · exact ⟨false, by simp [e]⟩
          · exact ⟨true, by simp [e]⟩
        have hzz2 : Hid ((zz = false) ↔ (x.head = y.head ∧ Nx.toList = Ny.toList ∧ Fx.toList = Fy.toList ∧ Vx.toList = Vy.toList)) := Lib.hid (by
          rw [hzz]
          simp only [Lib.toList_data, hN, hF, hV, hN2, hF2, hV2]
          constructor
          · rintro rfl; exact ⟨rfl, rfl, rfl, rfl⟩
          · rintro ⟨a1, a2, a3, a4⟩
            cases x; cases y; simp at a1 a2 a3 a4; simp [a1, a2, a3, a4])
        have hx' := Lib.hid hx; have hy' := Lib.hid hy; have hzz' := Lib.hid hzz
        have m1 : (0 : Int) ≤ (k : Int) := by omega
        have m2 : (k : Int) < (xs.length : Int) := by omega
        have m3 : (k : Int) < (ys.length : Int) := by omega
        clear hrows hrows2 hN hF hV hN2 hF2 hV2 hx hy hzz
        go_upto_region 6 with fail
        refine wp_region_noPanic ?_
        refine wp_region_held_drew (S := (fun W => Keeps (fun _ => False) wr W)) (by kernel_rfl) (((Keeps.refl _ _).drew)) (fun hHeld => ?_)
        refine tk 0 rfl ?_
        refine tk 1 rfl ?_
        refine tk 2 rfl ?_
        refine tkL 3 rfl (yieldsIf_load_mid (by rfl) 36 (.tmp 18) rfl g (o + k * 4) rfl [.int .i64 x.head, .string Nx, .string Fx, .string Vx] _ (fun _ s => s.rangeAt hrow.out id) Try.underlying36 rfl lineInfo) ?_
        refine tk 4 rfl ?_
        refine tk 5 rfl ?_
        refine tk 6 rfl ?_
        refine tkL 7 rfl (yieldsIf_load_mid (by rfl) 36 (.tmp 22) rfl g2 (o2 + k * 4) rfl [.int .i64 y.head, .string Ny, .string Fy, .string Vy] _ (fun _ s => s.rangeAt hrow2.out id) Try.underlying36 rfl lineInfo) ?_
        refine tk 8 (v := .bool zz) (hy := fun wS hSw => by
          have hl := lineC_neq wS x.head y.head Nx Fx Vx Ny Fy Vy zz hzz2.out
          unfold execOp
          simp only [Act.eval, Array.getD_eq_getD_getElem?, List.getElem?_toArray, List.getElem?_cons_zero, List.getElem?_cons_succ, Option.getD_some, Sem.run_bind, Sem.run_pure, Result.andThen_ok, guardLineC, hl]) rfl ?_
        refine wpAnyH_done (by kernel_rfl) (NoPanic.normal ?_) _
        have hKz := Lib.hid (hKw.out.trans hHeld)
        clear hHeld
        cases zz with
        | true =>
          have hzf : Hid (z = false) := Lib.hid (by
            cases z with
            | false => rfl
            | true =>
              have e := hz.out.1 rfl
              have h1 := hx'.out; rw [e, hy'.out] at h1
              injection h1 with h1
              exact absurd (hzz'.out.2 h1.symm) (by decide))
          go_wp2_with fail
          go_ret
          exact ⟨by rw [hzf.out]; rfl, hKz.out⟩
        | false =>
          have exy : x = y := hzz'.out.1 rfl
          have hT2 : Hid (xs.take (k + 1) = ys.take (k + 1)) := Lib.hid (by
            obtain ⟨a1, a2⟩ := List.getElem?_eq_some_iff.1 hx'.out
            obtain ⟨b1, b2⟩ := List.getElem?_eq_some_iff.1 hy'.out
            rw [List.take_succ_eq_append_getElem a1, List.take_succ_eq_append_getElem b1, a2, b2, hT.out, exy])
          clear exy
          go_wp2_with fail
          exact ⟨⟨k + 1, by omega, by go_num, hT2, hKz⟩, by simp [intOf]; omega⟩
      · obtain rfl : k = xs.length := by omega
        have hzt : Hid (z = true) := Lib.hid (hz.out.2 (by
          have e := hT.out
          rw [List.take_length, List.take_of_length_le (by rw [hlen'.out]; exact Nat.le_refl _)] at e
          exact e))
        go_wp2_with fail
        go_ret
        exact ⟨by rw [hzt.out]; rfl, hKw.out⟩
  · have hne : ((xs.length : Int) != ys.length) = true := by simp; omega
    have hzf : Hid (z = false) := Lib.hid (by
      cases z with
      | false => rfl
      | true => exact absurd (congrArg List.length (hz.out.1 rfl)) hlen)
    clear hlen
    go_enter Try.func46, Try.ntmps46
    go_wp2_with fail
    go_ret
    exact ⟨by rw [hzf.out]; rfl, Keeps.refl _ _⟩

set_option maxRecDepth 100000 in
set_option maxHeartbeats 4000000 in
theorem same_c (v u : Value) (xs ys : List LineD) (z : Bool) (w : World) (hv : Hid (RowsAt 4 lineVals w v xs)) (hu : Hid (RowsAt 4 lineVals w u ys)) (hr : Hid (rightC xs = true)) (hr2 : Hid (rightC ys = true)) (hz : Hid ((z = true) ↔ xs = ys)) :
    Calls Try.prog 30 #[v, u] w (NewRes (.bool z) w) := by
  have l1 := right_len hr.out
  have l2 := right_len hr2.out
  obtain ⟨p, c, rfl⟩ := hv.out.slice
  obtain ⟨p2, c2, rfl⟩ := hu.out.slice
  go_enter Try.func30, Try.ntmps30
  go_wp2_with fail
  refine (right_c _ xs true _ (Lib.hid hv.out.lines) (by omega) (Lib.hid (right_lt hr.out _ (by omega))) hr).mono ?_
  rintro e w2 ⟨rfl, k2⟩
  have hv2 := Lib.hid (hv.out.keep k2); have hu2 := Lib.hid (hu.out.keep k2); have hK2 := Lib.hid k2
  clear k2
  go_wp2_with fail
  refine (right_c _ ys true _ (Lib.hid hu2.out.lines) (by omega) (Lib.hid (right_lt hr2.out _ (by omega))) hr2).mono ?_
  rintro e w3 ⟨rfl, k3⟩
  have hv3 := Lib.hid (hv2.out.keep k3); have hu3 := Lib.hid (hu2.out.keep k3); have hK3 := Lib.hid (hK2.out.trans k3)
  clear k3
  go_wp2_with fail
  refine (equal_c _ _ xs ys z _ hv3 hu3 (by omega) (by omega) hz).mono ?_
  rintro e w4 ⟨rfl, k4⟩
  have hK4 := Lib.hid (hK3.out.trans k4)
  clear k4
  go_wp2_with fail
  go_ret
  exact ⟨rfl, hK4.out⟩
end Go.Proofs.Ytdjmhjgfjbcdkaa
/- What Set and Delete change, plain. -/
set_option linter.unusedVariables false
set_option linter.unusedSimpArgs false
namespace Go.Proofs.Ytdjmhjgfjbcdkaa
open Go.RowKit

def bareL (x : LineD) : LineD := ⟨x.head, x.name, x.leaf, []⟩
theorem posL_bare (x : LineD) : ∀ ls : List LineD, posL (bareL x) ls = posL x ls := by
  intro ls
  induction ls with
  | nil => rfl
  | cons q ls ih =>
    have e : lessB q (bareL x) = lessB q x := rfl
    rw [posL, posL, e, ih]
theorem thereB_bare (x : LineD) (ls : List LineD) : thereB (bareL x) ls = thereB x ls := by
  unfold thereB
  rw [posL_bare]
  cases ls[posL x ls]? <;> rfl
theorem less_irr (a : LineD) : lessB a a = false := by
  cases h : lessB a a with
  | false => rfl
  | true => have := less_asymm h; rw [h] at this; cases this
theorem key_eq {a b : LineD} (h1 : lessB a b = false) (h2 : lessB b a = false) : a.head = b.head ∧ a.name = b.name ∧ a.leaf = b.leaf := by
  have a1 := (not_congr (lessB_iff a b)).1 (by rw [h1]; exact Bool.false_ne_true)
  have a2 := (not_congr (lessB_iff b a)).1 (by rw [h2]; exact Bool.false_ne_true)
  have eh : a.head = b.head := by
    have : ¬ a.head < b.head := fun h' => a1 (.inl h')
    have : ¬ b.head < a.head := fun h' => a2 (.inl h')
    omega
  have en : a.name = b.name := bl_tri (Bool.eq_false_iff.2 fun h' => a1 (.inr ⟨eh, .inl h'⟩)) (Bool.eq_false_iff.2 fun h' => a2 (.inr ⟨eh.symm, .inl h'⟩))
  exact ⟨eh, en, bl_tri (Bool.eq_false_iff.2 fun h' => a1 (.inr ⟨eh, .inr ⟨en, h'⟩⟩)) (Bool.eq_false_iff.2 fun h' => a2 (.inr ⟨eh.symm, .inr ⟨en.symm, h'⟩⟩))⟩
theorem less_key {a b : LineD} (h : lessB a b = true) : ¬ (a.head = b.head ∧ a.name = b.name ∧ a.leaf = b.leaf) := by
  rintro ⟨h1, h2, h3⟩
  rw [lessB_iff] at h
  rw [h1, h2, h3] at h
  rcases h with h | ⟨_, h | ⟨_, h⟩⟩
  · omega
  · rw [bl_irr] at h; cases h
  · rw [bl_irr] at h; cases h
/-- each line stands at its place -/
theorem find_at {q : LineD} : ∀ {ls : List LineD}, rises ls → q ∈ ls → ls[posL q ls]? = some q := by
  intro ls
  induction ls with
  | nil => intro _ h; cases h
  | cons a ls ih =>
    intro h hq
    rcases List.mem_cons.1 hq with rfl | hq
    · rw [posL, if_neg (by rw [less_irr]; exact Bool.false_ne_true)]; rfl
    · rw [posL, if_pos (rises_head h q hq)]
      simpa using ih (rises_tail h) hq
theorem there_at {q : LineD} {ls : List LineD} (h : rises ls) (hq : q ∈ ls) : thereB q ls = true := by
  unfold thereB
  rw [find_at h hq]
  simp [less_irr]
theorem mem_self (x : LineD) (ls : List LineD) : x ∈ setC x ls := by
  unfold setC
  exact List.mem_append_right _ (List.mem_cons_self ..)
theorem setC_again {x : LineD} {ls : List LineD} (h : rises ls) : setC x (setC x ls) = setC x ls := by
  have hr := rises_setC (x := x) h
  have hm := mem_self x ls
  generalize setC x ls = d at hr hm
  have ht := there_at hr hm
  have hf := find_at hr hm
  obtain ⟨hk, e⟩ := List.getElem?_eq_some_iff.1 hf
  unfold setC
  rw [if_pos ht]
  have h1 : d.drop (posL x d) = x :: d.drop (posL x d + 1) := by rw [List.drop_eq_getElem_cons hk, e]
  rw [← h1, List.take_append_drop]
theorem mem_other {x q : LineD} : ∀ {ls : List LineD}, q ∈ ls → ¬ (q.head = x.head ∧ q.name = x.name ∧ q.leaf = x.leaf) → q ∈ setC x ls := by
  intro ls
  induction ls with
  | nil => intro h; cases h
  | cons a ls ih =>
    intro hq hk
    cases ha : lessB a x with
    | true =>
      rw [setC_ahead ha]
      rcases List.mem_cons.1 hq with rfl | hq
      · exact List.mem_cons_self ..
      · exact List.mem_cons_of_mem _ (ih hq hk)
    | false =>
      cases hx : lessB x a with
      | true => rw [setC_here ha hx]; exact List.mem_cons_of_mem _ hq
      | false =>
        rw [setC_same ha hx]
        rcases List.mem_cons.1 hq with rfl | hq
        · exact absurd (key_eq ha hx) hk
        · exact List.mem_cons_of_mem _ hq
theorem keep_not {x q : LineD} (hl : x.leaf ≠ []) (hk : ¬ (x.head = q.head ∧ x.name = q.name ∧ x.leaf = q.leaf)) : keepB x.head x.name x.leaf q = true := by
  unfold keepB
  by_cases a1 : q.head = x.head
  · by_cases a2 : q.name = x.name
    · have a3 : q.leaf ≠ x.leaf := fun e => hk ⟨a1.symm, a2.symm, e.symm⟩
      simp [hl, a3]
    · simp [a2]
  · simp [a1]
theorem keep_self (x : LineD) : keepB x.head x.name x.leaf x = false := by unfold keepB; simp
theorem del_len {x : LineD} (hl : x.leaf ≠ []) : ∀ {ls : List LineD}, rises ls → x ∈ ls → (delC x.head x.name x.leaf ls).length + 1 = ls.length := by
  intro ls
  induction ls with
  | nil => intro _ h; cases h
  | cons a ls ih =>
    intro h hx
    by_cases e : a = x
    · subst e
      have hall : ls.filter (keepB a.head a.name a.leaf) = ls := List.filter_eq_self.2 fun q hq => keep_not hl (less_key (rises_head h q hq))
      unfold delC
      rw [List.filter_cons, keep_self, hall]; rfl
    · have hx2 : x ∈ ls := by rcases List.mem_cons.1 hx with h' | h'; exact absurd h'.symm e; exact h'
      have hk : keepB x.head x.name x.leaf a = true := keep_not hl (fun ⟨e1, e2, e3⟩ => less_key (rises_head h x hx2) ⟨e1.symm, e2.symm, e3.symm⟩)
      have := ih (rises_tail h) hx2
      unfold delC at this ⊢
      rw [List.filter_cons, hk, if_pos rfl, List.length_cons, List.length_cons]; omega
theorem del_again (h : Int) (n l : List UInt8) (ls : List LineD) : delC h n l (delC h n l ls) = delC h n l ls := by unfold delC; rw [List.filter_filter]; simp
theorem rises_filter (f : LineD → Bool) : ∀ {ls : List LineD}, rises ls → rises (ls.filter f) := by
  intro ls
  induction ls with
  | nil => intro _; trivial
  | cons a ls ih =>
    intro h
    rw [List.filter_cons]
    split
    · exact rises_cons (fun b hb => rises_head h b ((List.mem_filter.1 hb).1)) (ih (rises_tail h))
    · exact ih (rises_tail h)
theorem right_del {h : Int} {n l : List UInt8} {ls : List LineD} (hr : rightC ls = true) : rightC (delC h n l ls) = true :=
  right_of (fun q hq => right_line hr q ((List.mem_filter.1 hq).1)) (rises_filter _ (right_rises hr)) (Nat.le_trans (List.length_filter_le _ _) (right_len hr))
theorem leaf_ne {x : LineD} (h : lineB x = true) : x.leaf ≠ [] := by
  unfold lineB at h
  cases hf : findD x.head x.leaf with
  | none => rw [hf] at h; cases h
  | some r =>
    have hm : r ∈ tableD := List.mem_of_find?_eq_some hf
    have hp := List.find?_some hf
    rw [decide_eq_true_eq] at hp
    have hall : ∀ q ∈ tableD, q.name ≠ [] := by decide
    rw [← hp.2]; exact hall r hm
end Go.Proofs.Ytdjmhjgfjbcdkaa
