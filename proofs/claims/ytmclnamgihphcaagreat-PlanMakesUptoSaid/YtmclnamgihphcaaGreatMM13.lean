/- diff.ahead, walked; what changes, plain. -/
import Derived.Test.YtmclnamgihphcaaGreatMM12
import Derived.Deep.DeepCutAuto
set_option linter.unusedVariables false
set_option linter.unusedSimpArgs false
set_option linter.unusedVariables false
set_option linter.unusedSimpArgs false
namespace Go.Proofs.YtmclnamgihphcaaGreat
open Go.RowKit

structure ChD where
  line : LineD
  old : List UInt8
  new : List UInt8
def cVals (c : ChD) : List Value := [.int .i64 c.line.head, strv c.line.name, strv c.line.leaf, strv c.line.value, strv c.old, strv c.new]
def zeroL : LineD := ⟨0, [], [], []⟩
def aheadB (a b : List LineD) : Bool := match a, b with
  | [], _ => false
  | _ :: _, [] => true
  | x :: _, y :: _ => !lessB y x
def oneCh (l : LineD) (was is : List UInt8) : List ChD := if was = is then [] else [⟨⟨l.head, l.name, l.leaf, []⟩, was, is⟩]
def nextL (a b : List LineD) : List LineD := if aheadB a b = true then a.tail else a
def stepCh (a b : List LineD) : List ChD :=
  oneCh (if aheadB b a = true then b.headD zeroL else if aheadB a b = true then a.headD zeroL else zeroL) (if aheadB a b = true then (a.headD zeroL).value else []) (if aheadB b a = true then (b.headD zeroL).value else [])
def mergeC : Nat → List LineD → List LineD → List ChD
  | 0, _, _ => []
  | n + 1, a, b => if a = [] ∧ b = [] then [] else stepCh a b ++ mergeC n (nextL a b) (nextL b a)
theorem ahead_one {a b : List LineD} (h : ¬ (a = [] ∧ b = [])) : aheadB a b = true ∨ aheadB b a = true := by
  cases a with
  | nil =>
    cases b with
    | nil => exact absurd ⟨rfl, rfl⟩ h
    | cons y b => right; rfl
  | cons x a =>
    cases b with
    | nil => left; rfl
    | cons y b =>
      unfold aheadB
      cases h1 : lessB y x with
      | false => left; show (!lessB y x) = true; rw [h1]; rfl
      | true => right; show (!lessB x y) = true; rw [less_asymm h1]; rfl
theorem next_len (a b : List LineD) : (nextL a b).length ≤ a.length := by unfold nextL; split <;> simp
theorem next_lt {a b : List LineD} (h : aheadB a b = true) : (nextL a b).length + 1 = a.length := by
  unfold nextL
  rw [if_pos h]
  cases a with
  | nil => cases h
  | cons x a => rfl
theorem oneCh_len (l : LineD) (a b : List UInt8) : (oneCh l a b).length ≤ 1 := by unfold oneCh; split <;> simp
theorem mergeC_len : ∀ (n : Nat) (a b : List LineD), a.length + b.length ≤ n → (mergeC n a b).length ≤ n := by
  intro n
  induction n with
  | zero => intro a b _; simp [mergeC]
  | succ n ih =>
    intro a b h
    unfold mergeC
    split
    · simp
    · rename_i hne
      have h1 : (stepCh a b).length ≤ 1 := oneCh_len _ _ _
      have h2 := next_len a b
      have h3 := next_len b a
      have h4 : (nextL a b).length + (nextL b a).length ≤ n := by
        rcases ahead_one hne with e | e
        · have := next_lt e; omega
        · have := next_lt e; omega
      have := ih _ _ h4
      rw [List.length_append]; omega

set_option maxRecDepth 100000 in
set_option maxHeartbeats 4000000 in
theorem ahead_any (v u : Value) (a b : List LineD) (z : Bool) (w : World) (hv : Hid (RowsAt 4 lineVals w v a)) (hu : Hid (RowsAt 4 lineVals w u b)) (hz : Hid (aheadB a b = z)) :
    Calls Tryz.prog 37 #[v, u] w (NewRes (.bool z) w) := by
  obtain ⟨p, c, rfl⟩ := hv.out.slice
  obtain ⟨q, d, rfl⟩ := hu.out.slice
  go_enter Tryz.func37, Tryz.ntmps37
  go_upto_region 1 with fail
  cases a with
  | nil =>
    refine wp_region_noPanic ?_
    refine wp_region_held_drew (S := (fun W => Keeps (fun _ => False) w W)) (by kernel_rfl) (((Keeps.refl _ _).drew)) (fun hHeld => ?_)
    refine tk 0 rfl ?_
    refine tk 1 rfl ?_
    refine tk 2 rfl ?_
    refine tk 3 rfl ?_
    refine tkS 4 rfl ?_
    refine tkS 5 rfl ?_
    refine tkS 6 rfl ?_
    refine tkS 7 rfl ?_
    refine tkS 8 rfl ?_
    refine tkS 9 rfl ?_
    refine tkS 10 rfl ?_
    refine tkS 11 rfl ?_
    refine tkS 12 rfl ?_
    refine tkS 13 rfl ?_
    refine tkS 14 rfl ?_
    refine tkS 15 rfl ?_
    refine tkS 16 rfl ?_
    refine tk 17 rfl ?_
    refine tk 18 rfl ?_
    refine wpAnyH_done (by kernel_rfl) (NoPanic.normal ?_) _
    have hk := Lib.hid hHeld
    clear hHeld
    go_wp2_with fail
    go_ret
    exact ⟨by rw [← hz.out]; rfl, hk.out⟩
  | cons x a =>
    have n1 : (0 : Int) < ((x :: a).length : Int) := by rw [List.length_cons]; omega
    cases b with
    | nil =>
      refine wp_region_noPanic ?_
      refine wp_region_held_drew (S := (fun W => Keeps (fun _ => False) w W)) (by kernel_rfl) (((Keeps.refl _ _).drew)) (fun hHeld => ?_)
      refine tk 0 rfl ?_
      refine tk 1 rfl ?_
      refine tk 2 rfl ?_
      refine tk 3 rfl ?_
      refine tk 4 rfl ?_
      refine tk 5 rfl ?_
      refine tk 6 rfl ?_
      refine tk 7 rfl ?_
      refine tkS 8 rfl ?_
      refine tkS 9 rfl ?_
      refine tkS 10 rfl ?_
      refine tkS 11 rfl ?_
      refine tkS 12 rfl ?_
      refine tkS 13 rfl ?_
      refine tkS 14 rfl ?_
      refine tkS 15 rfl ?_
      refine tk 16 rfl ?_
      refine tk 17 rfl ?_
      refine tk 18 rfl ?_
      refine wpAnyH_done (by kernel_rfl) (NoPanic.normal ?_) _
      have hk := Lib.hid hHeld
      clear hHeld
      go_wp2_with fail
      go_ret
      exact ⟨by rw [← hz.out]; rfl, hk.out⟩
    | cons y b =>
      have n2 : ¬ ((y :: b).length : Int) = 0 := by rw [List.length_cons]; omega
      have n3 : (0 : Int) < ((y :: b).length : Int) := by rw [List.length_cons]; omega
      have n4 : ((b.length : Int) + 1 == 0) = false := by simp; omega
      obtain ⟨g, o, rfl, hr1⟩ := hv.out.open (by simp)
      obtain ⟨g2, o2, rfl, hr2⟩ := hu.out.open (by simp)
      obtain ⟨XN, hXN⟩ : ∃ N : ByteArray, N = ⟨x.name.toArray⟩ := ⟨_, rfl⟩
      obtain ⟨XF, hXF⟩ : ∃ N : ByteArray, N = ⟨x.leaf.toArray⟩ := ⟨_, rfl⟩
      obtain ⟨XV, hXV⟩ : ∃ N : ByteArray, N = ⟨x.value.toArray⟩ := ⟨_, rfl⟩
      obtain ⟨YN, hYN⟩ : ∃ N : ByteArray, N = ⟨y.name.toArray⟩ := ⟨_, rfl⟩
      obtain ⟨YF, hYF⟩ : ∃ N : ByteArray, N = ⟨y.leaf.toArray⟩ := ⟨_, rfl⟩
      obtain ⟨YV, hYV⟩ : ∃ N : ByteArray, N = ⟨y.value.toArray⟩ := ⟨_, rfl⟩
      have hrx : Hid (w.rangeAt g o [.int .i64 x.head, .string XN, .string XF, .string XV]) := Lib.hid (by rw [hXN, hXF, hXV]; simpa [lineVals, strv] using hr1 0 x rfl)
      have hry : Hid (w.rangeAt g2 o2 [.int .i64 y.head, .string YN, .string YF, .string YV]) := Lib.hid (by rw [hYN, hYF, hYV]; simpa [lineVals, strv] using hr2 0 y rfl)
      obtain ⟨zl, hzl⟩ : ∃ z, lessB y x = z := ⟨_, rfl⟩
      have hzl' : Hid (lessB ⟨y.head, YN.data.toList, YF.data.toList, YV.data.toList⟩ ⟨x.head, XN.data.toList, XF.data.toList, XV.data.toList⟩ = zl) := Lib.hid (by rw [hXN, hXF, hXV, hYN, hYF, hYV]; exact hzl)
      have hzz : Hid (z = !zl) := Lib.hid (by rw [← hz.out, ← hzl]; rfl)
      clear hXN hXF hXV hYN hYF hYV hr1 hr2 hzl hz hv hu
      refine wp_region_noPanic ?_
      refine wp_region_held_drew (S := (fun W => Keeps (fun _ => False) w W)) (by kernel_rfl) (((Keeps.refl _ _).drew)) (fun hHeld => ?_)
      refine tk 0 rfl ?_
      refine tk 1 rfl ?_
      refine tk 2 rfl ?_
      refine tk 3 rfl ?_
      refine tk 4 rfl ?_
      refine tk 5 rfl ?_
      refine tk 6 rfl ?_
      refine tk 7 rfl ?_
      refine tk 8 rfl ?_
      refine tk 9 rfl ?_
      refine tkL 10 rfl (yieldsIf_load_mid (by rfl) 62 (.tmp 14) rfl g2 o2 rfl [.int .i64 y.head, .string YN, .string YF, .string YV] _ (fun _ s => s.rangeAt hry.out id) Tryz.underlying62 rfl lineInfo) ?_
      refine tk 11 rfl ?_
      refine tk 12 rfl ?_
      refine tkL 13 rfl (yieldsIf_load_mid (by rfl) 62 (.tmp 17) rfl g o rfl [.int .i64 x.head, .string XN, .string XF, .string XV] _ (fun _ s => s.rangeAt hrx.out id) Tryz.underlying62 rfl lineInfo) ?_
      refine stepL 14 rfl (by kernel_rfl) (fun K hK => ?_)
      go_simp
      (refine (less_any y.head x.head YN YF YV XN XF XV zl _ hzl').mono ?_; rintro e w4 ⟨rfl, hk4⟩)
      go_wp2_with fail
      refine hK.out _ _ (hHeld.trans hk4) (fun hHeld => ?_)
      clear hK K
      try simp only [Act.put, sA, sZ, sS]
      refine tk 15 rfl ?_
      refine tk 16 rfl ?_
      refine tk 17 rfl ?_
      refine tk 18 rfl ?_
      refine wpAnyH_done (by kernel_rfl) (NoPanic.normal ?_) _
      have hk := Lib.hid hHeld
      clear hHeld
      go_wp2_with fail
      go_ret
      exact ⟨by rw [hzz.out]; rfl, hk.out⟩
end Go.Proofs.YtmclnamgihphcaaGreat
/- Right lines are short; a right configuration with a right line more is right, plain. -/
set_option linter.unusedVariables false
set_option linter.unusedSimpArgs false
namespace Go.Proofs.YtmclnamgihphcaaGreat
open Go.RowKit

theorem decL_len {l : List UInt8} {n : Nat} (h : decL l = some n) : l.length ≤ 9 := by
  unfold decL at h
  split at h
  · rename_i h'
    simp only [Bool.and_eq_true] at h'
    have := h'.1; unfold decShape at this; rw [decide_eq_true_eq] at this; exact this.2.1
  · cases h
theorem addrGo_len : ∀ (k n : Nat) (s : List UInt8) (m : Nat), 1 ≤ k → addrGo k n s = some m → s.length ≤ 10 * k := by
  intro k
  induction k with
  | zero => intro n s m h; omega
  | succ k ih =>
    intro n s m _ h
    by_cases hd : 46 ∈ s
    · rw [addrGo_yes hd] at h
      cases hb : decL (s.take (before 46 s)) with
      | none => rw [hb] at h; cases h
      | some b =>
        rw [hb] at h
        simp only at h
        split at h
        · rename_i hc
          have h1 := decL_len hb
          have h2 := ih _ _ _ (by omega) h
          rw [List.length_take] at h1
          rw [List.length_drop] at h2
          omega
        · cases h
    · rw [addrGo_no hd] at h
      cases hb : decL s with
      | none => rw [hb] at h; cases h
      | some b => have := decL_len hb; omega
theorem addrL_len {s : List UInt8} (h : (addrL s).isSome = true) : s.length ≤ 40 := by
  obtain ⟨m, hm⟩ := Option.isSome_iff_exists.1 h
  exact addrGo_len 4 0 s m (by omega) hm
theorem netL_len {s : List UInt8} (h : (netL s).isSome = true) : s.length ≤ 50 := by
  unfold netL at h
  split at h
  · cases ha : addrL (s.take (before 47 s)) with
    | none => rw [ha] at h; simp at h
    | some a =>
      cases hb : decL (s.drop (before 47 s + 1)) with
      | none => rw [ha, hb] at h; simp at h
      | some b =>
        have h1 := addrL_len (s := s.take (before 47 s)) (by rw [ha]; rfl)
        have h2 := decL_len hb
        rw [List.length_take] at h1
        rw [List.length_drop] at h2
        omega
  · cases h
theorem isWordB_len {s : List UInt8} (h : isWordB s = true) : s.length ≤ 31 := by
  unfold isWordB at h
  rw [Bool.and_eq_true, decide_eq_true_eq] at h
  exact h.1.2
theorem line_small {l : LineD} (h : lineB l = true) : l.name.length ≤ 100 ∧ l.leaf.length ≤ 100 ∧ l.value.length ≤ 100 := by
  unfold lineB at h
  cases hf : findD l.head l.leaf with
  | none => rw [hf] at h; cases h
  | some r =>
    rw [hf] at h
    simp only [Bool.and_eq_true] at h
    have hm : r ∈ tableD := List.mem_of_find?_eq_some hf
    have hp := List.find?_some hf
    rw [decide_eq_true_eq] at hp
    have hall : ∀ q ∈ tableD, q.name.length ≤ 30 ∧ ∀ c ∈ q.cs, c.length ≤ 30 := by decide
    obtain ⟨h1, h2⟩ := hall r hm
    refine ⟨?_, by rw [← hp.2]; omega, ?_⟩
    · have hn := h.1
      unfold namedB at hn
      split at hn
      · have : l.name = [] := by simpa using hn
        rw [this]; simp
      · split at hn
        · have := addrL_len hn; omega
        · split at hn
          · rw [Bool.and_eq_true] at hn
            have := isWordB_len hn.1; omega
          · cases hn
    · have hv := h.2
      unfold rightB at hv
      split at hv
      · have := addrL_len hv; omega
      · split at hv
        · have := netL_len hv; omega
        · split at hv
          · cases hd : decL l.value with
            | none => rw [hd] at hv; cases hv
            | some n => have := decL_len hd; omega
          · split at hv
            · have := h2 l.value (by simpa using hv); omega
            · split at hv
              · rw [Bool.and_eq_true] at hv
                have := isWordB_len hv.2; omega
              · cases hv
theorem riseB_line {ls : List LineD} : ∀ {k : Nat}, riseB ls k = true → ∀ i l, i < k → ls[i]? = some l → lineB l = true := by
  intro k
  induction k with
  | zero => intro _ i l hi; omega
  | succ k ih =>
    intro h i l hi hl
    rw [riseB, Bool.and_eq_true] at h
    by_cases e : i < k
    · exact ih h.1 i l e hl
    · obtain rfl : i = k := by omega
      have h2 := h.2
      rw [hl] at h2
      simp only [Bool.and_eq_true] at h2
      exact h2.1
theorem right_line {ls : List LineD} (h : rightC ls = true) : ∀ l ∈ ls, lineB l = true := fun l hl => by
  unfold rightC at h
  rw [Bool.and_eq_true] at h
  obtain ⟨i, hi⟩ := List.getElem?_of_mem hl
  exact riseB_line h.2 i l (List.getElem?_eq_some_iff.1 hi).1 hi
theorem right_len {ls : List LineD} (h : rightC ls = true) : ls.length ≤ 64 := by
  unfold rightC at h
  rw [Bool.and_eq_true, decide_eq_true_eq] at h
  exact h.1
theorem right_lt {ls : List LineD} (h : rightC ls = true) (m : Nat) (hm : 100 ≤ m) : LinesLt ls m := fun l hl => by
  have := line_small (right_line h l hl)
  omega
theorem rises_at {ls : List LineD} (h : rises ls) : ∀ i a b, ls[i]? = some a → ls[i + 1]? = some b → lessB a b = true := by
  induction ls with
  | nil => intro i a b ha; simp at ha
  | cons q ls ih =>
    intro i a b ha hb
    cases i with
    | zero =>
      simp at ha; subst ha
      exact rises_head h b (List.mem_of_getElem? (by simpa using hb))
    | succ i => exact ih (rises_tail h) i a b (by simpa using ha) (by simpa using hb)
theorem riseB_of {ls : List LineD} (h1 : ∀ l ∈ ls, lineB l = true) (h2 : rises ls) : ∀ k, k ≤ ls.length → riseB ls k = true := by
  intro k
  induction k with
  | zero => intro _; rfl
  | succ k ih =>
    intro hk
    rw [riseB, ih (by omega), Bool.true_and]
    have hq : ls[k]? = some ls[k] := List.getElem?_eq_getElem (by omega)
    rw [hq]
    simp only [h1 _ (List.getElem_mem _), Bool.true_and]
    cases k with
    | zero => rfl
    | succ j =>
      have hj : ls[j]? = some ls[j] := List.getElem?_eq_getElem (by omega)
      simp only [hj]
      exact rises_at h2 j _ _ hj hq
theorem right_of {ls : List LineD} (h1 : ∀ l ∈ ls, lineB l = true) (h2 : rises ls) (h3 : ls.length ≤ 64) : rightC ls = true := by
  unfold rightC
  rw [riseB_of h1 h2 _ (Nat.le_refl _)]
  simp [h3]
theorem setC_ahead {x q : LineD} {ls : List LineD} (h : lessB q x = true) : setC x (q :: ls) = q :: setC x ls := by
  have hp : posL x (q :: ls) = posL x ls + 1 := by rw [posL, if_pos h]
  have ht : thereB x (q :: ls) = thereB x ls := by unfold thereB; rw [hp]; simp
  unfold setC
  rw [hp, ht]
  split <;> simp [Nat.add_right_comm]
theorem setC_here {x q : LineD} {ls : List LineD} (h : lessB q x = false) (h2 : lessB x q = true) : setC x (q :: ls) = x :: q :: ls := by
  have hp : posL x (q :: ls) = 0 := by rw [posL, if_neg (by rw [h]; exact Bool.false_ne_true)]
  have ht : thereB x (q :: ls) = false := by unfold thereB; rw [hp]; simp [h2]
  unfold setC
  rw [hp, ht]; simp
theorem setC_same {x q : LineD} {ls : List LineD} (h : lessB q x = false) (h2 : lessB x q = false) : setC x (q :: ls) = x :: ls := by
  have hp : posL x (q :: ls) = 0 := by rw [posL, if_neg (by rw [h]; exact Bool.false_ne_true)]
  have ht : thereB x (q :: ls) = true := by unfold thereB; rw [hp]; simp [h2]
  unfold setC
  rw [hp, ht]; simp
theorem mem_setC {x l : LineD} : ∀ {ls : List LineD}, l ∈ setC x ls → l = x ∨ l ∈ ls := by
  intro ls h
  unfold setC at h
  rcases List.mem_append.1 h with h | h
  · exact .inr (List.mem_of_mem_take h)
  · rcases List.mem_cons.1 h with h | h
    · exact .inl h
    · exact .inr (List.mem_of_mem_drop h)
theorem rises_cons {a : LineD} {ls : List LineD} (h : ∀ b ∈ ls, lessB a b = true) (h2 : rises ls) : rises (a :: ls) := by
  cases ls with
  | nil => trivial
  | cons b ls => exact ⟨h b (List.mem_cons_self ..), h2⟩
theorem rises_setC {x : LineD} : ∀ {ls : List LineD}, rises ls → rises (setC x ls) := by
  intro ls
  induction ls with
  | nil => intro _; trivial
  | cons q ls ih =>
    intro h
    cases hq : lessB q x with
    | true =>
      rw [setC_ahead hq]
      refine rises_cons (fun b hb => ?_) (ih (rises_tail h))
      rcases mem_setC hb with rfl | hb
      · exact hq
      · exact rises_head h b hb
    | false =>
      cases hx : lessB x q with
      | true =>
        rw [setC_here hq hx]
        exact rises_cons (fun b hb => by
          rcases List.mem_cons.1 hb with rfl | hb
          · exact hx
          · exact less_trans hx (rises_head h b hb)) h
      | false =>
        rw [setC_same hq hx]
        exact rises_cons (fun b hb => le_trans_less hq (rises_head h b hb)) (rises_tail h)
theorem right_setC {x : LineD} {ls : List LineD} (h : rightC ls = true) (hx : lineB x = true) (hl : (setC x ls).length ≤ 64) : rightC (setC x ls) = true :=
  right_of (fun l hl => by
    rcases mem_setC hl with rfl | hl
    · exact hx
    · exact right_line h l hl) (rises_setC (right_rises h)) hl
/-- what Build makes -/
def stepB (c : List LineD) (x : LineD) : List LineD := if lineB x = true ∧ (setC x c).length ≤ 64 then setC x c else c
def buildC (ls : List LineD) : List LineD := (ls.take 100).foldl stepB []
theorem stepB_right {c : List LineD} (x : LineD) (h : rightC c = true) : rightC (stepB c x) = true := by
  unfold stepB
  split
  · rename_i h2; exact right_setC h h2.1 h2.2
  · exact h
theorem fold_right : ∀ (ls c : List LineD), rightC c = true → rightC (ls.foldl stepB c) = true := by
  intro ls
  induction ls with
  | nil => intro c h; exact h
  | cons x ls ih => intro c h; rw [List.foldl_cons]; exact ih _ (stepB_right x h)
theorem build_right (ls : List LineD) : rightC (buildC ls) = true := fold_right _ _ (by decide +kernel)
end Go.Proofs.YtmclnamgihphcaaGreat
/- diff.Lines, walked. -/
set_option linter.unusedVariables false
set_option linter.unusedSimpArgs false
namespace Go.Proofs.YtmclnamgihphcaaGreat
open Go.RowKit

def ChRes (L : List ChD) (w : World) (e : Ending) (w' : World) : Prop :=
  ∃ p c, e = .returned (.tuple #[.slice p L.length c, .int .i64 0]) ∧ OwnR 94 6 cVals w w' (.slice p L.length c) L ∧ Keeps (fun _ => False) w w'
def lenV : Value → Nat
  | .slice _ n _ => n
  | _ => 0
theorem cVals_len (c : ChD) : (cVals c).length = 6 := rfl
theorem cVals_one (c : ChD) : ∀ u ∈ cVals c, u.oneCell' = true := by
  intro u hu
  simp only [cVals, List.mem_cons, List.not_mem_nil, or_false] at hu
  rcases hu with rfl | rfl | rfl | rfl | rfl | rfl <;> first | rfl | exact strv_one _
theorem changeAll : ∃ i, Tryz.prog.info? 94 = some i ∧ i.zero = some (.agg #[.int .i64 0, .string ⟨#[]⟩, .string ⟨#[]⟩, .string ⟨#[]⟩, .string ⟨#[]⟩, .string ⟨#[]⟩]) ∧ i.size = 6 ∧ i.bytes = 88 := by
  have h : (Tryz.prog.info? 94).map (fun i => (i.zero, i.size, i.bytes)) = some (some (.agg #[.int .i64 0, .string ⟨#[]⟩, .string ⟨#[]⟩, .string ⟨#[]⟩, .string ⟨#[]⟩, .string ⟨#[]⟩]), 6, 88) := by kernel_rfl
  obtain ⟨i, hi, e⟩ := Option.map_eq_some_iff.1 h
  injection e with e1 e; injection e with e2 e3
  exact ⟨i, hi, e1, e2, e3⟩
theorem OwnR.own_ltP {α : Type} {t sz : Nat} {cv : α → List Value} {w0 w : World} {v : Value} {xs : List α} (h : OwnR t sz cv w0 w v xs) (k : Nat) (e : v.ownBlock = some k) : k < w.heap.size := by
  rcases h.1.2 with ⟨e1, _⟩ | ⟨g, cap, cur, he, _, hg, _⟩
  · rw [e1] at e; simp [Value.ownBlock] at e
  · rw [he] at e
    have e : some g = some k := e
    injection e with e; subst e; exact lt_of_block hg
theorem lines_no (v u : Value) (A B : List LineD) (w : World) (hv : Hid (RowsAt 4 lineVals w v A)) (hu : Hid (RowsAt 4 lineVals w u B)) (hl : A.length ≤ 9223372036854775807) (hl2 : B.length ≤ 9223372036854775807) (hlt : Hid (LinesLt A 9223372036854775807)) (hlt2 : Hid (LinesLt B 9223372036854775807)) (hr : Hid (rightC A = false ∨ rightC B = false)) :
    Calls Tryz.prog 15 #[v, u] w (NewRes (.tuple #[.slice none 0 0, .int .i64 1]) w) := by
  have hLn := Lib.hid hv.out.lines
  clear hv
  go_enter Tryz.func15, Tryz.ntmps15
  cases hz : rightC A with
  | false =>
    have hz' := Lib.hid hz
    clear hz hr
    go_wp2_with fail
    refine (right_c _ A false _ hLn hl hlt hz').mono ?_
    rintro e w2 ⟨rfl, k2⟩
    have k2' := Lib.hid k2
    clear k2
    go_wp2_with fail
    go_ret2
    exact ⟨rfl, k2'.out⟩
  | true =>
    have hz' := Lib.hid hz
    have hz2 : Hid (rightC B = false) := Lib.hid (hr.out.elim (fun h => by rw [hz] at h; cases h) id)
    clear hz hr
    go_wp2_with fail
    refine (right_c _ A true _ hLn hl hlt hz').mono ?_
    rintro e w2 ⟨rfl, k2⟩
    have k2' := Lib.hid k2
    have hLm := Lib.hid (hu.out.keep k2).lines
    clear k2
    go_wp2_with fail
    refine (right_c _ B false _ hLm hl2 hlt2 hz2).mono ?_
    rintro e w3 ⟨rfl, k3⟩
    have k3' := Lib.hid (k2'.out.trans k3)
    clear k3
    go_wp2_with fail
    go_ret2
    exact ⟨rfl, k3'.out⟩
theorem BlkAt.drew {w : World} {g : Nat} {t : TypeId} {x : List Value} (h : BlkAt w g t x) : BlkAt w.drew g t x := h.keep ((Keeps.refl (fun _ => False) w).drew) id
theorem BlkAt.four {w : World} {g : Nat} {t : TypeId} {p0 p1 p2 p3 : Value} (h : BlkAt w g t [p0, p1, p2, p3]) (v0 v1 v2 v3 : Value) : BlkAt (w.setCells g 0 [v0, v1, v2, v3]) g t [v0, v1, v2, v3] := (((h.set 0 v0).set 1 v1).set 2 v2).set 3 v3
theorem from_own {p : Option Addr} {n m c k j n' c' i : Nat} (e : (Value.slice (if c = k then p else Option.map (fun x => x.add j) p) n m).ownBlock = some i) : (Value.slice p n' c').ownBlock = some i := by
  cases p with
  | none => split at e <;> exact e
  | some a =>
    split at e
    · exact e
    · have h : (a.add j).block = a.block := by unfold Addr.add; split <;> rfl
      have e2 : some (a.add j).block = some i := e
      rw [h] at e2; exact e2
theorem if_own {g o o2 n m c n' c' i : Nat} (e : (Value.slice (if c = 1 then some ⟨g, o, none⟩ else some ⟨g, o2, none⟩) n m).ownBlock = some i) : (Value.slice (some ⟨g, o, none⟩) n' c').ownBlock = some i := by
  split at e <;> exact e
theorem bne_list {a b : ByteArray} (h : a.data.toList ≠ b.data.toList) : (a.toList == b.toList) = false := by rw [Lib.toList_data, Lib.toList_data]; simpa using h
theorem beq_list {a b : ByteArray} (h : a.data.toList = b.data.toList) : (a.toList == b.toList) = true := by rw [Lib.toList_data, Lib.toList_data]; simpa using h
theorem empty_list {a : ByteArray} (h : a.data.toList = []) : a.toList.isEmpty = true := by rw [Lib.toList_data, h]; rfl
theorem nonempty_list {a : ByteArray} (h : a.data.toList ≠ []) : a.toList.isEmpty = false := by rw [Lib.toList_data]; cases hh : a.data.toList with | nil => exact absurd hh h | cons => rfl
theorem nil_listb {a : ByteArray} (h : a.data.toList = []) : ([] == a.toList) = true := by rw [Lib.toList_data, h]; rfl
theorem nil_listn {a : ByteArray} (h : a.data.toList ≠ []) : ([] == a.toList) = false := by rw [Lib.toList_data]; cases hh : a.data.toList with | nil => exact absurd hh h | cons => rfl
end Go.Proofs.YtmclnamgihphcaaGreat
